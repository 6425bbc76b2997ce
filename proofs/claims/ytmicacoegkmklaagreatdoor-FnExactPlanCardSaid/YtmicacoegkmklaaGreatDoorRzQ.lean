/- Texts of one kind, put together. -/
import Derived.Test.YtmicacoegkmklaaGreatDoorRzP
import Derived.Test.YtmicacoegkmklaaGreatDoorHavR
import Derived.Test.YtmicacoegkmklaaGreatDoorRzL
import Derived.Deep.RegionHeld3

/- Repair by the specification: who has what, the first of the ranks that has it, the plan. -/
namespace Go.Proofs.YtmicacoegkmklaaGreatDoor
open Go.RowKit Plain
open Classical
set_option linter.unusedVariables false

namespace Plain
theorem anyB_dec (ls : List ByteArray) (s : ByteArray) : anyB ls s = decide (s ∈ ls) := by
  rw [Bool.eq_iff_iff, decide_eq_true_eq]
  exact anyB_mem ls s
theorem hasN_drop (ns : List Int) (hs : List (List ByteArray)) (x : Int) (d : ByteArray) (k : Nat) (h1 : k < ns.length) (h2 : k < hs.length) : hasN (ns.drop k) (hs.drop k) x d = if ns[k] = x then decide (d ∈ hs[k]) else hasN (ns.drop (k + 1)) (hs.drop (k + 1)) x d := by
  rw [List.drop_eq_getElem_cons h1, List.drop_eq_getElem_cons h2, hasN]
end Plain

set_option maxRecDepth 10000 in
set_option maxHeartbeats 1000000 in
theorem l14Has_calls (a1 : Option Addr) (n1 c1 : Nat) (ns : List Int) (a2 : Option Addr) (n2 c2 : Nat) (hs : List (List ByteArray)) (x : Int) (d : ByteArray) (w : World) (h1 : IntsAt w a1 n1 ns) (h2 : HavAt w a2 n2 hs) (hl : hs.length = ns.length) :
    Calls Tryz.prog 27 #[.slice a1 n1 c1, .slice a2 n2 c2, .int .i64 x, .string d] w fun e w' => e = .returned (.bool (hasN ns hs x d)) ∧ w = w' := by
  have H1 := hide h1
  have H2 := hide h2
  have HL := hide hl
  have hbn := h1.bn
  have HN := hide h1.len
  have hnn : n2 = n1 := by rw [← h2.1, hl, h1.len]
  subst hnn
  obtain ⟨R, hR⟩ : ∃ R, hasN ns hs x d = R := ⟨_, rfl⟩
  have HR := hide (show hasN (ns.drop 0) (hs.drop 0) x d = R from hR)
  rw [hR]
  clear h1 h2 hl hR
  go_enter Tryz.func27, Tryz.ntmps27
  go_wp2_with fail
  go_loop [9] (fun i => ∃ k : Nat, i = .int .i64 k ∧ k ≤ n2 ∧ Hid (hasN (ns.drop k) (hs.drop k) x d = R)) (fun i => n2 - (intOf i).toNat)
  case atStart => exact ⟨0, rfl, by omega, HR⟩
  case round =>
    clear HR
    obtain ⟨k, rfl, hk, HO⟩ := hrel
    by_cases hkn : k < n2
    · have k1 : k < ns.length := by rw [unhide HN]; exact hkn
      have k2 : k < hs.length := by rw [unhide HL]; exact k1
      obtain ⟨g, e1, l1, p1, -⟩ := (unhide H1).row.ix k k1
      obtain ⟨g2, ai, ci, e2, l2, p2, ht⟩ := (unhide H2).2.2 k k2
      have hst := unhide HO
      rw [hasN_drop ns hs x d k k1 k2] at hst
      have HHS := hide (l1Has_calls ai hs[k].length ci hs[k] d w rfl (by have := ht.bn; omega) ht.row.strs)
      rw [anyB_dec] at HHS
      generalize decide (d ∈ hs[k]) = b at HHS hst
      generalize hs[k].length = m at p2 HHS
      generalize ns[k] = y at p1 hst
      have i0 : (0 : Int) ≤ (k : Int) := by omega
      have i1 : (k : Int) < (n2 : Int) := by omega
      subst e1 e2
      clear HO ht
      by_cases hy : y = x
      · subst hy
        rw [if_pos rfl] at hst
        subst hst
        go_wp2_with fail
        refine (unhide HHS).mono ?_
        rintro e w1 ⟨rfl, rfl⟩
        go_wp2_with fail
        go_ret
        exact ⟨rfl, rfl⟩
      · rw [if_neg hy] at hst
        have HST := hide hst
        clear hst
        go_wp2_with fail
        go_round
        case rel => exact ⟨k + 1, by go_num, by omega, HST⟩
        case measure => simp [intOf]; omega
    · obtain rfl : k = n2 := by omega
      have hO := unhide HO
      rw [List.drop_of_length_le (by rw [unhide HN]; exact Nat.le_refl _)] at hO
      have HX := hide (show R = false from hO.symm)
      clear hO HO
      go_wp2_with fail
      go_ret
      exact ⟨by rw [unhide HX]; rfl, rfl⟩

set_option maxRecDepth 10000 in
set_option maxHeartbeats 2000000 in
theorem l14Ok_calls (ad : Option Addr) (nd cd : Nat) (ds : List ByteArray) (a1 : Option Addr) (n1 c1 : Nat) (ns : List Int) (a2 : Option Addr) (n2 c2 : Nat) (hs : List (List ByteArray)) (k : Int) (w : World) (hd : TxtsAt w ad nd ds) (h1 : IntsAt w a1 n1 ns) (h2 : HavAt w a2 n2 hs) :
    Calls Tryz.prog 24 #[.slice ad nd cd, .slice a1 n1 c1, .slice a2 n2 c2, .int .i64 k] w fun e w' => e = .returned (.bool (rpB ds ns hs k)) ∧ Below w.heap.size w w' := by
  have HD := hide (l7Set_calls ad nd cd ds w hd)
  have HI := hide (fun (W : World) (hW : Below w.heap.size w W) => l9Ids_calls a1 n1 c1 ns 50 W (h1.below hW) (by decide))
  rw [ids50 n1 ns h1.len] at HI
  have HN := hide (fun W => l1In_calls k 1 7 W)
  rw [show (decide (1 ≤ k) && decide (k ≤ 7)) = kB k from rfl] at HN
  have hlen : decide (hs.length = ns.length) = decide (n2 = n1) := by rw [h2.1, h1.len]
  have hbn := h2.2.1
  have H2 := hide h2
  unfold rpB
  rw [hlen]
  generalize setB ds = b1 at HD
  generalize okIds 0 ns = b2 at HI
  generalize kB k = b3 at HN
  clear hd h1 h2 hlen
  cases b1 with
  | false =>
    clear HI HN H2
    go_enter Tryz.func24, Tryz.ntmps24
    go_wp2_with fail
    refine (unhide HD).mono ?_
    rintro e w1 ⟨rfl, hb1⟩
    have HB1 := hide hb1
    clear hb1
    go_wp2_with fail
    go_ret
    exact ⟨rfl, unhide HB1⟩
  | true =>
    cases b2 with
    | false =>
      clear HN H2
      go_enter Tryz.func24, Tryz.ntmps24
      go_wp2_with fail
      refine (unhide HD).mono ?_
      rintro e w1 ⟨rfl, hb1⟩
      have HB1 := hide hb1
      clear hb1
      go_wp2_with fail
      refine (unhide HI _ (unhide HB1)).mono ?_
      rintro e w2 ⟨rfl, hb2⟩
      have HB2 := hide (belOnD (unhide HB1) hb2)
      clear hb2
      go_wp2_with fail
      go_ret
      exact ⟨rfl, unhide HB2⟩
    | true =>
      by_cases hnn : n2 = n1
      case neg =>
        have hne : ¬ (n2 : Int) = (n1 : Int) := by omega
        rw [decide_eq_false hnn]
        clear HN H2
        go_enter Tryz.func24, Tryz.ntmps24
        go_wp2_with fail
        refine (unhide HD).mono ?_
        rintro e w1 ⟨rfl, hb1⟩
        have HB1 := hide hb1
        clear hb1
        go_wp2_with fail
        refine (unhide HI _ (unhide HB1)).mono ?_
        rintro e w2 ⟨rfl, hb2⟩
        have HB2 := hide (belOnD (unhide HB1) hb2)
        clear hb2
        go_wp2_with fail
        go_ret
        exact ⟨rfl, unhide HB2⟩
      case pos =>
        subst hnn
        rw [decide_eq_true rfl]
        cases b3 with
        | false =>
          clear H2
          go_enter Tryz.func24, Tryz.ntmps24
          go_wp2_with fail
          refine (unhide HD).mono ?_
          rintro e w1 ⟨rfl, hb1⟩
          have HB1 := hide hb1
          clear hb1
          go_wp2_with fail
          refine (unhide HI _ (unhide HB1)).mono ?_
          rintro e w2 ⟨rfl, hb2⟩
          have HB2 := hide (belOnD (unhide HB1) hb2)
          clear hb2
          go_wp2_with fail
          refine (unhide HN _).mono ?_
          rintro e w9 ⟨rfl, rfl⟩
          go_wp2_with fail
          go_ret
          exact ⟨rfl, unhide HB2⟩
        | true =>
          obtain ⟨R, hR⟩ : ∃ R, hs.all setB = R := ⟨_, rfl⟩
          have HR := hide (show (hs.drop 0).all setB = R from hR)
          have HLN := hide (unhide H2).1
          rw [hR]
          clear hR
          rw [show ((true && true) && ((true && true) && R)) = R from by cases R <;> rfl]
          go_enter Tryz.func24, Tryz.ntmps24
          go_wp2_with fail
          refine (unhide HD).mono ?_
          rintro e w1 ⟨rfl, hb1⟩
          have HB1 := hide hb1
          clear hb1
          go_wp2_with fail
          refine (unhide HI _ (unhide HB1)).mono ?_
          rintro e w2 ⟨rfl, hb2⟩
          have HB2 := hide (belOnD (unhide HB1) hb2)
          clear hb2
          go_wp2_with fail
          refine (unhide HN _).mono ?_
          rintro e w9 ⟨rfl, rfl⟩
          go_wp2_with fail
          clear HD HI HN HB1
          go_loopw [9] (fun s9 wr => ∃ (j : Nat), s9 = .int .i64 j ∧ j ≤ n2 ∧ Hid ((hs.drop j).all setB = R) ∧ Hid (Below w.heap.size w wr)) (fun s9 _ => n2 - (intOf s9).toNat)
          case atStart => exact ⟨0, rfl, by omega, HR, HB2⟩
          case round =>
            clear HR HB2
            obtain ⟨j, rfl, hj, HO, HB⟩ := hrel
            by_cases hjn : j < n2
            · have hjl : j < hs.length := by rw [unhide HLN]; exact hjn
              obtain ⟨g, ai, ci, e1, l1, p0, ht⟩ := ((unhide H2).below (unhide HB)).2.2 j hjl
              have HST := hide (show (setB hs[j] && (hs.drop (j + 1)).all setB) = R from by
                rw [← unhide HO, List.drop_eq_getElem_cons hjl, List.all_cons])
              have HS := hide (l7Set_calls ai hs[j].length ci hs[j] wr ht)
              generalize hs[j].length = m at p0 HS
              generalize setB hs[j] = b at HS HST
              subst e1
              have i0 : (0 : Int) ≤ (j : Int) := by omega
              have i1 : (j : Int) < (n2 : Int) := by omega
              clear HO ht
              cases b with
              | false =>
                have HX := hide (show R = false from by rw [← unhide HST]; rfl)
                go_wp2_with fail
                refine (unhide HS).mono ?_
                rintro e w3 ⟨rfl, hb3⟩
                have HB3 := hide (belOnD (unhide HB) hb3)
                clear hb3
                go_wp2_with fail
                go_ret
                exact ⟨by rw [unhide HX]; rfl, unhide HB3⟩
              | true =>
                have HX := hide (show (hs.drop (j + 1)).all setB = R from by rw [← unhide HST]; rfl)
                go_wp2_with fail
                refine (unhide HS).mono ?_
                rintro e w3 ⟨rfl, hb3⟩
                have HB3 := hide (belOnD (unhide HB) hb3)
                clear hb3
                go_wp2_with fail
                go_roundw
                case rel => exact ⟨j + 1, by go_num, by omega, HX, HB3⟩
                case measure => simp [intOf]; omega
            · obtain rfl : j = n2 := by omega
              have hO := unhide HO
              rw [List.drop_of_length_le (by rw [unhide HLN]; exact Nat.le_refl _)] at hO
              have HX := hide (show R = true from hO.symm)
              clear hO HO
              go_wp2_with fail
              go_ret
              exact ⟨by rw [unhide HX]; rfl, unhide HB⟩

set_option maxRecDepth 10000 in
set_option maxHeartbeats 2000000 in
theorem l14First_calls (a1 : Option Addr) (n1 c1 : Nat) (ns : List Int) (a2 : Option Addr) (n2 c2 : Nat) (hs : List (List ByteArray)) (d : ByteArray) (w : World) (h1 : IntsAt w a1 n1 ns) (h2 : HavAt w a2 n2 hs) (hl : hs.length = ns.length) (hok : okIds 0 ns = true) (hd : d.size = 71) :
    Calls Tryz.prog 25 #[.slice a1 n1 c1, .slice a2 n2 c2, .string d] w fun e w' => e = .returned (.int .i64 (fstL (wt d) ns (ownL ns hs d))) ∧ Below w.heap.size w w' := by
  have HR := hide (l13Ranked_calls d a1 n1 c1 ns w h1 hok hd)
  have HH := hide (fun (W : World) (hW : Below w.heap.size w W) (x : Int) => l14Has_calls a1 n1 c1 ns a2 n2 c2 hs x d W (h1.below hW) (h2.below hW) hl)
  have hpw := (okIds_lt ns 0 hok).1
  have HHO := hide (fun (x : Int) => hasN_own d ns hs x hpw)
  have HRL := hide (show (rk (wt d) ns).length = n1 from by rw [rk_len]; exact h1.len)
  have hbn := h1.bn
  unfold fstL
  generalize ownL ns hs d = own at HHO
  generalize rk (wt d) ns = rs at HR HRL
  obtain ⟨R, hRR⟩ : ∃ R, (rs.find? fun x => decide (x ∈ own)).getD 0 = R := ⟨_, rfl⟩
  have HX := hide (show ((rs.drop 0).find? fun x => decide (x ∈ own)).getD 0 = R from hRR)
  rw [hRR]
  clear h1 h2 hl hok hd hpw hRR
  go_enter Tryz.func25, Tryz.ntmps25
  go_wp2_with fail
  refine (unhide HR).mono ?_
  rintro e w1 ⟨v, rfl, oR, hb1⟩
  obtain ⟨aR, cR, hvR⟩ := oR.form
  rw [unhide HRL] at hvR
  subst hvR
  have HO := hide oR.at
  have HB1 := hide hb1
  have hz1 := hb1.size
  clear oR hb1 HR
  go_wp2_with fail
  go_loop [8] (fun i => ∃ k : Nat, i = .int .i64 k ∧ k ≤ n1 ∧ Hid (((rs.drop k).find? fun x => decide (x ∈ own)).getD 0 = R)) (fun i => n1 - (intOf i).toNat)
  case atStart => exact ⟨0, rfl, by omega, HX⟩
  case round =>
    clear HX
    obtain ⟨k, rfl, hk, HX⟩ := hrel
    by_cases hkn : k < n1
    · have hkl : k < rs.length := by rw [unhide HRL]; exact hkn
      obtain ⟨g, e1, l1, p1, -⟩ := (unhide HO).ix k hkl
      have hst := unhide HX
      rw [List.drop_eq_getElem_cons hkl, List.find?_cons] at hst
      generalize rs[k] = x at p1 hst
      have HC := hide (unhide HH w1 (unhide HB1) x)
      rw [unhide HHO x] at HC
      generalize decide (x ∈ own) = b at HC hst
      subst e1
      have i0 : (0 : Int) ≤ (k : Int) := by omega
      have i1 : (k : Int) < (n1 : Int) := by omega
      clear HX
      cases b with
      | true =>
        have HST := hide (show x = R from hst)
        clear hst
        go_wp2_with fail
        refine (unhide HC).mono ?_
        rintro e w2 ⟨rfl, rfl⟩
        go_wp2_with fail
        go_ret
        exact ⟨by rw [unhide HST]; rfl, unhide HB1⟩
      | false =>
        have HST := hide (show ((rs.drop (k + 1)).find? fun x => decide (x ∈ own)).getD 0 = R from hst)
        clear hst
        go_wp2_with fail
        refine (unhide HC).mono ?_
        rintro e w2 ⟨rfl, rfl⟩
        go_wp2_with fail
        go_round
        case rel => exact ⟨k + 1, by go_num, by omega, HST⟩
        case measure => simp [intOf]; omega
    · obtain rfl : k = n1 := by omega
      have hO := unhide HX
      rw [List.drop_of_length_le (by rw [unhide HRL]; exact Nat.le_refl _)] at hO
      have HY := hide (show R = 0 from hO.symm)
      clear hO HX
      go_wp2_with fail
      go_ret
      exact ⟨by rw [unhide HY]; rfl, unhide HB1⟩
end Go.Proofs.YtmicacoegkmklaaGreatDoor


/- The plan, by the specification. -/
namespace Go.Proofs.YtmicacoegkmklaaGreatDoor
open Go.RowKit Plain
open Classical
set_option linter.unusedVariables false

set_option maxRecDepth 10000 in
set_option maxHeartbeats 8000000 in
theorem spec_Plan (ad : Option Addr) (nd cd : Nat) (ds : List ByteArray) (a1 : Option Addr) (n1 c1 : Nat) (ns : List Int) (a2 : Option Addr) (n2 c2 : Nat) (hs : List (List ByteArray)) (k : Int) (w : World) (hd : TxtsAt w ad nd ds) (h1 : IntsAt w a1 n1 ns) (h2 : HavAt w a2 n2 hs) :
    Calls Tryz.prog 7 #[.slice ad nd cd, .slice a1 n1 c1, .slice a2 n2 c2, .int .i64 k] w fun e w' => ∃ v u, e = .returned (.tuple #[v, u, .bool (rpB ds ns hs k)]) ∧ OwnR cpyE w' w.heap.size v (plL ds ns hs k) ∧ OwnR strE w' w.heap.size u (loL ds ns hs k) ∧ Below w.heap.size w w' := by
  obtain ⟨W0, hW0⟩ : ∃ W0, W0 = (w.alloc (.cells #[] 46)).alloc (.cells #[] 9) := ⟨_, rfl⟩
  have HB0 := hide (show Below w.heap.size w W0 from by rw [hW0]; exact belOnD (bel1D _ _) (bel1D _ _))
  have HO0 := hide (show OwnR cpyE W0 w.heap.size (.slice (some ⟨w.heap.size, 0, none⟩) 0 0) [] from by rw [hW0]; exact (ownR_empty cpyE w w.heap.size (Nat.le_refl _)).keep (bel1D _ _))
  have HU0 := hide (show OwnR strE W0 w.heap.size (.slice (some ⟨w.heap.size + 1, 0, none⟩) 0 0) [] from by
    rw [hW0]
    have := ownR_empty strE (w.alloc (.cells #[] 46)) w.heap.size (by simp)
    rwa [show (w.alloc (.cells #[] 46)).heap.size = w.heap.size + 1 from by simp] at this)
  have HK := hide (l14Ok_calls ad nd cd ds a1 n1 c1 ns a2 n2 c2 hs k W0 (hd.below (unhide HB0)) (h1.below (unhide HB0)) (h2.below (unhide HB0)))
  have HW0 := hide hW0.symm
  clear hW0
  cases hB : rpB ds ns hs k with
  | false =>
    rw [hB] at HK
    rw [plL_no hB, loL_no hB]
    clear hd h1 h2 hB
    go_enter Tryz.func7, Tryz.ntmps7
    go_wp2_with fail
    rw [unhide HW0]
    refine (unhide HK).mono ?_
    rintro e w1 ⟨rfl, hb1⟩
    have HB1 := hide (belOnD (unhide HB0) hb1)
    have HO1 := hide ((unhide HO0).keep hb1)
    have HU1 := hide ((unhide HU0).keep hb1)
    clear hb1
    go_wp2_with fail
    exact bodyPost_ret (v := .tuple #[_, _, .bool false]) (by simp [results, Tryz.results7, go_sem]) rfl ⟨_, _, rfl, unhide HO1, unhide HU1, unhide HB1⟩
  | true =>
    rw [hB] at HK
    rw [plL_yes hB, loL_yes hB]
    obtain ⟨q1, q2, q3, q4, q5⟩ := rpB_parts hB
    have hk := (kB_iff k).1 q4
    obtain ⟨K, rfl⟩ := Int.eq_ofNat_of_zero_le (show 0 ≤ k by omega)
    rw [Int.toNat_natCast]
    have hall := setB_all q1
    have hpw := (okIds_lt ns 0 q2).1
    have HH := hide (fun (W : World) (hW : Below w.heap.size w W) (d : ByteArray) (hdd : d ∈ ds) => l13Holders_calls d a1 n1 c1 ns K W (h1.below hW) q2 (digB_len71 (hall.2 d hdd)) (by omega) (by omega))
    have HF := hide (fun (W : World) (hW : Below w.heap.size w W) (d : ByteArray) (hdd : d ∈ ds) => l14First_calls a1 n1 c1 ns a2 n2 c2 hs d W (h1.below hW) (h2.below hW) q3 q2 (digB_len71 (hall.2 d hdd)))
    have HHA := hide (fun (W : World) (hW : Below w.heap.size w W) (x : Int) (d : ByteArray) => (show Calls Tryz.prog 27 #[.slice a1 n1 c1, .slice a2 n2 c2, .int .i64 x, .string d] W fun e w' => e = .returned (.bool (decide (x ∈ ownL ns hs d))) ∧ W = w' from by
      rw [← hasN_own d ns hs x hpw]
      exact l14Has_calls a1 n1 c1 ns a2 n2 c2 hs x d W (h1.below hW) (h2.below hW) q3))
    have HZ := hide (fun (d : ByteArray) => fstL_zero (wt d) ns (ownL ns hs d) q2 (ownL_sub d ns hs))
    have HDS := hide (fun (W : World) (hW : Below w.heap.size w W) => hd.below hW)
    have hb50 := okIds_len ns 0 (by decide) q2
    have HPL := hide (fun (l : List ByteArray) (hl : l.length ≤ 200) => (show (plS ns hs K l).length ≤ 10000 from by have := plS_len ns hs K (by omega) l; omega))
    have HLL := hide (fun (l : List ByteArray) (hl : l.length ≤ 200) => (show (loS ns hs l).length ≤ 200 from by have := loS_len ns hs l; omega))
    have HHL := hide (fun (d : ByteArray) => (show (hld (wt d) ns K).length ≤ 50 from Nat.le_trans (hld_len _ _ _) (by omega)))
    have HDN := hide hd.len
    have hd200 := hall.1
    rw [hd.len] at hd200
    clear hd h1 h2 hB q1 q2 q3 q4 q5 hk hall hpw hb50
    go_enter Tryz.func7, Tryz.ntmps7
    go_wp2_with fail
    rw [unhide HW0]
    refine (unhide HK).mono ?_
    rintro e w1 ⟨rfl, hb1⟩
    have HB1 := hide (belOnD (unhide HB0) hb1)
    have HO1 := hide ((unhide HO0).keep hb1)
    have HU1 := hide ((unhide HU0).keep hb1)
    clear hb1 HK HB0 HO0 HU0 HW0
    go_wp2_with fail
    go_loopw [11, 12, 13] (fun s11 s12 s13 wr => ∃ (m : Nat), s13 = .int .i64 m ∧ m ≤ nd ∧ w.heap.size ≤ wr.heap.size ∧ Hid (OwnR cpyE wr w.heap.size s11 (plS ns hs K (ds.take m))) ∧ Hid (OwnR strE wr w.heap.size s12 (loS ns hs (ds.take m))) ∧ Hid (Below w.heap.size w wr)) (fun _ _ s13 _ => nd - (intOf s13).toNat)
    case atStart => exact ⟨0, rfl, by omega, (unhide HB1).size, HO1, HU1, HB1⟩
    case round =>
      clear HO1 HU1 HB1
      obtain ⟨m, rfl, hm, hz, HO, HU, HB⟩ := hrel
      have htl : (ds.take m).length ≤ 200 := by rw [List.length_take]; have := unhide HDN; omega
      have hPl := unhide HPL (ds.take m) htl
      have hLl := unhide HLL (ds.take m) htl
      obtain ⟨np, hnp⟩ : ∃ np, (plS ns hs K (ds.take m)).length = np := ⟨_, rfl⟩
      obtain ⟨nl, hnl⟩ : ∃ nl, (loS ns hs (ds.take m)).length = nl := ⟨_, rfl⟩
      obtain ⟨a11, c11, hv11⟩ := (unhide HO).form
      rw [hnp] at hv11 hPl
      obtain ⟨a12, c12, hv12⟩ := (unhide HU).form
      rw [hnl] at hv12 hLl
      subst hv11 hv12
      by_cases hmn : m < nd
      · have hml : m < ds.length := by rw [unhide HDN]; exact hmn
        have HST := hide (plS_take ns hs K ds m hml)
        have HSL := hide (loS_take ns hs ds m hml)
        have HC0 := hide (fun (W : World) (hW : Below w.heap.size w W) => (unhide HDS W hW).row.str m hml)
        have HG1 := hide (fun (W : World) (hW : Below w.heap.size w W) => unhide HF W hW ds[m] (by simp))
        have HG2 := hide (fun (W : World) (hW : Below w.heap.size w W) => unhide HH W hW ds[m] (by simp))
        generalize ds[m] = d at HST HSL HC0 HG1 HG2
        obtain ⟨gd, ead, l1, p0, -⟩ := unhide HC0 wr (unhide HB)
        have HCC := hide (fun (W : World) (hW : Below w.heap.size w W) => (show W.cell? ⟨gd, m, none⟩ = some (.string d) from by
          obtain ⟨g', e1, -, p0', -⟩ := unhide HC0 W hW
          rw [ead] at e1
          cases e1
          exact p0'))
        subst ead
        have HG3 := hide (fun (W : World) (hW : Below w.heap.size w W) (x : Int) => unhide HHA W hW x d)
        have HZD := hide (unhide HZ d)
        have hHl := unhide HHL d
        unfold pl1 lckL at HST
        unfold lo1 at HSL
        generalize wt d = f at HST HG1 HG2 HZD hHl
        generalize ownL ns hs d = own at HST HSL HG1 HG3 HZD
        generalize hld f ns K = now at HST HG2 hHl
        generalize fstL f ns own = fr at HST HG1 HZD
        generalize plS ns hs K (ds.take m) = P at HO HST hnp
        generalize loS ns hs (ds.take m) = L at HU HSL hnl
        have HNP := hide hnp
        have HNL := hide hnl
        have i0 : (0 : Int) ≤ (m : Int) := by omega
        have i1 : (m : Int) < (nd : Int) := by omega
        clear hnp hnl HC0
        by_cases hfr : fr = 0
        · subst hfr
          have hown : own = [] := (unhide HZD).1 rfl
          have HS1 := hide (show plS ns hs K (ds.take (m + 1)) = P from by rw [unhide HST, if_pos hown, List.append_nil])
          have HS2 := hide (show loS ns hs (ds.take (m + 1)) = L ++ [d] from by rw [unhide HSL, if_pos hown])
          have HLL2 := hide (show (L ++ [d]).length = nl + 1 from by rw [List.length_append, unhide HNL]; rfl)
          have hlen : L.length < 100000000 := by rw [unhide HNL]; omega
          clear hown HST HSL HG2 HG3
          go_wp2_with fail
          refine (unhide HG1 wr (unhide HB)).mono ?_
          rintro e w4 ⟨rfl, hb4⟩
          have HB4 := hide ((unhide HB).trans (hb4.mono hz))
          have HO4 := hide ((unhide HO).keep hb4)
          have HU4 := hide ((unhide HU).keep hb4)
          have hz4 : w.heap.size ≤ w4.heap.size := Nat.le_trans hz hb4.size
          have p4 := unhide HCC w4 (unhide HB4)
          clear hb4 HO HU HB HG1 p0
          go_wp2_with (at_builtin; go_must (refine appR (e := strE) rfl _ _ rfl (unhide HU4) rfl d rfl _ rfl rfl hlen hz4 ?_); intro v' w6 hown6 hb6 hg6; obtain ⟨a3, c3, hv'⟩ := hown6.form; rw [unhide HLL2] at hv'; subst hv')
          have HO6 := hide ((unhide HO4).beside (unhide HU4) (by decide) hg6)
          go_roundw
          case rel => exact ⟨m + 1, by go_num, by omega, Nat.le_trans hz4 hb6.size, hide (by rw [unhide HS1]; exact unhide HO6), hide (by rw [unhide HS2]; exact hown6), hide ((unhide HB4).trans hb6)⟩
          case measure => simp [intOf]; omega
        · have hown : ¬ own = [] := fun q => hfr ((unhide HZD).2 q)
          have HS1 := hide (show plS ns hs K (ds.take (m + 1)) = P ++ (now.filter fun x => !decide (x ∈ own)).map (mkC3 d fr) from by rw [unhide HST, if_neg hown]; rfl)
          have HS2 := hide (show loS ns hs (ds.take (m + 1)) = L from by rw [unhide HSL, if_neg hown, List.append_nil])
          clear hown HST HSL HZD
          go_wp2_with fail
          refine (unhide HG1 wr (unhide HB)).mono ?_
          rintro e w4 ⟨rfl, hb4⟩
          have HB4 := hide ((unhide HB).trans (hb4.mono hz))
          have HO4 := hide ((unhide HO).keep hb4)
          have HU4 := hide ((unhide HU).keep hb4)
          have hz4 : w.heap.size ≤ w4.heap.size := Nat.le_trans hz hb4.size
          have p4 := unhide HCC w4 (unhide HB4)
          clear hb4 HO HU HB HG1 p0
          go_wp2_with fail
          refine (unhide HG2 w4 (unhide HB4)).mono ?_
          rintro e w5 ⟨vN, rfl, oN, hb5⟩
          obtain ⟨aN, cN, hvN⟩ := oN.form
          obtain ⟨nN, hnN⟩ : ∃ nN, now.length = nN := ⟨_, rfl⟩
          rw [hnN] at hvN hHl
          subst hvN
          have HB5 := hide ((unhide HB4).trans (hb5.mono hz4))
          have HO5 := hide ((unhide HO4).keep hb5)
          have HU5 := hide ((unhide HU4).keep hb5)
          have HW5 := hide (oN.le hz4)
          have hz5 : w.heap.size ≤ w5.heap.size := Nat.le_trans hz4 hb5.size
          have HNN := hide hnN
          clear oN hb5 HO4 HU4 HB4 p4 hnN HG2
          go_wp2_with fail
          go_loopw [11, 16] (fun s11 s16 wq => ∃ (j : Nat), s16 = .int .i64 j ∧ j ≤ nN ∧ w.heap.size ≤ wq.heap.size ∧ Hid (OwnR cpyE wq w.heap.size s11 (P ++ ((now.take j).filter fun x => !decide (x ∈ own)).map (mkC3 d fr))) ∧ Hid (OwnR strE wq w.heap.size (.slice a12 nl c12) L) ∧ Hid (OwnR i64E wq w.heap.size (.slice aN nN cN) now) ∧ Hid (Below w.heap.size w wq)) (fun _ s16 _ => nN - (intOf s16).toNat)
          case atStart => exact ⟨0, rfl, by omega, hz5, hide (by simpa using unhide HO5), HU5, HW5, HB5⟩
          case round =>
            clear HO5 HU5 HW5 HB5 hz5
            obtain ⟨j, rfl, hj, hzj, HOj, HUj, HWj, HBj⟩ := hrel
            have hQl : (((now.take j).filter fun x => !decide (x ∈ own)).map (mkC3 d fr)).length ≤ j := by rw [List.length_map]; exact Nat.le_trans (List.length_filter_le _ _) (by rw [List.length_take]; omega)
            obtain ⟨q, hq⟩ : ∃ q, (P ++ ((now.take j).filter fun x => !decide (x ∈ own)).map (mkC3 d fr)).length = q := ⟨_, rfl⟩
            have hqb : q ≤ 10100 := by rw [← hq, List.length_append, unhide HNP]; omega
            obtain ⟨ax, cx, hvx⟩ := (unhide HOj).form
            rw [hq] at hvx
            subst hvx
            by_cases hjn : j < nN
            · have hjl : j < now.length := by rw [unhide HNN]; exact hjn
              obtain ⟨gn, e7, l7, p7, -⟩ := (unhide HWj).at.ix j hjl
              have HFT := hide (filt_take (fun x => !decide (x ∈ own)) now j hjl)
              have p8 := unhide HCC wr (unhide HBj)
              generalize now[j] = x at p7 HFT
              have HIN := hide (unhide HG3 wr.drew (belDrew (unhide HBj)) x)
              subst e7
              have j0 : (0 : Int) ≤ (j : Int) := by omega
              have j1 : (j : Int) < (nN : Int) := by omega
              cases hx : decide (x ∈ own) with
              | true =>
                rw [hx] at HIN
                have HE := hide (show (now.take (j + 1)).filter (fun x => !decide (x ∈ own)) = (now.take j).filter fun x => !decide (x ∈ own) from by rw [unhide HFT, hx]; simp)
                clear hx HFT hq
                go_wp2_with fail
                go_region_with (go_at_call 27; refine (unhide HIN).mono ?_; rintro e w9 ⟨rfl, rfl⟩)
                all_goals
                  go_wp2_with fail
                  exact ⟨⟨j + 1, by go_num, by omega, hzj, hide (by rw [unhide HE]; exact unhide HOj), HUj, HWj, hide (belDrew (unhide HBj))⟩, by simp [intOf]; omega⟩
              | false =>
                rw [hx] at HIN
                have HE := hide (show P ++ ((now.take (j + 1)).filter fun x => !decide (x ∈ own)).map (mkC3 d fr) = (P ++ ((now.take j).filter fun x => !decide (x ∈ own)).map (mkC3 d fr)) ++ [(⟨d, fr, x⟩ : Cpy)] from by rw [unhide HFT, hx, List.append_assoc]; simp [mkC3])
                generalize P ++ ((now.take j).filter fun x => !decide (x ∈ own)).map (mkC3 d fr) = Q at HOj HE hq
                have HQ := hide (show (Q ++ [(⟨d, fr, x⟩ : Cpy)]).length = q + 1 from by rw [List.length_append, hq]; rfl)
                have hlen : Q.length < 100000000 := by omega
                have HOd := hide (show OwnR cpyE wr.drew.drew w.heap.size (.slice ax q cx) Q from unhide HOj)
                have HUd := hide (show OwnR strE wr.drew.drew w.heap.size (.slice a12 nl c12) L from unhide HUj)
                have HWd := hide (show OwnR i64E wr.drew.drew w.heap.size (.slice (some ⟨gn, 0, none⟩) nN cN) now from unhide HWj)
                have hzd : w.heap.size ≤ wr.drew.drew.heap.size := hzj
                clear hx HFT hq HOj
                go_wp2_with fail
                go_region_with (go_at_call 27; refine (unhide HIN).mono ?_; rintro e w9 ⟨rfl, rfl⟩)
                all_goals
                  go_wp2_with fail
                  go_region_law (refine stepGG (e := cpyE) rfl _ _ rfl (w := wr.drew.drew) (unhide HOd) (by simp [Act.eval]) (⟨d, fr, x⟩ : Cpy) rfl _ (by simp [Act.eval]) rfl hlen hzd ?_; intro v' w6 hown6 hb6 hg6; obtain ⟨av', cv', hv'⟩ := hown6.form; rw [unhide HQ] at hv'; subst hv')
                  all_goals (try go_wp2_with fail)
                  all_goals exact ⟨⟨j + 1, by go_num, by omega, by have := hb6.size; exact Nat.le_trans hzj this, hide (by rw [unhide HE]; exact hown6), hide ((unhide HUd).beside (unhide HOd) (by decide) hg6), hide ((unhide HWd).beside (unhide HOd) (by decide) hg6), hide ((belDrew (belDrew (unhide HBj))).trans hb6)⟩, by simp [intOf]; omega⟩
            · obtain rfl : j = nN := by omega
              have HOE := hide (show OwnR cpyE wr w.heap.size (.slice ax q cx) (plS ns hs K (ds.take (m + 1))) from by
                have h3 := unhide HOj
                rw [List.take_of_length_le (by rw [unhide HNN]; exact Nat.le_refl _)] at h3
                rw [unhide HS1]
                exact h3)
              clear HOj hq
              go_wp2_with fail
              go_roundw
              case rel => exact ⟨m + 1, by go_num, by omega, hzj, HOE, hide (by rw [unhide HS2]; exact unhide HUj), HBj⟩
              case measure => simp [intOf]; omega
      · obtain rfl : m = nd := by omega
        rw [List.take_of_length_le (by rw [unhide HDN]; exact Nat.le_refl _)] at HO HU
        go_wp2_with fail
        exact bodyPost_ret (v := .tuple #[.slice a11 np c11, .slice a12 nl c12, .bool true]) (by simp [results, Tryz.results7, go_sem]) rfl ⟨_, _, rfl, unhide HO, unhide HU, unhide HB⟩
end Go.Proofs.YtmicacoegkmklaaGreatDoor

