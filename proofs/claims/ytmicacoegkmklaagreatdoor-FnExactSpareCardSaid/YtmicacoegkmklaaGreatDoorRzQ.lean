/- Texts of one kind, put together. -/
import Derived.Test.YtmicacoegkmklaaGreatDoorRzP
import Derived.Test.YtmicacoegkmklaaGreatDoorHavR
import Derived.Test.YtmicacoegkmklaaGreatDoorRzL
import Derived.Deep.RegionHeld3

/- Repair by the specification: who has what, the first of the ranks that has it, the plan. -/
namespace Go.Proofs.YtmicacoegkmklaaGreatDoor
open Go.RowKit Plain
open Classical
set_option linter.unusedVariables false

namespace Plain
theorem anyB_dec (ls : List ByteArray) (s : ByteArray) : anyB ls s = decide (s ∈ ls) := by
  rw [Bool.eq_iff_iff, decide_eq_true_eq]
  exact anyB_mem ls s
theorem hasN_drop (ns : List Int) (hs : List (List ByteArray)) (x : Int) (d : ByteArray) (k : Nat) (h1 : k < ns.length) (h2 : k < hs.length) : hasN (ns.drop k) (hs.drop k) x d = if ns[k] = x then decide (d ∈ hs[k]) else hasN (ns.drop (k + 1)) (hs.drop (k + 1)) x d := by
  rw [List.drop_eq_getElem_cons h1, List.drop_eq_getElem_cons h2, hasN]
end Plain

set_option maxRecDepth 10000 in
set_option maxHeartbeats 1000000 in
theorem l14Has_calls (a1 : Option Addr) (n1 c1 : Nat) (ns : List Int) (a2 : Option Addr) (n2 c2 : Nat) (hs : List (List ByteArray)) (x : Int) (d : ByteArray) (w : World) (h1 : IntsAt w a1 n1 ns) (h2 : HavAt w a2 n2 hs) (hl : hs.length = ns.length) :
    Calls Tryz.prog 27 #[.slice a1 n1 c1, .slice a2 n2 c2, .int .i64 x, .string d] w fun e w' => e = .returned (.bool (hasN ns hs x d)) ∧ w = w' := by
  have H1 := hide h1
  have H2 := hide h2
  have HL := hide hl
  have hbn := h1.bn
  have HN := hide h1.len
  have hnn : n2 = n1 := by rw [← h2.1, hl, h1.len]
  subst hnn
  obtain ⟨R, hR⟩ : ∃ R, hasN ns hs x d = R := ⟨_, rfl⟩
  have HR := hide (show hasN (ns.drop 0) (hs.drop 0) x d = R from hR)
  rw [hR]
  clear h1 h2 hl hR
  go_enter Tryz.func27, Tryz.ntmps27
  go_wp2_with fail
  go_loop [9] (fun i => ∃ k : Nat, i = .int .i64 k ∧ k ≤ n2 ∧ Hid (hasN (ns.drop k) (hs.drop k) x d = R)) (fun i => n2 - (intOf i).toNat)
  case atStart => exact ⟨0, rfl, by omega, HR⟩
  case round =>
    clear HR
    obtain ⟨k, rfl, hk, HO⟩ := hrel
    by_cases hkn : k < n2
    · have k1 : k < ns.length := by rw [unhide HN]; exact hkn
      have k2 : k < hs.length := by rw [unhide HL]; exact k1
      obtain ⟨g, e1, l1, p1, -⟩ := (unhide H1).row.ix k k1
      obtain ⟨g2, ai, ci, e2, l2, p2, ht⟩ := (unhide H2).2.2 k k2
      have hst := unhide HO
      rw [hasN_drop ns hs x d k k1 k2] at hst
      have HHS := hide (l1Has_calls ai hs[k].length ci hs[k] d w rfl (by have := ht.bn; omega) ht.row.strs)
      rw [anyB_dec] at HHS
      generalize decide (d ∈ hs[k]) = b at HHS hst
      generalize hs[k].length = m at p2 HHS
      generalize ns[k] = y at p1 hst
      have i0 : (0 : Int) ≤ (k : Int) := by omega
      have i1 : (k : Int) < (n2 : Int) := by omega
      subst e1 e2
      clear HO ht
      by_cases hy : y = x
      · subst hy
        rw [if_pos rfl] at hst
        subst hst
        go_wp2_with fail
        refine (unhide HHS).mono ?_
        rintro e w1 ⟨rfl, rfl⟩
        go_wp2_with fail
        go_ret
        exact ⟨rfl, rfl⟩
      · rw [if_neg hy] at hst
        have HST := hide hst
        clear hst
        go_wp2_with fail
        go_round
        case rel => exact ⟨k + 1, by go_num, by omega, HST⟩
        case measure => simp [intOf]; omega
    · obtain rfl : k = n2 := by omega
      have hO := unhide HO
      rw [List.drop_of_length_le (by rw [unhide HN]; exact Nat.le_refl _)] at hO
      have HX := hide (show R = false from hO.symm)
      clear hO HO
      go_wp2_with fail
      go_ret
      exact ⟨by rw [unhide HX]; rfl, rfl⟩

set_option maxRecDepth 10000 in
set_option maxHeartbeats 2000000 in
theorem l14Ok_calls (ad : Option Addr) (nd cd : Nat) (ds : List ByteArray) (a1 : Option Addr) (n1 c1 : Nat) (ns : List Int) (a2 : Option Addr) (n2 c2 : Nat) (hs : List (List ByteArray)) (k : Int) (w : World) (hd : TxtsAt w ad nd ds) (h1 : IntsAt w a1 n1 ns) (h2 : HavAt w a2 n2 hs) :
    Calls Tryz.prog 24 #[.slice ad nd cd, .slice a1 n1 c1, .slice a2 n2 c2, .int .i64 k] w fun e w' => e = .returned (.bool (rpB ds ns hs k)) ∧ Below w.heap.size w w' := by
  have HD := hide (l7Set_calls ad nd cd ds w hd)
  have HI := hide (fun (W : World) (hW : Below w.heap.size w W) => l9Ids_calls a1 n1 c1 ns 50 W (h1.below hW) (by decide))
  rw [ids50 n1 ns h1.len] at HI
  have HN := hide (fun W => l1In_calls k 1 7 W)
  rw [show (decide (1 ≤ k) && decide (k ≤ 7)) = kB k from rfl] at HN
  have hlen : decide (hs.length = ns.length) = decide (n2 = n1) := by rw [h2.1, h1.len]
  have hbn := h2.2.1
  have H2 := hide h2
  unfold rpB
  rw [hlen]
  generalize setB ds = b1 at HD
  generalize okIds 0 ns = b2 at HI
  generalize kB k = b3 at HN
  clear hd h1 h2 hlen
  cases b1 with
  | false =>
    clear HI HN H2
    go_enter Tryz.func24, Tryz.ntmps24
    go_wp2_with fail
    refine (unhide HD).mono ?_
    rintro e w1 ⟨rfl, hb1⟩
    have HB1 := hide hb1
    clear hb1
    go_wp2_with fail
    go_ret
    exact ⟨rfl, unhide HB1⟩
  | true =>
    cases b2 with
    | false =>
      clear HN H2
      go_enter Tryz.func24, Tryz.ntmps24
      go_wp2_with fail
      refine (unhide HD).mono ?_
      rintro e w1 ⟨rfl, hb1⟩
      have HB1 := hide hb1
      clear hb1
      go_wp2_with fail
      refine (unhide HI _ (unhide HB1)).mono ?_
      rintro e w2 ⟨rfl, hb2⟩
      have HB2 := hide (belOnD (unhide HB1) hb2)
      clear hb2
      go_wp2_with fail
      go_ret
      exact ⟨rfl, unhide HB2⟩
    | true =>
      by_cases hnn : n2 = n1
      case neg =>
        have hne : ¬ (n2 : Int) = (n1 : Int) := by omega
        rw [decide_eq_false hnn]
        clear HN H2
        go_enter Tryz.func24, Tryz.ntmps24
        go_wp2_with fail
        refine (unhide HD).mono ?_
        rintro e w1 ⟨rfl, hb1⟩
        have HB1 := hide hb1
        clear hb1
        go_wp2_with fail
        refine (unhide HI _ (unhide HB1)).mono ?_
        rintro e w2 ⟨rfl, hb2⟩
        have HB2 := hide (belOnD (unhide HB1) hb2)
        clear hb2
        go_wp2_with fail
        go_ret
        exact ⟨rfl, unhide HB2⟩
      case pos =>
        subst hnn
        rw [decide_eq_true rfl]
        cases b3 with
        | false =>
          clear H2
          go_enter Tryz.func24, Tryz.ntmps24
          go_wp2_with fail
          refine (unhide HD).mono ?_
          rintro e w1 ⟨rfl, hb1⟩
          have HB1 := hide hb1
          clear hb1
          go_wp2_with fail
          refine (unhide HI _ (unhide HB1)).mono ?_
          rintro e w2 ⟨rfl, hb2⟩
          have HB2 := hide (belOnD (unhide HB1) hb2)
          clear hb2
          go_wp2_with fail
          refine (unhide HN _).mono ?_
          rintro e w9 ⟨rfl, rfl⟩
          go_wp2_with fail
          go_ret
          exact ⟨rfl, unhide HB2⟩
        | true =>
          obtain ⟨R, hR⟩ : ∃ R, hs.all setB = R := ⟨_, rfl⟩
          have HR := hide (show (hs.drop 0).all setB = R from hR)
          have HLN := hide (unhide H2).1
          rw [hR]
          clear hR
          rw [show ((true && true) && ((true && true) && R)) = R from by cases R <;> rfl]
          go_enter Tryz.func24, Tryz.ntmps24
          go_wp2_with fail
          refine (unhide HD).mono ?_
          rintro e w1 ⟨rfl, hb1⟩
          have HB1 := hide hb1
          clear hb1
          go_wp2_with fail
          refine (unhide HI _ (unhide HB1)).mono ?_
          rintro e w2 ⟨rfl, hb2⟩
          have HB2 := hide (belOnD (unhide HB1) hb2)
          clear hb2
          go_wp2_with fail
          refine (unhide HN _).mono ?_
          rintro e w9 ⟨rfl, rfl⟩
          go_wp2_with fail
          clear HD HI HN HB1
          go_loopw [9] (fun s9 wr => ∃ (j : Nat), s9 = .int .i64 j ∧ j ≤ n2 ∧ Hid ((hs.drop j).all setB = R) ∧ Hid (Below w.heap.size w wr)) (fun s9 _ => n2 - (intOf s9).toNat)
          case atStart => exact ⟨0, rfl, by omega, HR, HB2⟩
          case round =>
            clear HR HB2
            obtain ⟨j, rfl, hj, HO, HB⟩ := hrel
            by_cases hjn : j < n2
            · have hjl : j < hs.length := by rw [unhide HLN]; exact hjn
              obtain ⟨g, ai, ci, e1, l1, p0, ht⟩ := ((unhide H2).below (unhide HB)).2.2 j hjl
              have HST := hide (show (setB hs[j] && (hs.drop (j + 1)).all setB) = R from by
                rw [← unhide HO, List.drop_eq_getElem_cons hjl, List.all_cons])
              have HS := hide (l7Set_calls ai hs[j].length ci hs[j] wr ht)
              generalize hs[j].length = m at p0 HS
              generalize setB hs[j] = b at HS HST
              subst e1
              have i0 : (0 : Int) ≤ (j : Int) := by omega
              have i1 : (j : Int) < (n2 : Int) := by omega
              clear HO ht
              cases b with
              | false =>
                have HX := hide (show R = false from by rw [← unhide HST]; rfl)
                go_wp2_with fail
                refine (unhide HS).mono ?_
                rintro e w3 ⟨rfl, hb3⟩
                have HB3 := hide (belOnD (unhide HB) hb3)
                clear hb3
                go_wp2_with fail
                go_ret
                exact ⟨by rw [unhide HX]; rfl, unhide HB3⟩
              | true =>
                have HX := hide (show (hs.drop (j + 1)).all setB = R from by rw [← unhide HST]; rfl)
                go_wp2_with fail
                refine (unhide HS).mono ?_
                rintro e w3 ⟨rfl, hb3⟩
                have HB3 := hide (belOnD (unhide HB) hb3)
                clear hb3
                go_wp2_with fail
                go_roundw
                case rel => exact ⟨j + 1, by go_num, by omega, HX, HB3⟩
                case measure => simp [intOf]; omega
            · obtain rfl : j = n2 := by omega
              have hO := unhide HO
              rw [List.drop_of_length_le (by rw [unhide HLN]; exact Nat.le_refl _)] at hO
              have HX := hide (show R = true from hO.symm)
              clear hO HO
              go_wp2_with fail
              go_ret
              exact ⟨by rw [unhide HX]; rfl, unhide HB⟩

set_option maxRecDepth 10000 in
set_option maxHeartbeats 2000000 in
theorem l14First_calls (a1 : Option Addr) (n1 c1 : Nat) (ns : List Int) (a2 : Option Addr) (n2 c2 : Nat) (hs : List (List ByteArray)) (d : ByteArray) (w : World) (h1 : IntsAt w a1 n1 ns) (h2 : HavAt w a2 n2 hs) (hl : hs.length = ns.length) (hok : okIds 0 ns = true) (hd : d.size = 71) :
    Calls Tryz.prog 25 #[.slice a1 n1 c1, .slice a2 n2 c2, .string d] w fun e w' => e = .returned (.int .i64 (fstL (wt d) ns (ownL ns hs d))) ∧ Below w.heap.size w w' := by
  have HR := hide (l13Ranked_calls d a1 n1 c1 ns w h1 hok hd)
  have HH := hide (fun (W : World) (hW : Below w.heap.size w W) (x : Int) => l14Has_calls a1 n1 c1 ns a2 n2 c2 hs x d W (h1.below hW) (h2.below hW) hl)
  have hpw := (okIds_lt ns 0 hok).1
  have HHO := hide (fun (x : Int) => hasN_own d ns hs x hpw)
  have HRL := hide (show (rk (wt d) ns).length = n1 from by rw [rk_len]; exact h1.len)
  have hbn := h1.bn
  unfold fstL
  generalize ownL ns hs d = own at HHO
  generalize rk (wt d) ns = rs at HR HRL
  obtain ⟨R, hRR⟩ : ∃ R, (rs.find? fun x => decide (x ∈ own)).getD 0 = R := ⟨_, rfl⟩
  have HX := hide (show ((rs.drop 0).find? fun x => decide (x ∈ own)).getD 0 = R from hRR)
  rw [hRR]
  clear h1 h2 hl hok hd hpw hRR
  go_enter Tryz.func25, Tryz.ntmps25
  go_wp2_with fail
  refine (unhide HR).mono ?_
  rintro e w1 ⟨v, rfl, oR, hb1⟩
  obtain ⟨aR, cR, hvR⟩ := oR.form
  rw [unhide HRL] at hvR
  subst hvR
  have HO := hide oR.at
  have HB1 := hide hb1
  have hz1 := hb1.size
  clear oR hb1 HR
  go_wp2_with fail
  go_loop [8] (fun i => ∃ k : Nat, i = .int .i64 k ∧ k ≤ n1 ∧ Hid (((rs.drop k).find? fun x => decide (x ∈ own)).getD 0 = R)) (fun i => n1 - (intOf i).toNat)
  case atStart => exact ⟨0, rfl, by omega, HX⟩
  case round =>
    clear HX
    obtain ⟨k, rfl, hk, HX⟩ := hrel
    by_cases hkn : k < n1
    · have hkl : k < rs.length := by rw [unhide HRL]; exact hkn
      obtain ⟨g, e1, l1, p1, -⟩ := (unhide HO).ix k hkl
      have hst := unhide HX
      rw [List.drop_eq_getElem_cons hkl, List.find?_cons] at hst
      generalize rs[k] = x at p1 hst
      have HC := hide (unhide HH w1 (unhide HB1) x)
      rw [unhide HHO x] at HC
      generalize decide (x ∈ own) = b at HC hst
      subst e1
      have i0 : (0 : Int) ≤ (k : Int) := by omega
      have i1 : (k : Int) < (n1 : Int) := by omega
      clear HX
      cases b with
      | true =>
        have HST := hide (show x = R from hst)
        clear hst
        go_wp2_with fail
        refine (unhide HC).mono ?_
        rintro e w2 ⟨rfl, rfl⟩
        go_wp2_with fail
        go_ret
        exact ⟨by rw [unhide HST]; rfl, unhide HB1⟩
      | false =>
        have HST := hide (show ((rs.drop (k + 1)).find? fun x => decide (x ∈ own)).getD 0 = R from hst)
        clear hst
        go_wp2_with fail
        refine (unhide HC).mono ?_
        rintro e w2 ⟨rfl, rfl⟩
        go_wp2_with fail
        go_round
        case rel => exact ⟨k + 1, by go_num, by omega, HST⟩
        case measure => simp [intOf]; omega
    · obtain rfl : k = n1 := by omega
      have hO := unhide HX
      rw [List.drop_of_length_le (by rw [unhide HRL]; exact Nat.le_refl _)] at hO
      have HY := hide (show R = 0 from hO.symm)
      clear hO HX
      go_wp2_with fail
      go_ret
      exact ⟨by rw [unhide HY]; rfl, unhide HB1⟩
end Go.Proofs.YtmicacoegkmklaaGreatDoor


/- What is spare, by the specification. -/
namespace Go.Proofs.YtmicacoegkmklaaGreatDoor
open Go.RowKit Plain
open Classical
set_option linter.unusedVariables false

set_option maxRecDepth 10000 in
set_option maxHeartbeats 8000000 in
theorem spec_Spare (ad : Option Addr) (nd cd : Nat) (ds : List ByteArray) (a1 : Option Addr) (n1 c1 : Nat) (ns : List Int) (a2 : Option Addr) (n2 c2 : Nat) (hs : List (List ByteArray)) (k : Int) (w : World) (hd : TxtsAt w ad nd ds) (h1 : IntsAt w a1 n1 ns) (h2 : HavAt w a2 n2 hs) :
    Calls Tryz.prog 22 #[.slice ad nd cd, .slice a1 n1 c1, .slice a2 n2 c2, .int .i64 k] w fun e w' => ∃ v, e = .returned (.tuple #[v, .bool (rpB ds ns hs k)]) ∧ OwnR cpyE w' w.heap.size v (spL ds ns hs k) ∧ Below w.heap.size w w' := by
  obtain ⟨W0, hW0⟩ : ∃ W0, W0 = w.alloc (.cells #[] 46) := ⟨_, rfl⟩
  have HB0 := hide (show Below w.heap.size w W0 from by rw [hW0]; exact bel1D _ _)
  have HO0 := hide (show OwnR cpyE W0 w.heap.size (.slice (some ⟨w.heap.size, 0, none⟩) 0 0) [] from by rw [hW0]; exact ownR_empty cpyE w w.heap.size (Nat.le_refl _))
  have HK := hide (l14Ok_calls ad nd cd ds a1 n1 c1 ns a2 n2 c2 hs k W0 (hd.below (unhide HB0)) (h1.below (unhide HB0)) (h2.below (unhide HB0)))
  have HW0 := hide hW0.symm
  clear hW0
  cases hB : rpB ds ns hs k with
  | false =>
    rw [hB] at HK
    rw [spL_no hB]
    clear hd h1 h2 hB
    go_enter Tryz.func22, Tryz.ntmps22
    go_wp2_with fail
    rw [unhide HW0]
    refine (unhide HK).mono ?_
    rintro e w1 ⟨rfl, hb1⟩
    have HB1 := hide (belOnD (unhide HB0) hb1)
    have HO1 := hide ((unhide HO0).keep hb1)
    clear hb1
    go_wp2_with fail
    exact bodyPost_ret (v := .tuple #[_, .bool false]) (by simp [results, Tryz.results22, go_sem]) rfl ⟨_, rfl, unhide HO1, unhide HB1⟩
  | true =>
    rw [hB] at HK
    rw [spL_yes hB]
    obtain ⟨q1, q2, q3, q4, q5⟩ := rpB_parts hB
    have hk := (kB_iff k).1 q4
    obtain ⟨K, rfl⟩ := Int.eq_ofNat_of_zero_le (show 0 ≤ k by omega)
    rw [Int.toNat_natCast]
    have hpw := (okIds_lt ns 0 q2).1
    have hnn : n2 = n1 := by rw [← h2.1, q3, h1.len]
    subst hnn
    have hb50 := okIds_len ns 0 (by decide) q2
    have HH := hide (fun (W : World) (hW : Below w.heap.size w W) (d : ByteArray) (h71 : d.size = 71) => l13Holders_calls d a1 n2 c1 ns K W (h1.below hW) q2 h71 (by omega) (by omega))
    have HHA := hide (fun (W : World) (hW : Below w.heap.size w W) (x : Int) (d : ByteArray) => (show Calls Tryz.prog 27 #[.slice a1 n2 c1, .slice a2 n2 c2, .int .i64 x, .string d] W fun e w' => e = .returned (.bool (decide (x ∈ ownL ns hs d))) ∧ W = w' from by
      rw [← hasN_own d ns hs x hpw]
      exact l14Has_calls a1 n2 c1 ns a2 n2 c2 hs x d W (h1.below hW) (h2.below hW) q3))
    have HDS := hide (fun (W : World) (hW : Below w.heap.size w W) (d : ByteArray) => (show Calls Tryz.prog 34 #[.slice ad nd cd, .string d] W fun e w' => e = .returned (.bool (decide (d ∈ ds))) ∧ W = w' from by
      rw [← anyB_dec]
      exact l1Has_calls ad nd cd ds d W hd.len (by have := hd.bn; omega) (hd.below hW).row.strs))
    have HNS := hide (fun (W : World) (hW : Below w.heap.size w W) => (h1.below hW).row)
    have HHV := hide h2
    have HSL := hide (fun (p : Nat) => spS_len ds ns hs K p (fun x hx => (setB_all (q5 x hx)).1) (by omega))
    have HS1 := hide (fun (x : Int) (l : List ByteArray) => sp1_len ds ns hs K x l)
    have HSB := hide (fun (p : Nat) (hp : p < hs.length) => setB_all (q5 hs[p] (by simp)))
    have HNX := hide (fun (p : Nat) (g1 : p < ns.length) (g2 : p < hs.length) => spS_next ds ns hs K p g1 g2)
    have HNJ := hide (fun (x : Int) (l : List ByteArray) (j : Nat) (h : j < l.length) => sp1_next ds ns hs K x l j h)
    have HHL := hide (fun (d : ByteArray) => (show (hld (wt d) ns K).length ≤ 50 from Nat.le_trans (hld_len _ _ _) (by omega)))
    have HLN := hide h2.1
    have HLM := hide h1.len
    have hn50 : n2 ≤ 50 := by have := h1.len; omega
    clear hd h1 h2 hB q1 q2 q4 q5 hk hpw hb50
    go_enter Tryz.func22, Tryz.ntmps22
    go_wp2_with fail
    rw [unhide HW0]
    refine (unhide HK).mono ?_
    rintro e w1 ⟨rfl, hb1⟩
    have HB1 := hide (belOnD (unhide HB0) hb1)
    have HO1 := hide ((unhide HO0).keep hb1)
    clear hb1 HK HB0 HO0 HW0
    go_wp2_with fail
    go_loopw [10, 11] (fun s10 s11 wr => ∃ (p : Nat), s11 = .int .i64 p ∧ p ≤ n2 ∧ w.heap.size ≤ wr.heap.size ∧ Hid (OwnR cpyE wr w.heap.size s10 (spS ds ns hs K p)) ∧ Hid (Below w.heap.size w wr)) (fun _ s11 _ => n2 - (intOf s11).toNat)
    case atStart => exact ⟨0, rfl, by omega, (unhide HB1).size, HO1, HB1⟩
    case round =>
      clear HO1 HB1
      obtain ⟨p, rfl, hp, hz, HO, HB⟩ := hrel
      by_cases hpn : p < n2
      · have hpl : p < hs.length := by rw [unhide HLN]; exact hpn
        have hpm : p < ns.length := by rw [unhide HLM]; exact hpn
        obtain ⟨g, ai, ci, e1, l1, p00, ht⟩ := (unhide HHV).2.2 p hpl
        have HPC := hide (fun (W : World) (hW : Below w.heap.size w W) => bclW hW l1 p00)
        have HTX := hide (fun (W : World) (hW : Below w.heap.size w W) => ht.row.below hW)
        have hsb := unhide HSB p hpl
        have HST := hide (unhide HNX p hpm hpl)
        have HND := hide (fun (W : World) (hW : Below w.heap.size w W) => (unhide HNS W hW).ix p hpm)
        generalize ns[p] = x at HST HND
        generalize hs[p] = xs at HPC HTX hsb HST
        obtain ⟨gn, en, -, -, -⟩ := unhide HND wr (unhide HB)
        have HNC := hide (fun (W : World) (hW : Below w.heap.size w W) => (show W.cell? ⟨gn, p, none⟩ = some (.int .i64 x) from by
          obtain ⟨g', e', -, c', -⟩ := unhide HND W hW
          rw [en] at e'
          cases e'
          exact c'))
        obtain ⟨L, hL⟩ : ∃ L, xs.length = L := ⟨_, rfl⟩
        rw [hL] at HPC hsb
        have HXL := hide hL
        have h200 := hsb.1
        have HALL := hide hsb.2
        have hPl := unhide HSL p
        have HPL := hide hPl
        have i0 : (0 : Int) ≤ (p : Int) := by omega
        have i1 : (p : Int) < (n2 : Int) := by omega
        subst e1 en
        clear hsb hL ht p00 HND hPl HSB HNX
        go_wp2_with fail
        go_loopw [10, 12] (fun s10 s12 wq => ∃ (j : Nat), s12 = .int .i64 j ∧ j ≤ L ∧ w.heap.size ≤ wq.heap.size ∧ Hid (OwnR cpyE wq w.heap.size s10 (spS ds ns hs K p ++ sp1 ds ns hs K x (xs.take j))) ∧ Hid (Below w.heap.size w wq)) (fun _ s12 _ => L - (intOf s12).toNat)
        case atStart => exact ⟨0, rfl, by omega, hz, hide (by simpa [sp1] using unhide HO), HB⟩
        case round =>
          clear HO HB hz
          obtain ⟨j, rfl, hj, hz, HO, HB⟩ := hrel
          have hql : (spS ds ns hs K p ++ sp1 ds ns hs K x (xs.take j)).length ≤ 10200 := by
            have h3 := unhide HS1 x (xs.take j)
            have h4 := unhide HPL
            rw [List.length_take] at h3
            rw [List.length_append]
            omega
          obtain ⟨q, hq⟩ : ∃ q, (spS ds ns hs K p ++ sp1 ds ns hs K x (xs.take j)).length = q := ⟨_, rfl⟩
          obtain ⟨a10, c10, hv10⟩ := (unhide HO).form
          rw [hq] at hv10 hql
          subst hv10
          have pc := unhide HPC wr (unhide HB)
          by_cases hjL : j < L
          · have hjl : j < xs.length := by rw [unhide HXL]; exact hjL
            obtain ⟨gx, ex, lx, px, -⟩ := (unhide HTX wr (unhide HB)).str j hjl
            have hd71 := digB_len71 (unhide HALL xs[j] (by simp))
            have HSJ := hide (unhide HNJ x xs j hjl)
            generalize xs[j] = d at px hd71 HSJ
            have HG1 := hide (unhide HH wr (unhide HB) d hd71)
            have HG2 := hide (fun (W : World) (hW : Below w.heap.size w W) => unhide HDS W hW d)
            have HG3 := hide (fun (W : World) (hW : Below w.heap.size w W) (y : Int) => unhide HHA W hW y d)
            have hHl := unhide HHL d
            unfold spB at HSJ
            generalize hld (wt d) ns K = now at HSJ HG1 hHl
            generalize ownL ns hs d = own at HSJ HG3
            generalize decide (d ∈ ds) = b1 at HSJ HG2
            generalize spS ds ns hs K p = P at HO HSJ hq HST
            generalize sp1 ds ns hs K x (xs.take j) = P2 at HO HSJ hq
            have HQ := hide hq
            have j0 : (0 : Int) ≤ (j : Int) := by omega
            have j1 : (j : Int) < (L : Int) := by omega
            subst ex
            clear hq
            go_wp2_with fail
            refine (unhide HG1).mono ?_
            rintro e w5 ⟨vN, rfl, oN, hb5⟩
            obtain ⟨aN, cN, hvN⟩ := oN.form
            obtain ⟨nN, hnN⟩ : ∃ nN, now.length = nN := ⟨_, rfl⟩
            rw [hnN] at hvN hHl
            subst hvN
            have HB5 := hide ((unhide HB).trans (hb5.mono hz))
            have HO5 := hide ((unhide HO).keep hb5)
            have HW5 := hide oN.at
            have hz5 : w.heap.size ≤ w5.heap.size := Nat.le_trans hz hb5.size
            have HNN := hide hnN
            have HIN := hide (l1Ints_calls aN nN cN now x w5 ⟨unhide HW5, hnN, by omega⟩)
            have pn := unhide HNC w5 (unhide HB5)
            have HD5 := hide (unhide HG2 w5 (unhide HB5))
            have HA5 := hide (unhide HG3 w5 (unhide HB5))
            have px5 := bclW hb5 lx px
            have pc5 := unhide HPC w5 (unhide HB5)
            generalize decide (x ∈ now) = b2 at HSJ HIN
            obtain ⟨b3, hb3⟩ : ∃ b3, (b1 && !b2) = b3 := ⟨_, rfl⟩
            rw [hb3] at HSJ
            clear oN hb5 HO HB HG1 HG2 HG3 px pc hnN
            go_wp2_with fail
            refine (unhide HD5).mono ?_
            rintro e w6 ⟨rfl, rfl⟩
            cases b1 with
            | false =>
              obtain rfl : b3 = false := hb3.symm
              clear hb3
              go_wp2_with fail
              go_loop [15, 16] (fun s15 s16 => ∃ (m : Nat) (A : Bool), s16 = .int .i64 m ∧ s15 = .bool A ∧ m ≤ nN ∧ Hid (A = (false && (now.take m).all fun y => decide (y ∈ own)))) (fun _ s16 => nN - (intOf s16).toNat)
              case atStart => exact ⟨0, _, rfl, rfl, by omega, hide (by simp)⟩
              case round =>
                obtain ⟨m, A, rfl, rfl, hm, HA⟩ := hrel
                by_cases hmn : m < nN
                · have hml : m < now.length := by rw [unhide HNN]; exact hmn
                  obtain ⟨gw, ew, lw, pw, -⟩ := (unhide HW5).ix m hml
                  have HAN := hide (show (false && (now.take (m + 1)).all fun y => decide (y ∈ own)) = (A && decide (now[m] ∈ own)) from by
                    rw [unhide HA, List.take_succ_eq_append_getElem hml, List.all_append, List.all_cons, List.all_nil, Bool.and_true, Bool.and_assoc])
                  have HC := hide (unhide HA5 now[m])
                  generalize now[m] = y at pw HAN HC
                  generalize decide (y ∈ own) = by_ at HAN HC
                  have m0 : (0 : Int) ≤ (m : Int) := by omega
                  have m1 : (m : Int) < (nN : Int) := by omega
                  subst ew
                  cases A with
                  | false =>
                    go_wp2_with fail
                    go_round
                    case rel => exact ⟨m + 1, _, by go_num, rfl, by omega, hide (by rw [unhide HAN]; rfl)⟩
                    case measure => simp [intOf]; omega
                  | true =>
                    go_wp2_with fail
                    refine (unhide HC).mono ?_
                    rintro e w7 ⟨rfl, rfl⟩
                    go_wp2_with fail
                    go_round
                    case rel => exact ⟨m + 1, _, by go_num, rfl, by omega, hide (by rw [unhide HAN]; rfl)⟩
                    case measure => simp [intOf]; omega
                · obtain rfl : m = nN := by omega
                  have hA := unhide HA
                  rw [List.take_of_length_le (by rw [unhide HNN]; exact Nat.le_refl _)] at hA
                  have HSK := hide (unhide HSJ)
                  rw [← hA] at HSK
                  clear hA HA
                  cases A with
                  | false =>
                    have HE := hide (show sp1 ds ns hs K x (xs.take (j + 1)) = P2 from by rw [unhide HSK]; simp)
                    clear HSK
                    go_wp2_with fail
                    go_roundw
                    case rel => exact ⟨j + 1, by go_num, by omega, hz5, hide (by rw [unhide HE]; exact unhide HO5), HB5⟩
                    case measure => simp [intOf]; omega
                  | true =>
                    have HE := hide (show P ++ sp1 ds ns hs K x (xs.take (j + 1)) = (P ++ P2) ++ [(⟨d, x, x⟩ : Cpy)] from by rw [unhide HSK, if_pos rfl, List.append_assoc])
                    have HLQ := hide (show ((P ++ P2) ++ [(⟨d, x, x⟩ : Cpy)]).length = q + 1 from by rw [List.length_append, unhide HQ]; rfl)
                    have hlen : (P ++ P2).length < 100000000 := by rw [unhide HQ]; omega
                    have HOd := hide (show OwnR cpyE w5.drew w.heap.size (.slice a10 q c10) (P ++ P2) from unhide HO5)
                    have hzd : w.heap.size ≤ w5.drew.heap.size := hz5
                    clear HSK
                    go_wp2_with fail
                    go_region_law (refine stepGG (e := cpyE) rfl _ _ rfl (w := w5.drew) (unhide HOd) (by simp [Act.eval]) (⟨d, x, x⟩ : Cpy) rfl _ (by simp [Act.eval]) rfl hlen hzd ?_; intro v' w8 hown8 hb8 hg8; obtain ⟨av', cv', hv'⟩ := hown8.form; rw [unhide HLQ] at hv'; subst hv')
                    all_goals (try go_wp2_with fail)
                    all_goals exact ⟨⟨j + 1, by go_num, by omega, Nat.le_trans hz5 hb8.size, hide (by rw [unhide HE]; exact hown8), hide ((belDrew (unhide HB5)).trans hb8)⟩, by simp [intOf]; omega⟩
            | true =>
              obtain rfl : b3 = !b2 := hb3.symm
              clear hb3
              go_wp2_with fail
              refine (unhide HIN).mono ?_
              rintro e w9 ⟨rfl, rfl⟩
              go_wp2_with fail
              go_loop [15, 16] (fun s15 s16 => ∃ (m : Nat) (A : Bool), s16 = .int .i64 m ∧ s15 = .bool A ∧ m ≤ nN ∧ Hid (A = (!b2 && (now.take m).all fun y => decide (y ∈ own)))) (fun _ s16 => nN - (intOf s16).toNat)
              case atStart => exact ⟨0, _, rfl, rfl, by omega, hide (by simp)⟩
              case round =>
                obtain ⟨m, A, rfl, rfl, hm, HA⟩ := hrel
                by_cases hmn : m < nN
                · have hml : m < now.length := by rw [unhide HNN]; exact hmn
                  obtain ⟨gw, ew, lw, pw, -⟩ := (unhide HW5).ix m hml
                  have HAN := hide (show (!b2 && (now.take (m + 1)).all fun y => decide (y ∈ own)) = (A && decide (now[m] ∈ own)) from by
                    rw [unhide HA, List.take_succ_eq_append_getElem hml, List.all_append, List.all_cons, List.all_nil, Bool.and_true, Bool.and_assoc])
                  have HC := hide (unhide HA5 now[m])
                  generalize now[m] = y at pw HAN HC
                  generalize decide (y ∈ own) = by_ at HAN HC
                  have m0 : (0 : Int) ≤ (m : Int) := by omega
                  have m1 : (m : Int) < (nN : Int) := by omega
                  subst ew
                  cases A with
                  | false =>
                    go_wp2_with fail
                    go_round
                    case rel => exact ⟨m + 1, _, by go_num, rfl, by omega, hide (by rw [unhide HAN]; rfl)⟩
                    case measure => simp [intOf]; omega
                  | true =>
                    go_wp2_with fail
                    refine (unhide HC).mono ?_
                    rintro e w7 ⟨rfl, rfl⟩
                    go_wp2_with fail
                    go_round
                    case rel => exact ⟨m + 1, _, by go_num, rfl, by omega, hide (by rw [unhide HAN]; rfl)⟩
                    case measure => simp [intOf]; omega
                · obtain rfl : m = nN := by omega
                  have hA := unhide HA
                  rw [List.take_of_length_le (by rw [unhide HNN]; exact Nat.le_refl _)] at hA
                  have HSK := hide (unhide HSJ)
                  rw [← hA] at HSK
                  clear hA HA
                  cases A with
                  | false =>
                    have HE := hide (show sp1 ds ns hs K x (xs.take (j + 1)) = P2 from by rw [unhide HSK]; simp)
                    clear HSK
                    go_wp2_with fail
                    go_roundw
                    case rel => exact ⟨j + 1, by go_num, by omega, hz5, hide (by rw [unhide HE]; exact unhide HO5), HB5⟩
                    case measure => simp [intOf]; omega
                  | true =>
                    have HE := hide (show P ++ sp1 ds ns hs K x (xs.take (j + 1)) = (P ++ P2) ++ [(⟨d, x, x⟩ : Cpy)] from by rw [unhide HSK, if_pos rfl, List.append_assoc])
                    have HLQ := hide (show ((P ++ P2) ++ [(⟨d, x, x⟩ : Cpy)]).length = q + 1 from by rw [List.length_append, unhide HQ]; rfl)
                    have hlen : (P ++ P2).length < 100000000 := by rw [unhide HQ]; omega
                    have HOd := hide (show OwnR cpyE w5.drew w.heap.size (.slice a10 q c10) (P ++ P2) from unhide HO5)
                    have hzd : w.heap.size ≤ w5.drew.heap.size := hz5
                    clear HSK
                    go_wp2_with fail
                    go_region_law (refine stepGG (e := cpyE) rfl _ _ rfl (w := w5.drew) (unhide HOd) (by simp [Act.eval]) (⟨d, x, x⟩ : Cpy) rfl _ (by simp [Act.eval]) rfl hlen hzd ?_; intro v' w8 hown8 hb8 hg8; obtain ⟨av', cv', hv'⟩ := hown8.form; rw [unhide HLQ] at hv'; subst hv')
                    all_goals (try go_wp2_with fail)
                    all_goals exact ⟨⟨j + 1, by go_num, by omega, Nat.le_trans hz5 hb8.size, hide (by rw [unhide HE]; exact hown8), hide ((belDrew (unhide HB5)).trans hb8)⟩, by simp [intOf]; omega⟩
          · obtain rfl : j = L := by omega
            have HOE := hide (show OwnR cpyE wr w.heap.size (.slice a10 q c10) (spS ds ns hs K (p + 1)) from by
              have h3 := unhide HO
              rw [List.take_of_length_le (by rw [unhide HXL]; exact Nat.le_refl _)] at h3
              rw [unhide HST]
              exact h3)
            clear HO hq
            go_wp2_with fail
            go_roundw
            case rel => exact ⟨p + 1, by go_num, by omega, hz, HOE, HB⟩
            case measure => simp [intOf]; omega
      · obtain rfl : p = n2 := by omega
        obtain ⟨np, hnp⟩ : ∃ np, (spS ds ns hs K p).length = np := ⟨_, rfl⟩
        obtain ⟨a8, c8, hv8⟩ := (unhide HO).form
        rw [hnp] at hv8
        subst hv8
        have HOF := hide (show OwnR cpyE wr w.heap.size (.slice a8 np c8) (spS ds ns hs K ns.length) from by rw [unhide HLM]; exact unhide HO)
        clear HO hnp
        go_wp2_with fail
        exact bodyPost_ret (v := .tuple #[.slice a8 np c8, .bool true]) (by simp [results, Tryz.results22, go_sem]) rfl ⟨_, rfl, unhide HOF, unhide HB⟩
end Go.Proofs.YtmicacoegkmklaaGreatDoor

