/- The walk of the law FnSpare. -/
import Derived.Test.YtmienlnhbdbefaaGreatDoorRzC
import Derived.Test.YtmienlnhbdbefaaGreatDoorRzP
import Derived.Test.YtmienlnhbdbefaaGreatDoorRzQ
import Derived.Test.YtmienlnhbdbefaaGreatDoorRzG
import Derived.Test.YtmienlnhbdbefaaGreatDoorRzH
import Derived.Deep.QuietTactic
import Derived.BigQuiet
import Derived.WalkKit
import Derived.ProofKit
import Derived.Below
set_option linter.unusedVariables false
namespace Go.Proofs.YtmienlnhbdbefaaGreatDoor.fnSpare
open Go.RowKit
open Plain
open Classical

theorem spS_mem (ds : List ByteArray) (ns : List Int) (hs : List (List ByteArray)) (K p : Nat) (c : Cpy) (h : c ∈ spS ds ns hs K p) : c.src = c.dst ∧ spB ds ns hs K c.src c.dig = true := by
  unfold spS at h
  obtain ⟨q, _, hq⟩ := List.mem_flatMap.1 h
  unfold sp1 at hq
  obtain ⟨d, hd, rfl⟩ := List.mem_map.1 hq
  exact ⟨rfl, (List.mem_filter.1 hd).2⟩
theorem spL_facts (ds : List ByteArray) (ns : List Int) (hs : List (List ByteArray)) (k : Int) (c : Cpy) (h : c ∈ spL ds ns hs k) : rpB ds ns hs k = true ∧ c.src = c.dst ∧ c.dig ∈ ds ∧ c.src ∉ hld (wt c.dig) ns k.toNat ∧ ∀ y ∈ hld (wt c.dig) ns k.toNat, y ∈ ownL ns hs c.dig := by
  unfold spL at h
  split at h
  · rename_i hr
    obtain ⟨h1, h2⟩ := spS_mem _ _ _ _ _ _ h
    unfold spB at h2
    rw [Bool.and_eq_true, Bool.and_eq_true, decide_eq_true_eq, List.all_eq_true] at h2
    refine ⟨hr, h1, h2.1.1, by simpa using h2.1.2, fun y hy => by simpa using h2.2 y hy⟩
  · cases h
theorem own_at (d : ByteArray) : ∀ (ns : List Int) (hs : List (List ByteArray)) (j : Nat) (h1 : j < ns.length) (h2 : j < hs.length), ns.Pairwise (· < ·) → ns[j] ∈ ownL ns hs d → d ∈ hs[j]
  | n :: ns, h :: hs, 0, _, _, hp, hm => by
    rw [List.pairwise_cons] at hp
    rw [ownL_cons] at hm
    rcases List.mem_append.1 hm with q | q
    · split at q
      · simpa
      · simp at q
    · have hn := ownL_sub d ns hs _ q
      have := hp.1 _ hn
      simp at this
  | n :: ns, h :: hs, j + 1, h1, h2, hp, hm => by
    rw [List.pairwise_cons] at hp
    rw [ownL_cons] at hm
    have h1' : j < ns.length := by simpa using h1
    have hlt := hp.1 ns[j] (by simp)
    rcases List.mem_append.1 hm with q | q
    · split at q
      · simp at q; omega
      · simp at q
    · exact own_at d ns hs j h1' (by simpa using h2) hp.2 (by simpa using q)

theorem hasInt_quiet (a : Option Addr) (n c : Nat) (ls : List Int) (x : Int) (w : World) (q : Nat) (b : Bool) (h : IntsAt w a n ls) (hb : decide (x ∈ ls) = b) :
    Calls Tryz.prog 9 #[.slice a n c, .int .i64 x] (w.drewN q) fun e w'' => e = .returned (.bool b) ∧ ∃ m, w'' = w.drewN m := by
  subst hb
  refine (hasIntR_calls a n c ls x (w.drewN q) (h.below (belQ (Below.refl _ _) _))).mono ?_
  rintro e w2 ⟨rfl, rfl⟩
  exact ⟨rfl, q, rfl⟩
theorem hasText_quiet (a : Option Addr) (n c : Nat) (ls : List ByteArray) (s : ByteArray) (w : World) (q : Nat) (b : Bool) (h : TxtsAt w a n ls) (hb : decide (s ∈ ls) = b) :
    Calls Tryz.prog 10 #[.slice a n c, .string s] (w.drewN q) fun e w'' => e = .returned (.bool b) ∧ ∃ m, w'' = w.drewN m := by
  subst hb
  refine (hasText_calls a n c ls s (w.drewN q) h.len (by have := h.bn; omega) (h.below (belQ (Below.refl _ _) _)).row.strs).mono ?_
  rintro e w2 ⟨rfl, rfl⟩
  exact ⟨rfl, q, rfl⟩

set_option maxRecDepth 10000 in
set_option maxHeartbeats 2000000 in
theorem DrawSpare_calls (a : Option Addr) (len cap : Nat) (zs : List Int) (w : World) (h : IsRow .u8 w a len cap zs) (hl : len ≤ 1048576) :
    Calls Tryz.prog 5 #[.slice a len cap] w fun e w' => ∃ (R : Nat) (w1 : World), CasQ R a len cap zs w1 e w' ∧ w.heap.size ≤ w1.heap.size ∧ Below w.heap.size w w' := by
  have HOP := hide (open_calls a len cap zs w h hl)
  clear h
  have HPL := hide (show Calls Tryz.prog 11 #[.slice a len cap] w fun e w' => ∃ (R : Nat) (w1 : World), CasQ R a len cap zs w1 e w' ∧ w.heap.size ≤ w1.heap.size ∧ Below w.heap.size w w' from by
    go_enter Tryz.func11, Tryz.ntmps11
    go_wp2_with fail
    refine (unhide HOP).mono ?_
    rintro e w1 ⟨rfl, hR1, hb1⟩
    have HB1 := hide hb1
    have HC := hide (l14Case_calls _ a len cap zs _ hR1)
    clear hb1 hR1
    go_wp2_with fail
    refine (unhide HC).mono ?_
    rintro e w2 hq
    have HQ := hide hq
    obtain ⟨vn, ds, v, ns, vh, hds, hs, k, rfl, -, -, -, -, -, -, -, -, ho⟩ := hq
    have hz1 := (unhide HB1).size
    have HB2 := hide ((unhide HB1).trans (ho.below (B := w.heap.size) (by simp) hz1))
    clear ho HC
    go_wp2_with fail
    exact bodyPost_ret (v := .tuple #[vn, v, vh, .int .i64 k]) (by simp [results, Tryz.results11, go_sem]) rfl ⟨_, _, unhide HQ, hz1, unhide HB2⟩)
  go_enter Tryz.func5, Tryz.ntmps5
  go_wp2_with fail
  refine (unhide HPL).mono ?_
  rintro e w2 ⟨R, w1, hq, hz, hb⟩
  have HQ := hide hq
  have HB := hide hb
  obtain ⟨vn, ds, v, ns, vh, hds, hs, k, rfl, -, -, -, -, -, -, -, -, -⟩ := hq
  clear hb HPL HOP
  go_wp2_with fail
  exact bodyPost_ret (v := .tuple #[vn, v, vh, .int .i64 k]) (by simp [results, Tryz.results5, go_sem]) rfl ⟨_, _, unhide HQ, hz, unhide HB⟩

set_option maxRecDepth 10000 in
set_option maxHeartbeats 8000000 in
theorem walk0 (a0 : Option Addr) (len0 cap0 : Nat) (z0 : List Int) (w : World) (w0 : IsRow .u8 w a0 len0 cap0 z0) (hK : KAt w) (hT : TzAt w) :
    Calls Tryz.prog 3 #[.slice a0 len0 cap0] w fun e w' => e = .returned (.bool true) ∧ Below w.heap.size w w' := by
  have h0 : 2 < w.heap.size := lt_of_cell (hK 0 (by omega))
  have hlen := w0.len
  have H := hide w0
  clear w0
  by_cases hbig : len0 ≤ 1048576
  case neg =>
    have hd : decide (1048576 < (len0 : Int)) = true := by simp; omega
    clear hK H hT
    go_enter Tryz.func3, Tryz.ntmps3
    go_wp2_with fail
    refine (big_calls a0 len0 cap0 _ hlen).mono ?_
    rintro e w1 ⟨rfl, rfl⟩
    rw [hd]
    go_wp2_with fail
    go_ret
    exact ⟨rfl, Below.refl _ _⟩
  case pos =>
    have hd : decide (1048576 < (len0 : Int)) = false := by simp; omega
    have HKT := hide (fun (W : World) (hW : Below w.heap.size w W) => And.intro (hK.below hW h0) (hT.below hW hT.2))
    clear hK hT
    go_enter Tryz.func3, Tryz.ntmps3
    go_wp2_with fail
    refine (big_calls a0 len0 cap0 _ hlen).mono ?_
    rintro e w1 ⟨rfl, rfl⟩
    rw [hd]
    go_wp2_with fail
    refine (DrawSpare_calls a0 len0 cap0 z0 _ (unhide H) hbig).mono ?_
    rintro e w1 ⟨R, w9, hq, hz9, hb1⟩
    obtain ⟨vn, ds, v, ns, vh, hds, hs, k, rfl, oD, hfD, hdl, oN, hnl, hH, hhl, -, -⟩ := hq
    obtain ⟨aN, cN, hvN⟩ := oN.form
    obtain ⟨n, hn⟩ : ∃ n, ns.length = n := ⟨_, rfl⟩
    rw [hn] at hvN hnl
    subst hvN
    obtain ⟨aD, cD, hvD⟩ := oD.form
    obtain ⟨nd, hnd⟩ : ∃ nd, ds.length = nd := ⟨_, rfl⟩
    rw [hnd] at hvD hdl
    subst hvD
    obtain ⟨aH, cH, hvH⟩ := hH.out.form
    obtain ⟨nh, hnh⟩ : ∃ nh, hs.length = nh := ⟨_, rfl⟩
    rw [hH.len, hnh] at hvH
    rw [hnh] at hhl
    have HHV := hide (fun (W : World) (hW : Below w1.heap.size w1 W) => (show HavAt W aH nh hs from (hH.at hvH hnh (by omega)).below hW))
    subst hvH
    have HIA := hide (fun (W : World) (hW : Below w1.heap.size w1 W) => (show IntsAt W aN n ns from ⟨oN.at.below hW, hn, by omega⟩))
    have HTA := hide (fun (W : World) (hW : Below w1.heap.size w1 W) => (show TxtsAt W aD nd ds from ⟨oD.at.below hW, hnd, by omega, fun s hs => by have := hfD s hs; omega⟩))
    have HB1 := hide hb1
    have HSP := hide (spec_Spare aD nd cD ds aN n cN ns aH nh cH hs k w1 (unhide HTA _ (Below.refl _ _)) (unhide HIA _ (Below.refl _ _)) (unhide HHV _ (Below.refl _ _)))
    have HIM0 := hide (fun (W : World) (hW : Below w1.heap.size w1 W) => impl_Spare aD nd cD ds aN n cN ns aH nh cH hs k W (unhide HTA _ hW) (unhide HIA _ hW) (unhide HHV _ hW) (unhide HKT _ (belOnD (unhide HB1) hW)).1 (unhide HKT _ (belOnD (unhide HB1) hW)).2)
    have hRl := spL_len ds ns hs k
    have HFC := hide (fun (c : Cpy) (hc : c ∈ spL ds ns hs k) => spL_facts ds ns hs k c hc)
    generalize spL ds ns hs k = Rl at HSP HIM0 hRl HFC
    obtain ⟨b, hb⟩ : ∃ b, rpB ds ns hs k = b := ⟨_, rfl⟩
    rw [hb] at HSP HIM0
    clear hb
    obtain ⟨m, hm⟩ : ∃ m, Rl.length = m := ⟨_, rfl⟩
    rw [hm] at hRl
    have HMM := hide hm
    have HNN := hide hn
    have HNH := hide hnh
    clear hb1 oD hfD oN hH hd H hbig hlen hm hn hnd hnh hz9
    go_wp2_with fail
    refine (unhide HSP).mono ?_
    rintro e w2 ⟨vS, rfl, oS, hb2⟩
    obtain ⟨aS, cS, hvS⟩ := oS.form
    rw [unhide HMM] at hvS
    subst hvS
    have HB2 := hide hb2
    have HOS := hide oS.at
    clear hb2 oS HSP
    have HIM := hide (unhide HIM0 w2 (unhide HB2))
    clear HIM0
    go_wp2_with fail
    refine (unhide HIM).mono ?_
    rintro e w3 ⟨vI, rfl, oI, hb3⟩
    obtain ⟨aI, cI, hvI⟩ := oI.form
    rw [unhide HMM] at hvI
    subst hvI
    have HB3 := hide (belOnD (unhide HB2) hb3)
    have HOS3 := hide ((unhide HOS).below hb3)
    have HOI := hide oI.at
    have hneq : ((m : Int) != (m : Int)) = false := by simp
    clear hb3 oI HIM HOS HB2
    have HB13 := hide (belOnD (unhide HB1) (unhide HB3))
    have HKT3 := hide (fun (W : World) (hW : Below w3.heap.size w3 W) => unhide HKT W (belOnD (unhide HB13) hW))
    have HIA3 := hide (fun (W : World) (hW : Below w3.heap.size w3 W) => unhide HIA W (belOnD (unhide HB3) hW))
    have HTA3 := hide (fun (W : World) (hW : Below w3.heap.size w3 W) => unhide HTA W (belOnD (unhide HB3) hW))
    have HHV3 := hide (fun (W : World) (hW : Below w3.heap.size w3 W) => unhide HHV W (belOnD (unhide HB3) hW))
    clear HKT HIA HTA HHV HB1 HB3
    cases b
    all_goals
      go_wp2_with fail
      go_loopw [11] (fun s11 wr => ∃ (i : Nat), s11 = .int .i64 i ∧ i ≤ m ∧ Hid (Below w3.heap.size w3 wr)) (fun s11 _ => m - (intOf s11).toNat)
      case atStart => exact ⟨0, rfl, by omega, hide (Below.refl _ _)⟩
      case round =>
        obtain ⟨i, rfl, hi, HBi⟩ := hrel
        by_cases him : i < m
        case neg =>
          obtain rfl : i = m := by omega
          go_wp2_with fail
          go_ret
          exact ⟨rfl, belOnD (unhide HB13) (unhide HBi)⟩
        case pos =>
          have hil : i < Rl.length := by rw [unhide HMM]; exact him
          obtain ⟨hrp, hsd, hdd, hno, hal⟩ := unhide HFC Rl[i] (by simp)
          obtain ⟨q1, q2, q3, q4, q5⟩ := rpB_parts hrp
          have hall := setB_all q1
          obtain ⟨gI, eI, lI, p0, p1, p2⟩ := ((unhide HOI).below (unhide HBi)).cx i hil
          obtain ⟨gS, eS, lS, r0, r1, r2⟩ := ((unhide HOS3).below (unhide HBi)).cx i hil
          have h71 := digB_len71 (hall.2 Rl[i].dig hdd)
          have hdg := hall.2 Rl[i].dig hdd
          rw [← hsd] at p2 r2
          generalize Rl[i].dig = d at p0 r0 hdd hno hal h71 hdg
          generalize Rl[i].src = x at p1 r1 p2 r2 hno
          have hHB : hldB d ns k = true := by unfold hldB rosB; rw [hdg, q2, q4]; rfl
          have HHO := hide (impl_Holders d aN n cN ns k wr (unhide HIA3 wr (unhide HBi)) (by omega) (unhide HKT3 wr (unhide HBi)).1 (unhide HKT3 wr (unhide HBi)).2)
          rw [hHB, hldL_yes hHB] at HHO
          have hpw := (okIds_lt ns 0 q2).1
          have HOWN := hide (fun (j : Nat) (g1 : j < ns.length) (g2 : j < hs.length) (hy : ns[j] ∈ hld (wt d) ns k.toNat) => own_at d ns hs j g1 g2 hpw (hal _ hy))
          have hHl : (hld (wt d) ns k.toNat).length ≤ 7 := Nat.le_trans (hld_len _ _ _) (by rw [unhide HNN]; exact hnl)
          generalize hld (wt d) ns k.toNat = HL at HHO HOWN hno hHl
          have HHN := hide (show nh = n from by rw [← unhide HNH, q3, unhide HNN])
          have i0 : (0 : Int) ≤ (i : Int) := by omega
          have i1 : (i : Int) < (m : Int) := by omega
          subst eI
          subst eS
          clear hrp hsd q1 q2 q3 q4 q5 hall hal hHB hpw
          go_wp2_with fail
          refine (unhide HHO).mono ?_
          rintro e w5 ⟨vW, rfl, oW, hb5⟩
          obtain ⟨aW, cW, hvW⟩ := oW.form
          obtain ⟨nW, hnW⟩ : ∃ nW, HL.length = nW := ⟨_, rfl⟩
          rw [hnW] at hvW hHl
          subst hvW
          have HB5 := hide ((unhide HBi).trans (hb5.mono (unhide HBi).size))
          have HW5 := hide (show IntsAt w5 aW nW HL from ⟨oW.at, hnW, by omega⟩)
          have s0 := bclW hb5 lI p0
          have s1 := bclW hb5 lI p1
          have s2 := bclW hb5 lI p2
          have t0 := bclW hb5 lS r0
          have t1 := bclW hb5 lS r1
          have t2 := bclW hb5 lS r2
          have HNO := hide (show decide (x ∈ HL) = false from decide_eq_false hno)
          have HYE := hide (show decide (d ∈ ds) = true from decide_eq_true hdd)
          have HT5 := hide (unhide HTA3 w5 (unhide HB5))
          clear oW hb5 hnW HHO p0 p1 p2 r0 r1 r2 hno hdd
          go_wp2_with fail
          go_quiet (first
            | (go_at_call 9; exact hasInt_quiet _ _ _ _ _ _ _ _ (unhide HW5) (unhide HNO))
            | (go_at_call 10; exact hasText_quiet _ _ _ _ _ _ _ _ (unhide HT5) (unhide HYE)))
          go_wp2_with fail
          have lI5 : gI < w5.heap.size := lt_of_cell s0
          have HS0 := hide (fun (W : World) (hW : Below w5.heap.size w5 W) => bclW hW lI5 s0)
          have HIW := hide (fun (W : World) (hW : Below w5.heap.size w5 W) => (unhide HIA3 W (belOnD (unhide HB5) hW)))
          have HHW := hide (fun (W : World) (hW : Below w5.heap.size w5 W) => (unhide HHV3 W (belOnD (unhide HB5) hW)))
          clear s0 s1 s2 t0 t1 t2 HT5 HNO HYE
          go_loopw [14] (fun s14 wq => ∃ (j : Nat), s14 = .int .i64 j ∧ j ≤ n ∧ Hid (Below w5.heap.size w5 wq)) (fun s14 _ => n - (intOf s14).toNat)
          case atStart => exact ⟨0, rfl, by omega, hide (belQ (Below.refl _ _) _)⟩
          case round =>
            obtain ⟨j, rfl, hj, HBq⟩ := hrel
            by_cases hjn : j < n
            case neg =>
              obtain rfl : j = n := by omega
              go_wp2_with fail
              go_roundw
              case rel => exact ⟨i + 1, by go_num, by omega, hide ((unhide HB5).trans ((unhide HBq).mono (unhide HB5).size))⟩
              case measure => simp [intOf]; omega
            case pos =>
              have g1 : j < ns.length := by rw [unhide HNN]; exact hjn
              have g2 : j < hs.length := by rw [unhide HNH, unhide HHN]; exact hjn
              obtain ⟨gn, en, ln, pn, -⟩ := (unhide HIW _ (unhide HBq)).row.ix j g1
              obtain ⟨gh, ah, ch, eh, lh, ph, th⟩ := (unhide HHW _ (unhide HBq)).2.2 j g2
              have hown := unhide HOWN j g1 g2
              have s0 := unhide HS0 _ (unhide HBq)
              generalize ns[j] = y at pn hown
              have HWq := hide ((unhide HW5).below (unhide HBq))
              have j0 : (0 : Int) ≤ (j : Int) := by omega
              have j1 : (j : Int) < (n : Int) := by omega
              have j2 : (j : Int) < (nh : Int) := by have := unhide HHN; omega
              by_cases hy : y ∈ HL
              · have HYY := hide (show decide (y ∈ HL) = true from decide_eq_true hy)
                have HDD := hide (show decide (d ∈ hs[j]) = true from decide_eq_true (hown hy))
                have HTH := hide th
                generalize hs[j] = xs at ph HDD HTH
                generalize xs.length = nx at ph HTH
                subst en
                subst eh
                clear th hown hy
                go_wp2_with fail
                go_quiet (first
                  | (go_at_call 9; exact hasInt_quiet _ _ _ _ _ _ _ _ (unhide HWq) (unhide HYY))
                  | (go_at_call 10; exact hasText_quiet _ _ _ _ _ _ _ _ (unhide HTH) (unhide HDD)))
                go_wp2_with fail
                go_roundw
                case rel => exact ⟨j + 1, by go_num, by omega, hide (belQ (unhide HBq) _)⟩
                case measure => simp [intOf]; omega
              · have HYY := hide (show decide (y ∈ HL) = false from decide_eq_false hy)
                generalize hs[j].length = nx at ph
                subst en
                subst eh
                clear th hown hy
                go_wp2_with fail
                go_quiet (first
                  | (go_at_call 9; exact hasInt_quiet _ _ _ _ _ _ _ _ (unhide HWq) (unhide HYY)))
                go_wp2_with fail
                go_roundw
                case rel => exact ⟨j + 1, by go_num, by omega, hide (belQ (unhide HBq) _)⟩
                case measure => simp [intOf]; omega
end Go.Proofs.YtmienlnhbdbefaaGreatDoor.fnSpare
