/- ReadConf of the program. -/
import Derived.Test.YtjiclgcohpkkjaaGreatDoorGzAS
import Derived.Test.YtjiclgcohpkkjaaGreatDoorGzAT
import Derived.Test.YtjiclgcohpkkjaaGreatDoorRdcT
namespace Go.Proofs.YtjiclgcohpkkjaaGreatDoor
open Go.RowKit Plain
set_option linter.unusedVariables false

namespace Plain
theorem RdS.keep {C B : Nat} {W W' : World} {d : Bool} {v l : List Int} (h : RdS C B W d v l) (hb : Below W.heap.size W W') : RdS C B W' d v l := by
  cases h with
  | v cb ho hC hB => exact .v (cb.below hb cb.lt) (ho.keep hb) hC (Nat.le_trans hB hb.size)
  | l cb hr hl ho hC hB hB2 => exact .l (cb.below hb cb.lt) (hr.below hb) hl (ho.keep hb) hC hB (Nat.le_trans hB2 hb.size)
theorem RdS.finA {C B : Nat} {W : World} {d : Bool} {v l : List Int} (h : RdS C B W d v l) : ∃ a1 k1 a2 k2, CB C (.slice a1 v.length k1) (.slice a2 l.length k2) W ∧ RowAt i64E W a1 v ∧ RowAt i64E W a2 l ∧ (∀ g, inB a1 g → B ≤ g ∧ g < W.heap.size) ∧ (∀ g, inB a2 g → B ≤ g ∧ g < W.heap.size) ∧ (∀ g, inB a1 g → ¬ inB a2 g) := by
  cases h with
  | v cb ho hC hB =>
    obtain ⟨a, k, rfl⟩ := ho.form
    exact ⟨a, k, none, 0, cb, ho.at, fun i hi => by simp at hi, fun g hg => ho.bl g hg, fun g hg => (inB_none hg).elim, fun g _ hg => inB_none hg⟩
  | l cb hr hl ho hC hB hB2 =>
    obtain ⟨a2, k2, rfl⟩ := ho.form
    exact ⟨_, _, a2, k2, cb, hr, ho.at, fun g hg => by have := hl g hg; omega, fun g hg => by have := ho.bl g hg; omega, fun g h1 h2 => by have := (hl g h1).2; have := (ho.bl g h2).1; omega⟩
/-- What ReadConf of the program leaves: the two lists lie apart, too. -/
def RcPa (R : List Int × List Int × Bool) (w : World) (e : Ending) (w' : World) : Prop := ∃ a1 c1 a2 c2, e = .returned (.tuple #[.agg #[.slice a1 R.1.length c1, .slice a2 R.2.1.length c2], .bool R.2.2]) ∧ CcPost R.1 R.2.1 w a1 c1 a2 c2 w' ∧ (∀ g, inB a1 g → ¬ inB a2 g)
theorem RcPa.zero {w W : World} (hb : Below w.heap.size w W) : RcPa ([], [], false) w (.returned (.tuple #[.agg #[.slice none 0 0, .slice none 0 0], .bool false])) W :=
  ⟨none, 0, none, 0, rfl, ⟨fun i hi => by simp at hi, fun i hi => by simp at hi, fun g hg => (inB_none hg).elim, fun g hg => (inB_none hg).elim, hb⟩, fun g hg => (inB_none hg).elim⟩
theorem drop_words (ls : List (List UInt8)) (k : Nat) (h : k + 1 < ls.length) : ls.drop (k + 1) = ls[k + 1] :: ls.drop (k + 1 + 1) := List.drop_eq_getElem_cons h
end Plain

set_option maxRecDepth 10000 in
set_option maxHeartbeats 8000000 in
theorem impl_ReadConf (s : ByteArray) (w : World) (hs : s.size ≤ 1048576) (hv : RdVars w) : Calls Tryz.prog 24 #[.string s] w (RcPa (rdC numF s.data.toList) w) := by
  obtain ⟨W0, hW0⟩ : ∃ W0, W0 = (w.alloc (.cells #[.slice none 0 0, .slice none 0 0] 25)).alloc (.cells #[.slice none 0 0, .slice none 0 0] 25) := ⟨_, rfl⟩
  have hb0 : Below w.heap.size w W0 := by rw [hW0]; exact belOn (bel1 _ _) (bel1 _ _)
  have hs0 : W0.heap.size = w.heap.size + 2 := by rw [hW0]; simp
  have R0 : CB w.heap.size (.slice none 0 0) (.slice none 0 0) W0 := by rw [hW0]; exact (CB.new w _ _).below (bel1 _ _) (by simp)
  have C0 : CB (w.heap.size + 1) (.slice none 0 0) (.slice none 0 0) W0 := by rw [hW0, show w.heap.size + 1 = (w.alloc (.cells #[.slice none 0 0, .slice none 0 0] 25)).heap.size from by simp]; exact CB.new _ _ _
  obtain ⟨RR, hRR⟩ : ∃ RR, rdC numF s.data.toList = RR := ⟨_, rfl⟩
  have hRQ : rdQ s.data.toList = RR := by rw [rdQ_rdC]; exact hRR
  rw [hRR]
  have HRQ := hide hRQ
  have HW0 := hide hW0.symm
  have HB0 := hide hb0
  have HS0 := hide hs0
  have HV := hide (fun (W : World) (hW : Below w.heap.size w W) => hv.at hW)
  have HSP := hide (split_calls s W0 (by omega) (hv.at hb0))
  have HR0 := hide R0
  have HC0 := hide C0
  clear hb0 hs0 R0 C0 hRR hW0 hRQ hv
  obtain ⟨ls, hls⟩ : ∃ ls, splt 32 s.data.toList = ls := ⟨_, rfl⟩
  have hcut : cutB 32 s = ls.map toB := by unfold cutB; rw [hls]
  rw [hcut, List.length_map] at HSP
  have hn1 : ls.length ≤ 1048577 := by have := splt_len 32 s.data.toList; rw [hls, len_data] at this; omega
  have hn0 : 1 ≤ ls.length := by obtain ⟨a, b, q⟩ := splt_ne 32 s.data.toList; rw [hls] at q; rw [q]; simp
  obtain ⟨n, hn⟩ : ∃ n, ls.length = n + 1 := ⟨ls.length - 1, by omega⟩
  rw [hn] at HSP
  have HLN := hide hn
  obtain ⟨P9, hP9⟩ : ∃ P9, rdP (ls.drop 1) false [] [] = P9 := ⟨_, rfl⟩
  have HP9 := hide hP9
  have HRN := hide (show P9 = none → RR = ([], [], false) from fun e => by rw [← unhide HRQ]; exact rdQ_none (by rw [hls, hP9, e]))
  have HRS := hide (show ∀ v l, P9 = some (v, l) → RR = if confB v l = true ∧ confL v l = s.data.toList then (v, l, true) else ([], [], false) from fun v l e => by rw [← unhide HRQ]; exact rdQ_some (by rw [hls, hP9, e]))
  have HSZ := hide (show ∀ x ∈ ls, x.length ≤ 1048576 from fun x hx => by
    rw [← hls] at hx
    have := splt_small 32 s.data.toList x hx
    rw [len_data] at this
    omega)
  have hn2 : n ≤ 1048576 := by omega
  clear hn hn0 hn1 hP9 hcut hls
  go_enter Tryz.func24, Tryz.ntmps24
  go_wp2_with fail
  rw [unhide HW0]
  refine (unhide HSP).mono ?_
  rintro e w1 ⟨rfl, hw1⟩
  have hb1 : Below W0.heap.size W0 w1 := by rw [hw1]; exact bel1 _ _
  have HCL := hide (show ∀ i (hi : i < ls.length), w1.cell? ⟨W0.heap.size, i, none⟩ = some (.string (toB ls[i])) from fun i hi => by
    rw [hw1, cell_of_row _ W0.heap.size i _ _ _ (MapKept.heap_alloc W0 _).1]
    simp [hi])
  have HR1 := hide ((unhide HR0).below hb1 (unhide HR0).lt)
  have HS1 := hide (RdS.v (B := w1.heap.size) ((unhide HC0).below hb1 (unhide HC0).lt) (ownR_nil _ _ _) (Nat.lt_of_lt_of_le (unhide HC0).lt hb1.size) (Nat.le_refl _))
  have HB1 := hide (belOn (unhide HB0) hb1)
  have hz1 : w.heap.size + 3 ≤ w1.heap.size := by rw [hw1]; have := unhide HS0; simp; omega
  clear hb1 hw1 HR0 HC0 HSP
  go_wp2_with fail
  · go_loopw [5, 15] (fun s5 s15 wr => ∃ (k : Nat) (d : Bool) (v l : List Int), s5 = .pointer (some ⟨w.heap.size + 1, (if d then 1 else 0), none⟩) ∧ s15 = .int .i64 k ∧ k ≤ n ∧ v.length + l.length ≤ k ∧ Hid (rdP (ls.drop (k + 1)) d v l = P9) ∧ Hid (RdS (w.heap.size + 1) w1.heap.size wr d v l) ∧ Hid (OnlyP (fun g => g = w.heap.size + 1) w1 wr)) (fun _ s15 _ => n - (intOf s15).toNat)
    case atStart => exact ⟨0, false, [], [], rfl, rfl, by omega, by simp, HP9, HS1, hide ⟨rfl, rfl, rfl, Nat.le_refl _, fun _ _ _ => rfl⟩⟩
    case round =>
      obtain ⟨k, d, v, l, rfl, rfl, hk, hvl, HO, HS, HP⟩ := hrel
      by_cases hkn : k < n
      · exfalso
        omega
      · obtain rfl : k = n := by omega
        generalize (if d = true then (1 : Nat) else 0) = o5
        have hst := unhide HO
        rw [List.drop_of_length_le (by rw [unhide HLN]; exact Nat.le_refl _), rdP] at hst
        have HRX := hide (unhide HRS v l hst.symm)
        obtain ⟨a1, k1, a2, k2, cb, q1, q2, b1, b2, hap⟩ := (unhide HS).finA
        have HAP := hide hap
        have u0 := cb.c0
        have u1 := cb.c1
        have HCB := hide cb
        have HQ := hide (And.intro q1 q2)
        have HBB := hide (And.intro b1 b2)
        have HRk := hide ((unhide HR1).off9 (unhide HP) (by omega))
        have HCF := hide (show ConfAt wr a1 v.length v a2 l.length l from ⟨⟨q1, rfl, by omega⟩, ⟨q2, rfl, by omega⟩⟩)
        have HOK := hide (impl_ConfOk a1 _ k1 v a2 _ k2 l wr (unhide HCF))
        have HBK := hide ((unhide HB1).trans ((unhide HP).below (B := w.heap.size) (fun g hg => by omega) (by omega)))
        have hzp := (unhide HP).size
        clear hst cb q1 q2 b1 b2 HO HS hap
        go_wp2_with fail
        refine (unhide HOK).mono ?_
        rintro e w2 ⟨rfl, hb2⟩
        have HCF2 := hide ((unhide HCF).below hb2)
        have R2 := (unhide HRk).below hb2 (unhide HRk).lt
        have C2 := (unhide HCB).below hb2 (unhide HCB).lt
        have HR2 := hide R2
        have HC2 := hide C2
        have HQ2 := hide (And.intro ((unhide HQ).1.below hb2) ((unhide HQ).2.below hb2))
        have HB2 := hide (belOn (unhide HBK) hb2)
        have hz2 := hb2.size
        have t0 := C2.c0
        have t1 := C2.c1
        clear u0 u1 R2 C2 hb2
        cases hcb : confB v l with
        | false =>
          have HX := hide (show RR = ([], [], false) from by rw [unhide HRX, if_neg (fun q => by rw [hcb] at q; cases q.1)])
          have x0 := (unhide HR2).c0
          have x1 := (unhide HR2).c1
          have y0 := (unhide HR2).f0
          have y1 := (unhide HR2).f1
          clear hcb
          go_wp2_with fail
          refine bodyPost_ret (v := .tuple #[.agg #[.slice none 0 0, .slice none 0 0], .bool false]) (by simp [results, Tryz.results24, go_sem, x0, x1]) rfl ?_
          rw [unhide HX]
          exact RcPa.zero (((unhide HB2).setCell (show w.heap.size ≤ w.heap.size from Nat.le_refl _) _).setCell (show w.heap.size ≤ w.heap.size from Nat.le_refl _) _)
        | true =>
          have HTX := hide (impl_ConfText a1 _ k1 v a2 _ k2 l w2 (unhide HCF2))
          go_wp2_with fail
          refine (unhide HTX).mono ?_
          rintro e w3 ⟨rfl, hb3⟩
          have R3 := (unhide HR2).below hb3 (unhide HR2).lt
          have C3 := (unhide HC2).below hb3 (unhide HC2).lt
          have x0 := R3.c0
          have x1 := R3.c1
          have y0 := R3.f0
          have y1 := R3.f1
          have s0 := C3.c0
          have s1 := C3.c1
          have HQ3 := hide (And.intro ((unhide HQ2).1.below hb3) ((unhide HQ2).2.below hb3))
          have HB3 := hide (belOn (unhide HB2) hb3)
          have hz3 := hb3.size
          clear R3 C3 hb3 t0 t1 HTX
          by_cases hE : confL v l = s.data.toList
          · have e := (str_eq _ s).2 hE
            rw [e]
            have HX := hide (show RR = (v, l, true) from by rw [unhide HRX, if_pos ⟨hcb, hE⟩])
            clear e hE hcb
            go_wp2_with fail
            refine bodyPost_ret (v := .tuple #[.agg #[.slice a1 v.length k1, .slice a2 l.length k2], .bool true]) (by simp [results, Tryz.results24, go_sem, x0, x1]) rfl ?_
            rw [unhide HX]
            have b1 := (unhide HBB).1
            have b2 := (unhide HBB).2
            exact ⟨a1, k1, a2, k2, rfl, ⟨(unhide HQ3).1.set2 (fun g hg => by have := b1 g hg; omega), (unhide HQ3).2.set2 (fun g hg => by have := b2 g hg; omega), fun g hg => by have := b1 g hg; simp; omega, fun g hg => by have := b2 g hg; simp; omega, ((unhide HB3).setCell (Nat.le_refl _) _).setCell (Nat.le_refl _) _⟩, unhide HAP⟩
          · have hne : ((strL (confL v l)).toList == s.toList) = false := by rw [beq_eq_false_iff_ne, ByteArray.toList_eq, ByteArray.toList_eq]; exact hE
            have HX := hide (show RR = ([], [], false) from by rw [unhide HRX, if_neg (fun q => hE q.2)])
            clear hE hcb
            generalize strL (confL v l) = T at hne
            go_wp2_with fail
            refine bodyPost_ret (v := .tuple #[.agg #[.slice none 0 0, .slice none 0 0], .bool false]) (by simp [results, Tryz.results24, go_sem, x0, x1]) rfl ?_
            rw [unhide HX]
            exact RcPa.zero (((unhide HB3).setCell (show w.heap.size ≤ w.heap.size from Nat.le_refl _) _).setCell (show w.heap.size ≤ w.heap.size from Nat.le_refl _) _)
  · go_loopw [5, 15] (fun s5 s15 wr => ∃ (k : Nat) (d : Bool) (v l : List Int), s5 = .pointer (some ⟨w.heap.size + 1, (if d then 1 else 0), none⟩) ∧ s15 = .int .i64 k ∧ k ≤ n ∧ v.length + l.length ≤ k ∧ Hid (rdP (ls.drop (k + 1)) d v l = P9) ∧ Hid (RdS (w.heap.size + 1) w1.heap.size wr d v l) ∧ Hid (OnlyP (fun g => g = w.heap.size + 1) w1 wr)) (fun _ s15 _ => n - (intOf s15).toNat)
    case atStart => exact ⟨0, false, [], [], rfl, rfl, by omega, by simp, HP9, HS1, hide ⟨rfl, rfl, rfl, Nat.le_refl _, fun _ _ _ => rfl⟩⟩
    case round =>
      obtain ⟨k, d, v, l, rfl, rfl, hk, hvl, HO, HS, HP⟩ := hrel
      by_cases hkn : k < n
      · have hkl : k + 1 < ls.length := by rw [unhide HLN]; omega
        have hst := unhide HO
        rw [drop_words ls k hkl, rdP] at hst
        have pg := unhide HCL (k + 1) hkl
        have hxs := unhide HSZ ls[k + 1] (List.getElem_mem hkl)
        have hne : W0.heap.size ≠ w.heap.size + 1 := by have := unhide HS0; omega
        have hlw : W0.heap.size < w1.heap.size := lt_of_cell pg
        have pg2 : wr.cell? ⟨W0.heap.size, 1 + k, none⟩ = some (.string (toB ls[k + 1])) := by
          rw [Nat.add_comm 1 k]
          exact (World.cell?_of_block (a := ⟨W0.heap.size, k + 1, none⟩) ((unhide HP).block W0.heap.size hlw hne)).trans pg
        generalize ls[k + 1] = y at hst pg2 hxs
        clear pg HO hlw hne
        have HBW := hide ((unhide HB1).trans ((unhide HP).below (B := w.heap.size) (fun g hg => by omega) (by omega)))
        have hys : (toB y).size ≤ 10000000 := by have e : (toB y).size = y.length := (len_data (toB y)).symm; omega
        have i0 : (0 : Int) ≤ (k : Int) := by omega
        have i1 : (k : Int) < (n : Int) := by omega
        by_cases hy : y = [108]
        · subst hy
          rw [if_pos rfl] at hst
          have HO2 := hide hst
          have HS2 : Hid (RdS (w.heap.size + 1) w1.heap.size wr true v l) := by
            have h9 := unhide HS
            cases d with
            | true => exact hide h9
            | false =>
              cases h9 with
              | v cb ho hC hB => exact hide (RdS.turn (.v cb ho hC hB))
          have hq : toB [108] = ⟨#[108]⟩ := rfl
          rw [hq] at pg2
          clear hst HS
          cases d <;> (
            go_wp2_with fail
            go_roundw
            case rel => exact ⟨k + 1, true, v, l, rfl, by go_num, by omega, by omega, HO2, HS2, HP⟩
            case measure => simp [intOf]; omega)
        · rw [if_neg hy] at hst
          have hne : ((toB y).toList == [108]) = false := by rw [beq_eq_false_iff_ne, ByteArray.toList_eq]; exact hy
          have HPC := hide (parse_calls (toB y) wr hys (unhide HV _ (unhide HBW)))
          rw [show (toB y).data.toList = y from rfl] at HPC
          have HST := hide hst
          clear hst hy
          generalize toB y = x at pg2 hne HPC
          cases d with
          | false =>
            go_wp2_with fail
            refine (unhide HPC).mono ?_
            rintro e w5 ⟨hb5, hcase⟩
            have HS5 := hide ((unhide HS).keep hb5)
            have HP5 := hide (OnlyP.on (unhide HP) hb5 (unhide HP).size)
            have HB5 := hide (belOn (unhide HBW) hb5)
            have HR5 := hide (((unhide HR1).off9 (unhide HP) (by omega)).below hb5 (by have := ((unhide HR1).off9 (unhide HP) (by omega)).lt; omega))
            clear hb5 pg2
            rcases hcase with ⟨N, hok, rfl⟩ | ⟨hno, x9, te, pe, rfl⟩
            · rw [prsI_ok hok] at HST
              have HO2 : Hid (rdP (ls.drop (k + 1 + 1)) false (v ++ [N]) l = P9) := hide ((show (if false = true then rdP (ls.drop (k + 1 + 1)) false v (l ++ [N]) else rdP (ls.drop (k + 1 + 1)) false (v ++ [N]) l) = P9 from unhide HST))
              clear hok HST HPC
              obtain ⟨hl0, sv, cb, ho, hC, hB⟩ : l = [] ∧ ∃ sv, CB (w.heap.size + 1) sv (.slice none 0 0) w5 ∧ OwnR i64E w5 w1.heap.size sv v ∧ w.heap.size + 1 < w1.heap.size ∧ w1.heap.size ≤ w5.heap.size := by
                have h9 := unhide HS5
                cases h9 with
                | v cb ho hC hB => exact ⟨rfl, _, cb, ho, hC, hB⟩
              subst hl0
              obtain ⟨a1, k1, rfl⟩ := ho.form
              have HO1 := hide ho
              have HCB := hide cb
              have u0 := cb.c0
              have u1 := cb.c1
              have hlen : v.length < 100000000 := by omega
              clear ho cb HS5 HS
              go_wp2_with (at_builtin; go_must (refine appR (e := i64E) rfl _ _ rfl (unhide HO1) rfl N rfl _ rfl rfl hlen hB ?_); intro v' w6 hown6 hb6 hg6; obtain ⟨a3, c3, hv'⟩ := hown6.form; subst hv'; rw [List.length_append, List.length_singleton] at hown6; have c6 := (unhide HCB).below hb6 hC; have j0 := c6.c0; have j1 := c6.c1; have f0 := c6.f0; have f1 := c6.f1)
              go_roundw
              case rel => exact ⟨k + 1, false, v ++ [N], [], rfl, by go_num, by omega, by simp at hvl ⊢; omega, HO2, hide (.v (c6.set0 _) (Plain.OwnR.setC hown6 hC) hC (by have := hb6.size; simp; omega)), hide ((OnlyP.on (unhide HP5) hb6 (Nat.le_refl _)).setC)⟩
              case measure => simp [intOf]; omega
            · rw [prsI_no hno] at HST
              have HX := hide (unhide HRN (show P9 = none from (unhide HST).symm))
              have x0 := (unhide HR5).c0
              have x1 := (unhide HR5).c1
              have y0 := (unhide HR5).f0
              have y1 := (unhide HR5).f1
              clear hno HST HPC
              go_wp2_with fail
              refine bodyPost_ret (v := .tuple #[.agg #[.slice none 0 0, .slice none 0 0], .bool false]) (by simp [results, Tryz.results24, go_sem, x0, x1]) rfl ?_
              rw [unhide HX]
              exact RcPa.zero (((unhide HB5).setCell (show w.heap.size ≤ w.heap.size from Nat.le_refl _) _).setCell (show w.heap.size ≤ w.heap.size from Nat.le_refl _) _)
          | true =>
            go_wp2_with fail
            refine (unhide HPC).mono ?_
            rintro e w5 ⟨hb5, hcase⟩
            have HS5 := hide ((unhide HS).keep hb5)
            have HP5 := hide (OnlyP.on (unhide HP) hb5 (unhide HP).size)
            have HB5 := hide (belOn (unhide HBW) hb5)
            have HR5 := hide (((unhide HR1).off9 (unhide HP) (by omega)).below hb5 (by have := ((unhide HR1).off9 (unhide HP) (by omega)).lt; omega))
            clear hb5 pg2
            rcases hcase with ⟨N, hok, rfl⟩ | ⟨hno, x9, te, pe, rfl⟩
            · rw [prsI_ok hok] at HST
              have HO2 : Hid (rdP (ls.drop (k + 1 + 1)) true v (l ++ [N]) = P9) := hide ((show (if true = true then rdP (ls.drop (k + 1 + 1)) true v (l ++ [N]) else rdP (ls.drop (k + 1 + 1)) true (v ++ [N]) l) = P9 from unhide HST))
              clear hok HST HPC
              obtain ⟨a1, k1, B2, sl, cb, hr, hbl, ho, hC, hB, hB2⟩ : ∃ a1 k1 B2 sl, CB (w.heap.size + 1) (.slice a1 v.length k1) sl w5 ∧ RowAt i64E w5 a1 v ∧ (∀ g, inB a1 g → w1.heap.size ≤ g ∧ g < B2) ∧ OwnR i64E w5 B2 sl l ∧ w.heap.size + 1 < w1.heap.size ∧ w1.heap.size ≤ B2 ∧ B2 ≤ w5.heap.size := by
                have h9 := unhide HS5
                cases h9 with
                | l cb hr hl ho hC hB hB2 => exact ⟨_, _, _, _, cb, hr, hl, ho, hC, hB, hB2⟩
              obtain ⟨a2, k2, rfl⟩ := ho.form
              have HO1 := hide ho
              have HCB := hide cb
              have HRV := hide hr
              have HBL := hide hbl
              have u0 := cb.c0
              have u1 := cb.c1
              have hlen : l.length < 100000000 := by omega
              clear ho cb HS5 HS hr hbl
              go_wp2_with (at_builtin; go_must (refine appR (e := i64E) rfl _ _ rfl (unhide HO1) rfl N rfl _ rfl rfl hlen hB2 ?_); intro v' w6 hown6 hb6 hg6; obtain ⟨a3, c3, hv'⟩ := hown6.form; subst hv'; rw [List.length_append, List.length_singleton] at hown6; have c6 := (unhide HCB).below hb6 (Nat.lt_of_lt_of_le hC hB); have j0 := c6.c0; have j1 := c6.c1; have f0 := c6.f0; have f1 := c6.f1)
              go_roundw
              case rel => exact ⟨k + 1, true, v, l ++ [N], rfl, by go_num, by omega, by simp; omega, HO2, hide (.l (c6.set1 _) (rowSet (RowAt.bel (unhide HRV) hb6 (fun g hg => (unhide HBL g hg).2)) (fun g hg => by have := (unhide HBL g hg).1; omega)) (unhide HBL) (Plain.OwnR.setC hown6 (Nat.lt_of_lt_of_le hC hB)) hC hB (by have := hb6.size; simp; omega)), hide ((OnlyP.on (unhide HP5) hb6 hB).setC)⟩
              case measure => simp [intOf]; omega
            · rw [prsI_no hno] at HST
              have HX := hide (unhide HRN (show P9 = none from (unhide HST).symm))
              have x0 := (unhide HR5).c0
              have x1 := (unhide HR5).c1
              have y0 := (unhide HR5).f0
              have y1 := (unhide HR5).f1
              clear hno HST HPC
              go_wp2_with fail
              refine bodyPost_ret (v := .tuple #[.agg #[.slice none 0 0, .slice none 0 0], .bool false]) (by simp [results, Tryz.results24, go_sem, x0, x1]) rfl ?_
              rw [unhide HX]
              exact RcPa.zero (((unhide HB5).setCell (show w.heap.size ≤ w.heap.size from Nat.le_refl _) _).setCell (show w.heap.size ≤ w.heap.size from Nat.le_refl _) _)
      · obtain rfl : k = n := by omega
        generalize (if d = true then (1 : Nat) else 0) = o5
        have hst := unhide HO
        rw [List.drop_of_length_le (by rw [unhide HLN]; exact Nat.le_refl _), rdP] at hst
        have HRX := hide (unhide HRS v l hst.symm)
        obtain ⟨a1, k1, a2, k2, cb, q1, q2, b1, b2, hap⟩ := (unhide HS).finA
        have HAP := hide hap
        have u0 := cb.c0
        have u1 := cb.c1
        have HCB := hide cb
        have HQ := hide (And.intro q1 q2)
        have HBB := hide (And.intro b1 b2)
        have HRk := hide ((unhide HR1).off9 (unhide HP) (by omega))
        have HCF := hide (show ConfAt wr a1 v.length v a2 l.length l from ⟨⟨q1, rfl, by omega⟩, ⟨q2, rfl, by omega⟩⟩)
        have HOK := hide (impl_ConfOk a1 _ k1 v a2 _ k2 l wr (unhide HCF))
        have HBK := hide ((unhide HB1).trans ((unhide HP).below (B := w.heap.size) (fun g hg => by omega) (by omega)))
        have hzp := (unhide HP).size
        clear hst cb q1 q2 b1 b2 HO HS hap
        go_wp2_with fail
        refine (unhide HOK).mono ?_
        rintro e w2 ⟨rfl, hb2⟩
        have HCF2 := hide ((unhide HCF).below hb2)
        have R2 := (unhide HRk).below hb2 (unhide HRk).lt
        have C2 := (unhide HCB).below hb2 (unhide HCB).lt
        have HR2 := hide R2
        have HC2 := hide C2
        have HQ2 := hide (And.intro ((unhide HQ).1.below hb2) ((unhide HQ).2.below hb2))
        have HB2 := hide (belOn (unhide HBK) hb2)
        have hz2 := hb2.size
        have t0 := C2.c0
        have t1 := C2.c1
        clear u0 u1 R2 C2 hb2
        cases hcb : confB v l with
        | false =>
          have HX := hide (show RR = ([], [], false) from by rw [unhide HRX, if_neg (fun q => by rw [hcb] at q; cases q.1)])
          have x0 := (unhide HR2).c0
          have x1 := (unhide HR2).c1
          have y0 := (unhide HR2).f0
          have y1 := (unhide HR2).f1
          clear hcb
          go_wp2_with fail
          refine bodyPost_ret (v := .tuple #[.agg #[.slice none 0 0, .slice none 0 0], .bool false]) (by simp [results, Tryz.results24, go_sem, x0, x1]) rfl ?_
          rw [unhide HX]
          exact RcPa.zero (((unhide HB2).setCell (show w.heap.size ≤ w.heap.size from Nat.le_refl _) _).setCell (show w.heap.size ≤ w.heap.size from Nat.le_refl _) _)
        | true =>
          have HTX := hide (impl_ConfText a1 _ k1 v a2 _ k2 l w2 (unhide HCF2))
          go_wp2_with fail
          refine (unhide HTX).mono ?_
          rintro e w3 ⟨rfl, hb3⟩
          have R3 := (unhide HR2).below hb3 (unhide HR2).lt
          have C3 := (unhide HC2).below hb3 (unhide HC2).lt
          have x0 := R3.c0
          have x1 := R3.c1
          have y0 := R3.f0
          have y1 := R3.f1
          have s0 := C3.c0
          have s1 := C3.c1
          have HQ3 := hide (And.intro ((unhide HQ2).1.below hb3) ((unhide HQ2).2.below hb3))
          have HB3 := hide (belOn (unhide HB2) hb3)
          have hz3 := hb3.size
          clear R3 C3 hb3 t0 t1 HTX
          by_cases hE : confL v l = s.data.toList
          · have e := (str_eq _ s).2 hE
            rw [e]
            have HX := hide (show RR = (v, l, true) from by rw [unhide HRX, if_pos ⟨hcb, hE⟩])
            clear e hE hcb
            go_wp2_with fail
            refine bodyPost_ret (v := .tuple #[.agg #[.slice a1 v.length k1, .slice a2 l.length k2], .bool true]) (by simp [results, Tryz.results24, go_sem, x0, x1]) rfl ?_
            rw [unhide HX]
            have b1 := (unhide HBB).1
            have b2 := (unhide HBB).2
            exact ⟨a1, k1, a2, k2, rfl, ⟨(unhide HQ3).1.set2 (fun g hg => by have := b1 g hg; omega), (unhide HQ3).2.set2 (fun g hg => by have := b2 g hg; omega), fun g hg => by have := b1 g hg; simp; omega, fun g hg => by have := b2 g hg; simp; omega, ((unhide HB3).setCell (Nat.le_refl _) _).setCell (Nat.le_refl _) _⟩, unhide HAP⟩
          · have hne : ((strL (confL v l)).toList == s.toList) = false := by rw [beq_eq_false_iff_ne, ByteArray.toList_eq, ByteArray.toList_eq]; exact hE
            have HX := hide (show RR = ([], [], false) from by rw [unhide HRX, if_neg (fun q => hE q.2)])
            clear hE hcb
            generalize strL (confL v l) = T at hne
            go_wp2_with fail
            refine bodyPost_ret (v := .tuple #[.agg #[.slice none 0 0, .slice none 0 0], .bool false]) (by simp [results, Tryz.results24, go_sem, x0, x1]) rfl ?_
            rw [unhide HX]
            exact RcPa.zero (((unhide HB3).setCell (show w.heap.size ≤ w.heap.size from Nat.le_refl _) _).setCell (show w.heap.size ≤ w.heap.size from Nat.le_refl _) _)
end Go.Proofs.YtjiclgcohpkkjaaGreatDoor
