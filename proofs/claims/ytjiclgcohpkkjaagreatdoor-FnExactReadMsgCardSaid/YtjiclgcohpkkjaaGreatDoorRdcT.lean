/- Members read out of texts, by the specification. -/
import Derived.Test.YtjiclgcohpkkjaaGreatDoorGzAS
import Derived.Test.YtjiclgcohpkkjaaGreatDoorGzAT
import Derived.Test.YtjiclgcohpkkjaaGreatDoorGzAF
import Derived.Test.YtjiclgcohpkkjaaGreatDoorGzAL
import Derived.Test.YtjiclgcohpkkjaaGreatDoorGzAE
namespace Go.Proofs.YtjiclgcohpkkjaaGreatDoor
open Go.RowKit Plain
set_option linter.unusedVariables false

namespace Plain
/-- The lists while they are read: voters alone, or learners too. -/
inductive RdS (C B : Nat) (W : World) : Bool → List Int → List Int → Prop
  | v {v : List Int} {s : Value} (cb : CB C s (.slice none 0 0) W) (ho : OwnR i64E W B s v) (hC : C < B) (hB : B ≤ W.heap.size) : RdS C B W false v []
  | l {v l : List Int} {a : Option Addr} {k B2 : Nat} {s : Value} (cb : CB C (.slice a v.length k) s W) (hr : RowAt i64E W a v) (hl : ∀ g, inB a g → B ≤ g ∧ g < B2) (ho : OwnR i64E W B2 s l) (hC : C < B) (hB : B ≤ B2) (hB2 : B2 ≤ W.heap.size) : RdS C B W true v l
theorem OwnR.setC {W : World} {B C i : Nat} {s u : Value} {xs : List Int} (h : OwnR i64E W B s xs) (hC : C < B) : OwnR i64E (W.setCell ⟨C, i, none⟩ u) B s xs :=
  h.oth (fun g hg => heap_setI (by have := (World.ownsRow.lt h g hg).1; omega))
theorem RdS.turn {C B : Nat} {W : World} {v : List Int} (h : RdS C B W false v []) : RdS C B W true v [] := by
  cases h with
  | v cb ho hC hB =>
    obtain ⟨a, k, rfl⟩ := ho.form
    exact .l cb ho.at (fun g hg => ho.bl g hg) (ownR_nil _ _ _) hC hB (Nat.le_refl _)
theorem RdS.fin {C B : Nat} {W : World} {d : Bool} {v l : List Int} (h : RdS C B W d v l) : ∃ a1 k1 a2 k2, CB C (.slice a1 v.length k1) (.slice a2 l.length k2) W ∧ RowAt i64E W a1 v ∧ RowAt i64E W a2 l ∧ (∀ g, inB a1 g → B ≤ g ∧ g < W.heap.size) ∧ (∀ g, inB a2 g → B ≤ g ∧ g < W.heap.size) := by
  cases h with
  | v cb ho hC hB =>
    obtain ⟨a, k, rfl⟩ := ho.form
    exact ⟨a, k, none, 0, cb, ho.at, fun i hi => by simp at hi, fun g hg => ho.bl g hg, fun g hg => (inB_none hg).elim⟩
  | l cb hr hl ho hC hB hB2 =>
    obtain ⟨a2, k2, rfl⟩ := ho.form
    exact ⟨_, _, a2, k2, cb, hr, ho.at, fun g hg => by have := hl g hg; omega, fun g hg => by have := ho.bl g hg; omega⟩
theorem RowAt.bel {W W' : World} {B : Nat} {a : Option Addr} {xs : List Int} (h : RowAt i64E W a xs) (hb : Below B W W') (hl : ∀ g, inB a g → g < B) : RowAt i64E W' a xs := fun i hi => by
  obtain ⟨g, e1, hlt, h1⟩ := h i hi
  have hg := hl g ⟨0, e1⟩
  exact ⟨g, e1, Nat.lt_of_lt_of_le hlt hb.size, fun j hj => ⟨(hb.cell (p := ⟨g, i * i64E.n + j, none⟩) hg).trans (h1 j hj).1, (hb.frozen (p := ⟨g, i * i64E.n + j, none⟩) hg).trans (h1 j hj).2⟩⟩
theorem OnlyP.on {p : Nat → Prop} {u v w : World} {B : Nat} (h : OnlyP p u v) (hb : Below B v w) (hB : u.heap.size ≤ B) : OnlyP p u w :=
  ⟨hb.os.trans h.os, hb.tape.trans h.tape, hb.output.trans h.output, Nat.le_trans h.size hb.size, fun k hk hn => (hb.block k (Nat.lt_of_lt_of_le hk hB)).trans (h.block k hk hn)⟩
theorem OnlyP.setC {C i : Nat} {x : Value} {u v : World} (h : OnlyP (fun g => g = C) u v) : OnlyP (fun g => g = C) u (v.setCell ⟨C, i, none⟩ x) :=
  ⟨h.os, h.tape, h.output, by simpa using h.size, fun k hk hn => (heap_setI (fun e => hn e.symm)).trans (h.block k hk hn)⟩
theorem CB.off9 {p : Nat → Prop} {M : Nat} {v l : Value} {w w' : World} (h : CB M v l w) (ho : OnlyP p w w') (hn : ¬ p M) : CB M v l w' := (ho.block M h.lt hn).trans h
theorem splt_small (m : Nat) (l : List UInt8) : ∀ x ∈ splt m l, x.length ≤ l.length := by
  induction l with
  | nil => intro x hx; simp [splt] at hx; subst hx; simp
  | cons c l ih =>
    obtain ⟨h, r, e⟩ := splt_ne m l
    rw [e] at ih
    rw [splt, e]
    intro x hx
    split at hx
    · rcases List.mem_cons.1 hx with rfl | hx
      · simp
      · have := ih x hx; simp; omega
    · rcases List.mem_cons.1 hx with rfl | hx
      · have := ih h (by simp); simp; omega
      · have := ih x (by simp [hx]); simp; omega
theorem str_eq (l : List UInt8) (s : ByteArray) : strL l = s ↔ l = s.data.toList := by
  constructor
  · rintro rfl; rfl
  · rintro rfl; rfl
/-- What ReadConf of the specification leaves. -/
def RcPost (R : List Int × List Int × Bool) (w : World) (e : Ending) (w' : World) : Prop := ∃ a1 c1 a2 c2, e = .returned (.tuple #[.agg #[.slice a1 R.1.length c1, .slice a2 R.2.1.length c2], .bool R.2.2]) ∧ CcPost R.1 R.2.1 w a1 c1 a2 c2 w'
theorem RcPost.zero {w W : World} (hb : Below w.heap.size w W) : RcPost ([], [], false) w (.returned (.tuple #[.agg #[.slice none 0 0, .slice none 0 0], .bool false])) W :=
  ⟨none, 0, none, 0, rfl, fun i hi => by simp at hi, fun i hi => by simp at hi, fun g hg => (inB_none hg).elim, fun g hg => (inB_none hg).elim, hb⟩
end Plain

set_option maxRecDepth 10000 in
set_option maxHeartbeats 4000000 in
theorem spec_ReadConf (s : ByteArray) (w : World) (hs : s.size ≤ 1048576) : Calls Tryz.prog 18 #[.string s] w (RcPost (rdC numF s.data.toList) w) := by
  obtain ⟨W0, hW0⟩ : ∃ W0, W0 = (w.alloc (.cells #[.slice none 0 0, .slice none 0 0] 25)).alloc (.cells #[.slice none 0 0, .slice none 0 0] 25) := ⟨_, rfl⟩
  have hb0 : Below w.heap.size w W0 := by rw [hW0]; exact belOn (bel1 _ _) (bel1 _ _)
  have hs0 : W0.heap.size = w.heap.size + 2 := by rw [hW0]; simp
  have R0 : CB w.heap.size (.slice none 0 0) (.slice none 0 0) W0 := by rw [hW0]; exact (CB.new w _ _).below (bel1 _ _) (by simp)
  have C0 : CB (w.heap.size + 1) (.slice none 0 0) (.slice none 0 0) W0 := by rw [hW0, show w.heap.size + 1 = (w.alloc (.cells #[.slice none 0 0, .slice none 0 0] 25)).heap.size from by simp]; exact CB.new _ _ _
  obtain ⟨RR, hRR⟩ : ∃ RR, rdC numF s.data.toList = RR := ⟨_, rfl⟩
  rw [hRR]
  have HRR := hide hRR
  have HW0 := hide hW0.symm
  have HB0 := hide hb0
  have HS0 := hide hs0
  by_cases h200 : 200 < s.size
  · have HX := hide (show RR = ([], [], false) from by
      rw [← hRR]
      unfold rdC
      rw [if_neg]
      rintro ⟨q, -⟩
      have h1 := confL_len (rdW numF ((splt 32 s.data.toList).drop 1) false [] []).1 (rdW numF ((splt 32 s.data.toList).drop 1) false [] []).2
      rw [q, len_data] at h1
      omega)
    rw [unhide HX]
    have x0 := R0.c0
    have x1 := R0.c1
    have y0 := R0.f0
    have y1 := R0.f1
    have u0 := C0.c0
    have u1 := C0.c1
    rw [hW0] at x0 x1 y0 y1 u0 u1
    clear hb0 hs0 R0 C0 hRR hW0
    go_enter Tryz.func18, Tryz.ntmps18
    go_wp2_with fail
    refine bodyPost_ret (v := .tuple #[.agg #[.slice none 0 0, .slice none 0 0], .bool false]) (by simp [results, Tryz.results18, go_sem, x0, x1]) rfl ?_
    rw [unhide HW0]
    exact RcPost.zero (unhide HB0)
  have HC := hide (l3Cut_calls s 32 W0 (by omega) (by decide))
  have HR0 := hide R0
  have HC0 := hide C0
  clear hb0 hs0 R0 C0 hRR hW0
  go_enter Tryz.func18, Tryz.ntmps18
  go_wp2_with fail
  rw [unhide HW0]
  refine (unhide HC).mono ?_
  rintro e w1 ⟨vw, rfl, hown, hb1⟩
  obtain ⟨aw, cw, hv⟩ := hown.form
  subst hv
  obtain ⟨ls, hls⟩ : ∃ ls, splt 32 s.data.toList = ls := ⟨_, rfl⟩
  have hcut : cutB 32 s = ls.map toB := by unfold cutB; rw [hls]
  rw [hcut] at hown
  rw [hcut, List.length_map]
  rw [List.length_map] at hown
  have hn1 : ls.length ≤ 201 := by have := splt_len 32 s.data.toList; rw [hls, len_data] at this; omega
  have hn0 : 1 ≤ ls.length := by obtain ⟨a, b, q⟩ := splt_ne 32 s.data.toList; rw [hls] at q; rw [q]; simp
  obtain ⟨n, hn⟩ : ∃ n, ls.length = n := ⟨_, rfl⟩
  rw [hn] at hown hn1 hn0 ⊢
  obtain ⟨v9, l9, hF⟩ : ∃ v9 l9, rdW numF (ls.drop 1) false [] [] = (v9, l9) := ⟨_, _, rfl⟩
  have HF := hide hF
  have HRX := hide (show RR = if confL v9 l9 = s.data.toList ∧ s.data.toList ≠ [] then (v9, l9, true) else ([], [], false) from by rw [← unhide HRR]; unfold rdC; rw [hls, hF])
  have HLN := hide hn
  have HWS := hide hown.at
  have HWB := hide (show ∀ g, inB aw g → W0.heap.size ≤ g from fun g hg => (hown.bl g hg).1)
  have HR1 := hide ((unhide HR0).below hb1 (unhide HR0).lt)
  have HS1 := hide (RdS.v (B := w1.heap.size) ((unhide HC0).below hb1 (unhide HC0).lt) (ownR_nil _ _ _) (Nat.lt_of_lt_of_le (unhide HC0).lt hb1.size) (Nat.le_refl _))
  have HB1 := hide (belOn (unhide HB0) hb1)
  have hz1 : w.heap.size + 2 ≤ w1.heap.size := by have := hb1.size; have := unhide HS0; omega
  have HSZ := hide (show ∀ x ∈ ls, x.length ≤ 200 from fun x hx => by
    rw [← hls] at hx
    have := splt_small 32 s.data.toList x hx
    rw [len_data] at this
    omega)
  clear hown hb1 hF hn HR0 HC0 HC HB0 hcut hls HRR
  go_wp2_with fail
  go_loopw [6, 7] (fun s6 s7 wr => ∃ (k : Nat) (d : Bool) (v l : List Int), s6 = .bool d ∧ s7 = .int .i64 k ∧ 1 ≤ k ∧ k ≤ n ∧ v.length + l.length ≤ k ∧ Hid (rdW numF (ls.drop k) d v l = (v9, l9)) ∧ Hid (RdS (w.heap.size + 1) w1.heap.size wr d v l) ∧ Hid (OnlyP (fun g => g = w.heap.size + 1) w1 wr)) (fun _ s7 _ => n - (intOf s7).toNat)
  case atStart => exact ⟨1, false, [], [], rfl, rfl, by omega, by omega, by simp, HF, HS1, hide ⟨rfl, rfl, rfl, Nat.le_refl _, fun _ _ _ => rfl⟩⟩
  case round =>
    obtain ⟨k, d, v, l, rfl, rfl, hk1, hk, hvl, HO, HS, HP⟩ := hrel
    by_cases hkn : k < n
    · have hkl : k < ls.length := by rw [unhide HLN]; exact hkn
      have hst := unhide HO
      rw [List.drop_eq_getElem_cons hkl, rdW] at hst
      have hWR : RowAt strE wr aw (ls.map toB) := (unhide HWS).offP (unhide HP) (fun g hg q => by have := unhide HWB g hg; have := unhide HS0; omega)
      obtain ⟨g, o, eg, lg, pg⟩ := hWR.strs k (by rw [List.length_map]; exact hkl)
      rw [List.getElem_map] at pg
      have hxs := unhide HSZ ls[k] (List.getElem_mem hkl)
      generalize ls[k] = y at hst pg hxs
      subst eg
      have i0 : (0 : Int) ≤ (k : Int) := by omega
      have i1 : (k : Int) < (n : Int) := by omega
      have hNm := hide (fun W => l1Number_calls (toB y) W (by show (toB y).size ≤ 10000000; have e : (toB y).size = y.length := (len_data (toB y)).symm; omega))
      clear hWR HO
      cases d with
      | false =>
        by_cases hy : y = [108]
        · subst hy
          rw [if_pos ⟨rfl, rfl⟩] at hst
          have HO2 := hide hst
          have HS2 : Hid (RdS (w.heap.size + 1) w1.heap.size wr true v l) := by
            have h9 := unhide HS
            cases h9 with
            | v cb ho hC hB => exact hide (RdS.turn (.v cb ho hC hB))
          have hq : toB [108] = ⟨#[108]⟩ := rfl
          rw [hq] at pg
          clear hst HS hNm
          go_wp2_with fail
          go_roundw
          case rel => exact ⟨k + 1, true, v, l, rfl, by go_num, by omega, by omega, by omega, HO2, HS2, HP⟩
          case measure => simp [intOf]; omega
        · rw [if_neg (fun q => hy q.1), if_neg (by decide)] at hst
          have HO2 := hide hst
          have hne : ((toB y).toList == [108]) = false := by rw [beq_eq_false_iff_ne, ByteArray.toList_eq]; exact hy
          have hNm2 : Hid (∀ W, Calls Tryz.prog 56 #[.string (toB y), .int .i64 50] W fun e w' => e = .returned (.int .i64 (numF y)) ∧ W = w') := hide (unhide hNm)
          generalize toB y = x at pg hne hNm2
          generalize numF y = N at HO2 hNm2
          clear hst hNm hy
          obtain ⟨hl0, sv, cb, ho, hC, hB⟩ : l = [] ∧ ∃ sv, CB (w.heap.size + 1) sv (.slice none 0 0) wr ∧ OwnR i64E wr w1.heap.size sv v ∧ w.heap.size + 1 < w1.heap.size ∧ w1.heap.size ≤ wr.heap.size := by
            have h9 := unhide HS
            cases h9 with
            | v cb ho hC hB => exact ⟨rfl, _, cb, ho, hC, hB⟩
          subst hl0
          obtain ⟨a1, k1, rfl⟩ := ho.form
          have HO1 := hide ho
          have HCB := hide cb
          have u0 := cb.c0
          have u1 := cb.c1
          have hlen : v.length < 100000000 := by omega
          clear ho cb HS
          go_wp2_with fail
          refine (unhide hNm2 _).mono ?_
          rintro e w5 ⟨rfl, rfl⟩
          go_wp2_with (at_builtin; go_must (refine appR (e := i64E) rfl _ _ rfl (unhide HO1) rfl N rfl _ rfl rfl hlen hB ?_); intro v' w6 hown6 hb6 hg6; obtain ⟨a3, c3, hv'⟩ := hown6.form; subst hv'; rw [List.length_append, List.length_singleton] at hown6; have c6 := (unhide HCB).below hb6 hC; have j0 := c6.c0; have j1 := c6.c1; have f0 := c6.f0; have f1 := c6.f1)
          go_roundw
          case rel => exact ⟨k + 1, false, v ++ [N], [], rfl, by go_num, by omega, by omega, by simp at hvl ⊢; omega, HO2, hide (.v (c6.set0 _) (Plain.OwnR.setC hown6 hC) hC (by have := hb6.size; simp; omega)), hide ((OnlyP.on (unhide HP) hb6 (Nat.le_refl _)).setC)⟩
          case measure => simp [intOf]; omega
      | true =>
        rw [if_neg (by simp), if_pos rfl] at hst
        have HO2 := hide hst
        have hNm2 : Hid (∀ W, Calls Tryz.prog 56 #[.string (toB y), .int .i64 50] W fun e w' => e = .returned (.int .i64 (numF y)) ∧ W = w') := hide (unhide hNm)
        generalize toB y = x at pg hNm2
        generalize numF y = N at HO2 hNm2
        clear hst hNm
        obtain ⟨a1, k1, B2, sl, cb, hr, hbl, ho, hC, hB, hB2⟩ : ∃ a1 k1 B2 sl, CB (w.heap.size + 1) (.slice a1 v.length k1) sl wr ∧ RowAt i64E wr a1 v ∧ (∀ g, inB a1 g → w1.heap.size ≤ g ∧ g < B2) ∧ OwnR i64E wr B2 sl l ∧ w.heap.size + 1 < w1.heap.size ∧ w1.heap.size ≤ B2 ∧ B2 ≤ wr.heap.size := by
          have h9 := unhide HS
          cases h9 with
          | l cb hr hl ho hC hB hB2 => exact ⟨_, _, _, _, cb, hr, hl, ho, hC, hB, hB2⟩
        obtain ⟨a2, k2, rfl⟩ := ho.form
        have HO1 := hide ho
        have HCB := hide cb
        have HRV := hide hr
        have HBL := hide hbl
        have u0 := cb.c0
        have u1 := cb.c1
        have hlen : l.length < 100000000 := by omega
        clear ho cb HS hr hbl
        cases hxl : (x.toList == [108])
        all_goals
          go_wp2_with fail
          refine (unhide hNm2 _).mono ?_
          rintro e w5 ⟨rfl, rfl⟩
          go_wp2_with (at_builtin; go_must (refine appR (e := i64E) rfl _ _ rfl (unhide HO1) rfl N rfl _ rfl rfl hlen hB2 ?_); intro v' w6 hown6 hb6 hg6; obtain ⟨a3, c3, hv'⟩ := hown6.form; subst hv'; rw [List.length_append, List.length_singleton] at hown6; have c6 := (unhide HCB).below hb6 (Nat.lt_of_lt_of_le hC hB); have j0 := c6.c0; have j1 := c6.c1; have f0 := c6.f0; have f1 := c6.f1)
          go_roundw
          case rel => exact ⟨k + 1, true, v, l ++ [N], rfl, by go_num, by omega, by omega, by simp; omega, HO2, hide (.l (c6.set1 _) (rowSet (RowAt.bel (unhide HRV) hb6 (fun g hg => (unhide HBL g hg).2)) (fun g hg => by have := (unhide HBL g hg).1; omega)) (unhide HBL) (Plain.OwnR.setC hown6 (Nat.lt_of_lt_of_le hC hB)) hC hB (by have := hb6.size; simp; omega)), hide ((OnlyP.on (unhide HP) hb6 hB).setC)⟩
          case measure => simp [intOf]; omega
    · obtain rfl : k = n := by omega
      have hst := unhide HO
      rw [List.drop_of_length_le (by rw [unhide HLN]; exact Nat.le_refl _), rdW] at hst
      obtain ⟨rfl, rfl⟩ : v = v9 ∧ l = l9 := by simpa using hst
      obtain ⟨a1, k1, a2, k2, cb, q1, q2, b1, b2⟩ := (unhide HS).fin
      have u0 := cb.c0
      have u1 := cb.c1
      have HCB := hide cb
      have HQ := hide (And.intro q1 q2)
      have HBB := hide (And.intro b1 b2)
      have HRk := hide ((unhide HR1).off9 (unhide HP) (by omega))
      have HTX := hide (spec_ConfText a1 _ k1 v a2 _ k2 l wr ⟨⟨q1, rfl, by omega⟩, ⟨q2, rfl, by omega⟩⟩)
      clear hst cb q1 q2 b1 b2 HO HS
      go_wp2_with fail
      refine (unhide HTX).mono ?_
      rintro e w2 ⟨rfl, hb2⟩
      have R2 := (unhide HRk).below hb2 (unhide HRk).lt
      have C2 := (unhide HCB).below hb2 (unhide HCB).lt
      have x0 := R2.c0
      have x1 := R2.c1
      have y0 := R2.f0
      have y1 := R2.f1
      have t0 := C2.c0
      have t1 := C2.c1
      have HQ2 := hide (And.intro ((unhide HQ).1.below hb2) ((unhide HQ).2.below hb2))
      have HB2 := hide (belOn ((unhide HB1).trans ((unhide HP).below (B := w.heap.size) (fun g hg => by omega) (by omega))) hb2)
      have hz2 := hb2.size
      clear u0 u1 R2 C2 hb2
      by_cases hE : confL v l = s.data.toList
      · have e := (str_eq _ s).2 hE
        rw [e]
        cases hem : s.toList.isEmpty with
        | true =>
          have HX := hide (show RR = ([], [], false) from by
            rw [unhide HRX, if_neg]
            rintro ⟨-, q⟩
            rw [ByteArray.toList_eq, List.isEmpty_iff] at hem
            exact q hem)
          clear HTX
          go_wp2_with fail
          refine bodyPost_ret (v := .tuple #[.agg #[.slice none 0 0, .slice none 0 0], .bool false]) (by simp [results, Tryz.results18, go_sem, x0, x1]) rfl ?_
          rw [unhide HX]
          exact RcPost.zero (((unhide HB2).setCell (show w.heap.size ≤ w.heap.size from Nat.le_refl _) _).setCell (show w.heap.size ≤ w.heap.size from Nat.le_refl _) _)
        | false =>
          have HX := hide (show RR = (v, l, true) from by
            rw [unhide HRX, if_pos]
            refine ⟨hE, fun q => ?_⟩
            have : s.toList.isEmpty = true := by rw [ByteArray.toList_eq, List.isEmpty_iff]; exact q
            rw [this] at hem
            cases hem)
          clear HTX
          go_wp2_with fail
          refine bodyPost_ret (v := .tuple #[.agg #[.slice a1 v.length k1, .slice a2 l.length k2], .bool true]) (by simp [results, Tryz.results18, go_sem, x0, x1]) rfl ?_
          rw [unhide HX]
          have b1 := (unhide HBB).1
          have b2 := (unhide HBB).2
          have hzp := (unhide HP).size
          exact ⟨a1, k1, a2, k2, rfl, (unhide HQ2).1.set2 (fun g hg => by have := b1 g hg; omega), (unhide HQ2).2.set2 (fun g hg => by have := b2 g hg; omega), fun g hg => by have := b1 g hg; simp; omega, fun g hg => by have := b2 g hg; simp; omega, ((unhide HB2).setCell (Nat.le_refl _) _).setCell (Nat.le_refl _) _⟩
      · have hne : ((strL (confL v l)).toList == s.toList) = false := by rw [beq_eq_false_iff_ne, ByteArray.toList_eq, ByteArray.toList_eq]; exact hE
        have HX := hide (show RR = ([], [], false) from by rw [unhide HRX, if_neg (fun q => hE q.1)])
        clear HTX hE
        generalize strL (confL v l) = T at hne
        go_wp2_with fail
        refine bodyPost_ret (v := .tuple #[.agg #[.slice none 0 0, .slice none 0 0], .bool false]) (by simp [results, Tryz.results18, go_sem, x0, x1]) rfl ?_
        rw [unhide HX]
        exact RcPost.zero (((unhide HB2).setCell (show w.heap.size ≤ w.heap.size from Nat.le_refl _) _).setCell (show w.heap.size ≤ w.heap.size from Nat.le_refl _) _)
end Go.Proofs.YtjiclgcohpkkjaaGreatDoor
