/- Members copied, by the specification. -/
import Derived.Test.YtedbjbndddmlhaaGreatDoorChaS
namespace Go.Proofs.YtedbjbndddmlhaaGreatDoor
open Go.RowKit Plain
set_option linter.unusedVariables false

/-- What l9Copy leaves. -/
def C9Post (v l : List Int) (w : World) (e : Ending) (w' : World) : Prop := ∃ a1 c1 a2 c2, e = .returned (.agg #[.slice a1 v.length c1, .slice a2 l.length c2]) ∧ CcPost v l w a1 c1 a2 c2 w'
/-- The block of the answer may be written. -/
structure Plain.NQ2 (b : Nat) (W : World) : Prop where
  lt : b < W.heap.size
  e0 : ∃ u, W.cell? ⟨b, 0, none⟩ = some u
  e1 : ∃ u, W.cell? ⟨b, 1, none⟩ = some u
  z0 : W.frozen? ⟨b, 0, none⟩ = false
  z1 : W.frozen? ⟨b, 1, none⟩ = false
/-- What holds while members are copied. -/
def Plain.SX2 (n : Nat) (W0 W : World) : Prop := Below (n + 1) W0 W ∧ NQ2 (n + 1) W
theorem Plain.SX2.step {n : Nat} {W0 X X' : World} (h : SX2 n W0 X) (hb : Below X.heap.size X X') (hn : n + 1 ≤ W0.heap.size) : SX2 n W0 X' := by
  obtain ⟨h1, h2⟩ := h
  obtain ⟨u0, q0⟩ := h2.e0
  obtain ⟨u1, q1⟩ := h2.e1
  exact ⟨h1.trans (hb.mono (Nat.le_trans hn h1.size)), Nat.lt_of_lt_of_le h2.lt hb.size, ⟨u0, bcl hb h2.lt q0⟩, ⟨u1, bcl hb h2.lt q1⟩, (hb.frozen (p := ⟨n + 1, 0, none⟩) h2.lt).trans h2.z0, (hb.frozen (p := ⟨n + 1, 1, none⟩) h2.lt).trans h2.z1⟩
theorem Plain.SX2.al {n : Nat} {W0 X : World} {o : Obj} (h : SX2 n W0 X) (hn : n + 1 ≤ W0.heap.size) : SX2 n W0 (X.alloc o) := h.step (bel1 X o) hn
theorem Plain.SX2.ald {n : Nat} {W0 X : World} {o : Obj} (h : SX2 n W0 X.drew) (hn : n + 1 ≤ W0.heap.size) : SX2 n W0 (X.alloc o).drew := h.step (bel1 X.drew o) hn
theorem Plain.cell_setI {W : World} {b i : Nat} {u v : Value} (h : W.cell? ⟨b, i, none⟩ = some v) : (W.setCell ⟨b, i, none⟩ u).cell? ⟨b, i, none⟩ = some u := World.cell?_setCell_same' _ _ _ (by rw [h]; rfl)
theorem Plain.cell_offI {W : World} {b i g j : Nat} {u : Value} (h : b ≠ g ∨ i ≠ j) : (W.setCell ⟨b, i, none⟩ u).cell? ⟨g, j, none⟩ = W.cell? ⟨g, j, none⟩ := World.cell?_setCell_other _ ⟨b, i, none⟩ ⟨g, j, none⟩ _ (fun q => by have h1 := congrArg Addr.block q; have h2 := congrArg Addr.off q; simp at h1 h2; omega)
theorem Plain.SX2.set {n : Nat} {W0 X : World} {v0 v1 : Value} (h : SX2 n W0 X) : SX2 n W0 ((X.setCell ⟨n + 1, 0, none⟩ v0).setCell ⟨n + 1, 1, none⟩ v1) := by
  obtain ⟨h1, h2⟩ := h
  obtain ⟨u0, q0⟩ := h2.e0
  obtain ⟨u1, q1⟩ := h2.e1
  refine ⟨(h1.setCell (Nat.le_refl _) _).setCell (Nat.le_refl _) _, by simpa using h2.lt, ⟨v0, ?_⟩, ⟨v1, ?_⟩, ?_, ?_⟩
  · exact (cell_offI (.inr (by decide))).trans (cell_setI q0)
  · exact cell_setI ((cell_offI (.inr (by decide))).trans q1)
  · rw [World.frozen?_setCell, World.frozen?_setCell]; exact h2.z0
  · rw [World.frozen?_setCell, World.frozen?_setCell]; exact h2.z1
theorem ccRet {w w4 : World} {B rb : Nat} {y1 y2 : Option Addr} {k1 k2 : Nat} {v l : List Int} (h1 : RowAt i64E w4 y1 v) (h2 : RowAt i64E w4 y2 l)
    (m1 : ∀ k, inB y1 k → B ≤ k ∧ k < w4.heap.size) (m2 : ∀ k, inB y2 k → B ≤ k ∧ k < w4.heap.size) (hrb : w.heap.size ≤ rb) (hB : rb < B) (hb : Below w.heap.size w w4) : C9Post v l w (.returned (.agg #[.slice y1 v.length k1, .slice y2 l.length k2])) ((w4.setCell ⟨rb, 0, none⟩ (.slice y1 v.length k1)).setCell ⟨rb, 1, none⟩ (.slice y2 l.length k2)) :=
  ⟨y1, k1, y2, k2, rfl, h1.set2 (fun k hk => by have := m1 k hk; omega), h2.set2 (fun k hk => by have := m2 k hk; omega), fun k hk => by have := m1 k hk; simp; omega, fun k hk => by have := m2 k hk; simp; omega, (hb.setCell hrb _).setCell hrb _⟩

set_option maxRecDepth 10000 in
set_option maxHeartbeats 8000000 in
theorem l9Copy_callsA (aV : Option Addr) (nv cv : Nat) (v : List Int) (aL : Option Addr) (nl cl : Nat) (l : List Int) (w : World) (h : ConfAt w aV nv v aL nl l) (dV : AdG aV cv) (dL : AdG aL cl) :
    Calls Tryz.prog 14 #[.agg #[.slice aV nv cv, .slice aL nl cl]] w (C9Post v l w) := by
  obtain ⟨Wa, hWa⟩ : ∃ Wa, Wa = w.alloc (.cells #[.slice aV nv cv, .slice aL nl cl] 26) := ⟨_, rfl⟩
  obtain ⟨W0, hW0⟩ : ∃ W0, W0 = Wa.alloc (.cells #[.slice none 0 0, .slice none 0 0] 26) := ⟨_, rfl⟩
  have hba : Below w.heap.size w Wa := by rw [hWa]; exact bel1 _ _
  have hsa : Wa.heap.size = w.heap.size + 1 := by rw [hWa]; simp
  have hs0 : W0.heap.size = w.heap.size + 2 := by rw [hW0]; simp [hsa]
  have hb0 : Below Wa.heap.size Wa W0 := by rw [hW0]; exact bel1 _ _
  have c0 : W0.cell? ⟨w.heap.size, 0, none⟩ = some (.slice aV nv cv) := bcl hb0 (by omega) (by rw [hWa]; simp [go_sem])
  have c1 : W0.cell? ⟨w.heap.size, 1, none⟩ = some (.slice aL nl cl) := bcl hb0 (by omega) (by rw [hWa]; simp [go_sem])
  have hr : ∀ i, i < 2 → W0.cell? ⟨w.heap.size + 1, i, none⟩ = some (.slice none 0 0) ∧ W0.frozen? ⟨w.heap.size + 1, i, none⟩ = false := by
    intro i hi
    rw [hW0, ← hsa]
    rcases i with _ | _ | i
    all_goals first | omega | simp [go_sem]
  have HFIN := hide (fun (W : World) (hW : Below W0.heap.size W0 W) => belOn (belOn hba hb0) hW)
  have HW0 := hide (show (w.alloc (.cells #[.slice aV nv cv, .slice aL nl cl] 26)).alloc (.cells #[.slice none 0 0, .slice none 0 0] 26) = W0 from by rw [hW0, hWa])
  have HLV := hide h.v.len
  have HDV := hide dV
  have HDL := hide dL
  have HLL := hide h.l.len
  have hbv := h.v.bn
  have hbl := h.l.bn
  have l0 : w.heap.size < W0.heap.size := by omega
  have l1 : w.heap.size + 1 < W0.heap.size := by omega
  obtain ⟨r0, z0⟩ := hr 0 (by decide)
  obtain ⟨r1, z1⟩ := hr 1 (by decide)
  have hn1 : w.heap.size + 1 ≤ W0.heap.size := by omega
  have X0 := fun (W : World) (hW : SX2 w.heap.size W0 W) => bcl hW.1 (show w.heap.size < w.heap.size + 1 by omega) c0
  have X1 := fun (W : World) (hW : SX2 w.heap.size W0 W) => bcl hW.1 (show w.heap.size < w.heap.size + 1 by omega) c1
  have hbw := belOn hba hb0
  have HRV := hide (fun (W : World) (hW : SX2 w.heap.size W0 W) => h.v.row.below (hbw.trans (hW.1.mono (by omega))))
  have HRL := hide (fun (W : World) (hW : SX2 w.heap.size W0 W) => h.l.row.below (hbw.trans (hW.1.mono (by omega))))
  have Q0 : SX2 w.heap.size W0 W0.drew := ⟨belDrew (Below.refl _ _), l1, ⟨_, r0⟩, ⟨_, r1⟩, z0, z1⟩
  clear hba hb0 hWa hW0 hr h hsa hs0 hbw dV dL
  go_enter Tryz.func14, Tryz.ntmps14
  go_wp2_with fail
  rw [unhide HW0]
  go_region_held3 (fun w' => SX2 w.heap.size W0 w') (first | exact SX2.ald (by assumption) hn1 | exact SX2.al (by assumption) hn1 | exact Q2 | exact Q1 | exact Q0 | exact SX2.set Q2) (first
    | (refine stepNA (e := i64E) rfl (.tmp 3) (.tmp 5) rfl _ rfl (by first | omega | (simp <;> omega)) aV nv cv rfl (unhide HLV) (unhide HRV _ (by assumption)) (unhide HDV) hbv ?_; intro y1 k1 w2 ap1; have Q1 : SX2 w.heap.size W0 w2 := SX2.step (by assumption) ap1.below hn1; have Z2 := ap1.below.size; (try simp at Z2))
    | (refine stepNA (e := i64E) rfl (.tmp 7) (.tmp 9) rfl _ rfl (by first | omega | (simp <;> omega)) aL nl cl rfl (unhide HLL) (unhide HRL _ (by assumption)) (unhide HDL) hbl ?_; intro y2 k2 w3 ap2; have Q2 : SX2 w.heap.size W0 w3 := SX2.step (by assumption) ap2.below hn1; obtain ⟨-, nlt, ⟨u0, t0⟩, ⟨u1, t1⟩, v0, v1⟩ := Q2; have Q2 : SX2 w.heap.size W0 w3 := SX2.step (by assumption) ap2.below hn1))
  all_goals (have B2 : Below W0.heap.size W0 _ := belOn (by first | exact belDrew (bel1 _ _) | exact belDrew (belOn (bel1 _ _) (bel1 _ _))) ap1.below)
  all_goals (have K23 : Below w2.heap.size w2 w3 := belOn (by first | exact Below.refl _ _ | exact bel1 _ _ | exact belOn (bel1 _ _) (bel1 _ _)) ap2.below)
  all_goals (have B4 := belOn B2 K23)
  all_goals (have Z4 := ap2.below.size)
  all_goals (try simp at Z4)
  all_goals (have HY1 := hide (ap1.row.below K23))
  all_goals (have HY2 := hide ap2.row)
  all_goals (have HM1 := hide (show ∀ k, inB y1 k → W0.heap.size ≤ k ∧ k < w3.heap.size from fun k hk => by have h2 := (ap1.bl k hk).2; have := K23.size; rcases (ap1.bl k hk).1 with q | q; all_goals (first | omega | (simp at q; omega))))
  all_goals (have HM2 := hide (show ∀ k, inB y2 k → W0.heap.size ≤ k ∧ k < w3.heap.size from fun k hk => by have h2 := (ap2.bl k hk).2; rcases (ap2.bl k hk).1 with q | q; all_goals (first | omega | (simp at q; omega))))
  all_goals (have HB4 := hide B4)
  all_goals clear ap1 ap2 B2 B4 K23 Z2 Z4 c0 c1 r0 r1 z0 z1 Q0 Q1 Q2
  all_goals (try go_wp2_with fail)
  all_goals refine bodyPost_ret (v := .agg #[.slice y1 nv k1, .slice y2 nl k2]) (by simp [results, Tryz.results14, go_sem, t0, t1]) rfl ?_
  all_goals (have hn1 := unhide HLV)
  all_goals (have hn2 := unhide HLL)
  all_goals (subst hn1 hn2)
  all_goals exact ccRet (unhide HY1) (unhide HY2) (unhide HM1) (unhide HM2) (by omega) l1 (unhide HFIN _ (unhide HB4))
end Go.Proofs.YtedbjbndddmlhaaGreatDoor
