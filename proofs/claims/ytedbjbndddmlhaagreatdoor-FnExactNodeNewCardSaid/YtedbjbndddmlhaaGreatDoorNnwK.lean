/- A new node's replica, by the program. -/
import Derived.Test.YtedbjbndddmlhaaGreatDoorNnwI
import Derived.Test.YtedbjbndddmlhaaGreatDoorNnwJ
namespace Go.Proofs.YtedbjbndddmlhaaGreatDoor
open Go.RowKit Plain
set_option linter.unusedVariables false

namespace Plain
/-- What replicaOf leaves. -/
def RpPost (id : Int) (v l : List Int) (w : World) (e : Ending) (w' : World) : Prop := ∃ rb a1 c1 a2 c2, e = .returned (.pointer (some ⟨rb, 0, none⟩)) ∧ w.heap.size ≤ rb ∧ NnC rb id (.slice a1 v.length c1) (.slice a2 l.length c2) w' ∧ NfPost v l w a1 c1 a2 c2 w'
theorem NnC.at {b : Nat} {id : Int} {V L : Value} {W : World} (h : NnC b id V L W) : b < W.heap.size ∧ (∀ i (hi : i < 14), W.cell? ⟨b, i, none⟩ = some ((nnL id V L)[i]'hi)) ∧ (∀ i, i < 14 → W.frozen? ⟨b, i, none⟩ = false) := by
  refine ⟨h.lt, fun i hi => ?_, h.fr⟩
  rcases i with _ | _ | _ | _ | _ | _ | _ | _ | _ | _ | _ | _ | _ | _ | i
  · exact h.c0
  · exact h.c1
  · exact h.c2
  · exact h.c3
  · exact h.c4
  · exact h.c5
  · exact h.c6
  · exact h.c7
  · exact h.c8
  · exact h.c9
  · exact h.c10
  · exact h.c11
  · exact h.c12
  · exact h.c13
  · omega
theorem NnC.of {b : Nat} {id : Int} {V L : Value} {W : World} (h : b < W.heap.size ∧ (∀ i (hi : i < 14), W.cell? ⟨b, i, none⟩ = some ((nnL id V L)[i]'hi)) ∧ (∀ i, i < 14 → W.frozen? ⟨b, i, none⟩ = false)) : NnC b id V L W :=
  ⟨h.1, h.2.1 0 (by decide), h.2.1 1 (by decide), h.2.1 2 (by decide), h.2.1 3 (by decide), h.2.1 4 (by decide), h.2.1 5 (by decide), h.2.1 6 (by decide), h.2.1 7 (by decide), h.2.1 8 (by decide), h.2.1 9 (by decide), h.2.1 10 (by decide), h.2.1 11 (by decide), h.2.1 12 (by decide), h.2.1 13 (by decide), h.2.2⟩
/-- A cell of the block is written. -/
theorem NnC.put {b : Nat} {id id' : Int} {V L V' L' : Value} {W : World} (h : NnC b id V L W) (k : Nat) (hk : k < 14) (u : Value) (he : (nnL id V L).set k u = nnL id' V' L') : NnC b id' V' L' (W.setCell ⟨b, k, none⟩ u) := by
  obtain ⟨h1, h2, h3⟩ := h.at
  refine NnC.of ⟨by simpa using h1, fun i hi => ?_, fun i hi => by rw [World.frozen?_setCell]; exact h3 i hi⟩
  have e2 : (nnL id' V' L')[i]'hi = ((nnL id V L).set k u)[i]'(by rw [List.length_set]; exact hi) := by congr 1; exact he.symm
  rw [e2]
  by_cases hki : k = i
  · subst hki
    rw [cell_setI (h2 k hk), List.getElem_set_self]
  · rw [cell_offI (.inr hki), h2 i hi, List.getElem_set_ne hki]; rfl
end Plain

set_option maxRecDepth 10000 in
set_option maxHeartbeats 2000000 in
theorem replicaOf_calls (id : Int) (g1 nv cv : Nat) (v : List Int) (g2 nl cl : Nat) (l : List Int) (w : World) (h : ConfAt w (some ⟨g1, 0, none⟩) nv v (some ⟨g2, 0, none⟩) nl l) :
    Calls Tryz.prog 18 #[nnV id (.slice (some ⟨g1, 0, none⟩) nv cv) (.slice (some ⟨g2, 0, none⟩) nl cl)] w (RpPost id v l w) := by
  obtain ⟨W0, hW0⟩ : ∃ W0, W0 = w.alloc (.cells #[.int .i64 id, .int .i64 0, .int .i64 0, .int .i64 0, .int .i64 0, .slice (some ⟨g1, 0, none⟩) nv cv, .slice (some ⟨g2, 0, none⟩) nl cl, .string ⟨#[]⟩, .slice none 0 0, .int .i64 0, .int .i64 0, .int .i64 0, .slice none 0 0, .slice none 0 0] 30) := ⟨_, rfl⟩
  have hb0 : Below w.heap.size w W0 := by rw [hW0]; exact bel1 _ _
  have B0 : NnC w.heap.size id (.slice (some ⟨g1, 0, none⟩) nv cv) (.slice (some ⟨g2, 0, none⟩) nl cl) W0 := by rw [hW0]; exact NnC.new w _ _ _ _
  have HA := hide (h.below hb0)
  have H1 := hide (copyOfConf_calls g1 nv cv v g2 nl cl l W0 (unhide HA))
  have HC := hide (fun (W : World) (hW : Below W0.heap.size W0 W) => B0.call hW)
  have HB0 := hide hb0
  have HW0 := hide hW0.symm
  unfold nnV
  clear hb0 B0 h hW0
  go_enter Tryz.func18, Tryz.ntmps18
  go_wp2_with fail
  rw [unhide HW0]
  refine (unhide H1).mono ?_
  rintro e w1 ⟨y1, k1, y2, k2, rfl, q1, q2, m1, m2, ap, hb1⟩
  obtain ⟨W2, hW2⟩ : ∃ W2, W2 = (w1.setCell ⟨w.heap.size, 5, none⟩ (.slice y1 v.length k1)).setCell ⟨w.heap.size, 6, none⟩ (.slice y2 l.length k2) := ⟨_, rfl⟩
  have B1 := unhide HC _ hb1
  have hz0 := (unhide HB0).size
  have hz1 := hb1.size
  have hlt : w.heap.size < W0.heap.size := (unhide HC _ (Below.refl _ _)).lt
  have D2 : NnC w.heap.size id (.slice y1 v.length k1) (.slice y2 l.length k2) W2 := by
    rw [hW2]
    exact (B1.put (V' := .slice y1 v.length k1) (L' := .slice (some ⟨g2, 0, none⟩) nl cl) (id' := id) 5 (by decide) _ rfl).put 6 (by decide) _ rfl
  have hs2 : W2.heap.size = w1.heap.size := by rw [hW2]; simp
  have hbw2 : Below w.heap.size w W2 := by rw [hW2]; exact ((belOn (unhide HB0) hb1).setCell (Nat.le_refl _) _).setCell (Nat.le_refl _) _
  have N2 : NfPost v l w y1 k1 y2 k2 W2 := by
    refine ⟨?_, ?_, fun g hg => ?_, fun g hg => ?_, ap, hbw2⟩
    · rw [hW2]; exact rowSet (rowSet q1 (fun g hg => by have := m1 g hg; omega)) (fun g hg => by have := m1 g hg; omega)
    · rw [hW2]; exact rowSet (rowSet q2 (fun g hg => by have := m2 g hg; omega)) (fun g hg => by have := m2 g hg; omega)
    · have := m1 g hg; omega
    · have := m2 g hg; omega
  have HW2 := hide hW2.symm
  obtain ⟨blt, c0, c1, c2, c3, c4, c5, c6, c7, c8, c9, c10, c11, c12, c13, bfr⟩ := B1
  have f5 := bfr 5 (by decide)
  have f6 := bfr 6 (by decide)
  have HD2 := hide D2
  have HN2 := hide N2
  have HM := hide (And.intro m1 m2)
  clear hbw2 N2 D2 bfr q1 q2 m1 m2 ap hW2 HA H1
  go_wp2_with fail
  rw [unhide HW2]
  clear c0 c1 c2 c3 c4 c5 c6 c7 c8 c9 c10 c11 c12 c13 f5 f6 blt
  refine (cloneE0_calls _).mono ?_
  rintro e w2 ⟨rfl, rfl⟩
  obtain ⟨blt, c0, c1, c2, c3, c4, c5, c6, c7, c8, c9, c10, c11, c12, c13, bfr⟩ := unhide HD2
  have f8 := bfr 8 (by decide)
  have f12 := bfr 12 (by decide)
  have f13 := bfr 13 (by decide)
  clear bfr
  go_wp2_with (first
    | (go_at_call 41; refine (cloneI0_calls _).mono ?_; rintro e w3 ⟨rfl, rfl⟩)
    | (go_at_call 42; refine (cloneP0_calls _).mono ?_; rintro e w4 ⟨rfl, rfl⟩))
  go_ret
  clear c0 c1 c2 c3 c4 c5 c6 c7 c8 c9 c10 c11 c12 c13 f8 f12 f13
  obtain ⟨q1, q2, m1, m2, ap, hbw⟩ := unhide HN2
  obtain ⟨p1, p2⟩ := unhide HM
  have n1 : ∀ g, inB y1 g → g ≠ w.heap.size := fun g hg => by have := p1 g hg; omega
  have n2 : ∀ g, inB y2 g → g ≠ w.heap.size := fun g hg => by have := p2 g hg; omega
  obtain ⟨X, hX⟩ : ∃ X, X = (((W2.setCell ⟨w.heap.size, 8, none⟩ (.slice none 0 0)).setCell ⟨w.heap.size, 12, none⟩ (.slice none 0 0)).setCell ⟨w.heap.size, 13, none⟩ (.slice none 0 0)) := ⟨_, rfl⟩
  rw [← hX]
  have hsX : X.heap.size = w1.heap.size := by rw [hX]; simp [hs2]
  have rX1 : RowAt i64E X y1 v := by rw [hX]; exact rowSet (rowSet (rowSet q1 n1) n1) n1
  have rX2 : RowAt i64E X y2 l := by rw [hX]; exact rowSet (rowSet (rowSet q2 n2) n2) n2
  have bX : Below w.heap.size w X := by rw [hX]; exact ((hbw.setCell (Nat.le_refl _) _).setCell (Nat.le_refl _) _).setCell (Nat.le_refl _) _
  have NX := NnC.new X id (.slice y1 v.length k1) (.slice y2 l.length k2) 44
  rw [hsX] at NX
  refine ⟨w1.heap.size, y1, k1, y2, k2, rfl, by omega, NX, rX1.below (bel1 X _), rX2.below (bel1 X _), fun g hg => ?_, fun g hg => ?_, ap, belOn bX (bel1 X _)⟩
  · have := m1 g hg; have := p1 g hg; simp; omega
  · have := m2 g hg; have := p2 g hg; simp; omega
end Go.Proofs.YtedbjbndddmlhaaGreatDoor
