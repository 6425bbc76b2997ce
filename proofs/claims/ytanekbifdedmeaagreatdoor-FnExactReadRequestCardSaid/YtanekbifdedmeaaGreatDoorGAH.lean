/- Texts of one kind, put together. -/
import Derived.Test.YtanekbifdedmeaaGreatDoorGAD
import Derived.Lib.SlBytesConst
import Derived.Test.YtanekbifdedmeaaGreatDoorHdrR

/- Bytes of the call's own: a byte of them changed; a beginning of them as a text; bytes that are written out. -/
namespace Go.Proofs.YtanekbifdedmeaaGreatDoor
open Go.RowKit Plain
set_option linter.unusedVariables false

theorem conv_pre (W : World) (B g cap n c : Nat) (xs : List Int) (h : OwnP W B g cap xs) (hn : n ≤ xs.length) : (convert 22 9 (.slice (some ⟨g, 0, none⟩) n c)).run Tryz.prog W = .ok (.string (strOfNums (xs.take n))) W :=
  run_convert_bytes_arg W _ _ Tryz.underlying22 Tryz.underlying5 g 0 n c (xs.take n) (by rw [List.length_take]; omega) (fun i hi => by
    rw [Nat.zero_add, h.2.2.2.1 i (by omega)]
    simp [List.getD, hi]) _ Tryz.underlying9

theorem OwnP.set {W : World} {B g cap : Nat} {xs : List Int} (h : OwnP W B g cap xs) (i : Nat) (hi : i < xs.length) (y : Int) : OwnP (W.setCell ⟨g, i, none⟩ (.int .u8 y)) B g cap (xs.set i y) := by
  obtain ⟨h1, h2, h3, h4, h5⟩ := h
  refine ⟨h1, by simpa using h2, by simpa using h3, fun j hj => ?_, fun j hj => ?_⟩
  · by_cases e : i = j
    · subst e
      rw [World.cell?_setCell_same' _ _ _ (h5 i (by omega)).1]
      simp [List.getD, hi]
    · rw [World.cell?_setCell_other _ ⟨g, i, none⟩ ⟨g, j, none⟩ _ (fun q => e (congrArg Addr.off q)), h4 j (by simpa using hj)]
      simp [List.getD, e]
  · refine ⟨?_, by simpa using (h5 j hj).2⟩
    by_cases e : i = j
    · subst e; rw [World.cell?_setCell_same' _ _ _ (h5 i (by omega)).1]; rfl
    · rw [World.cell?_setCell_other _ ⟨g, i, none⟩ ⟨g, j, none⟩ _ (fun q => e (congrArg Addr.off q))]; exact (h5 j hj).1

end Go.Proofs.YtanekbifdedmeaaGreatDoor


/- A variable's block, cell by cell. -/
namespace Go.Proofs.YtanekbifdedmeaaGreatDoor
open Go.RowKit Plain
set_option linter.unusedVariables false

namespace Plain
theorem heap_set2 {W : World} {b i g : Nat} {u : Value} (h : b ≠ g) : (W.setCell ⟨b, i, none⟩ u).heap[g]? = W.heap[g]? := Below.heap_setCell _ _ _ _ (fun e => h (by simp at e; exact e.symm))
theorem cell_set2 {W : World} {b i : Nat} {u v : Value} (h : W.cell? ⟨b, i, none⟩ = some v) : (W.setCell ⟨b, i, none⟩ u).cell? ⟨b, i, none⟩ = some u := World.cell?_setCell_same' _ _ _ (by rw [h]; rfl)
theorem cell_off2 {W : World} {b i g j : Nat} {u : Value} (h : b ≠ g ∨ i ≠ j) : (W.setCell ⟨b, i, none⟩ u).cell? ⟨g, j, none⟩ = W.cell? ⟨g, j, none⟩ := World.cell?_setCell_other _ ⟨b, i, none⟩ ⟨g, j, none⟩ _ (fun q => by have h1 := congrArg Addr.block q; have h2 := congrArg Addr.off q; simp at h1 h2; omega)
/-- The block b holds the cells vs, and none is frozen. -/
structure Blk (W : World) (b : Nat) (vs : List Value) : Prop where
  lt : b < W.heap.size
  c : ∀ i (h : i < vs.length), W.cell? ⟨b, i, none⟩ = some vs[i]
  f : ∀ i, i < vs.length → W.frozen? ⟨b, i, none⟩ = false
theorem Blk.below {W W' : World} {b B : Nat} {vs : List Value} (h : Blk W b vs) (hb : Below B W W') (hB : b < B) : Blk W' b vs :=
  ⟨Nat.lt_of_lt_of_le h.lt hb.size, fun i hi => (hb.cell (p := ⟨b, i, none⟩) hB).trans (h.c i hi), fun i hi => (hb.frozen (p := ⟨b, i, none⟩) hB).trans (h.f i hi)⟩
theorem Blk.call {W W' : World} {b : Nat} {vs : List Value} (h : Blk W b vs) (hb : Below W.heap.size W W') : Blk W' b vs := h.below hb h.lt
theorem Blk.set {W : World} {b : Nat} {vs : List Value} (h : Blk W b vs) (i : Nat) (hi : i < vs.length) (u : Value) : Blk (W.setCell ⟨b, i, none⟩ u) b (vs.set i u) := by
  refine ⟨by simpa using h.lt, fun j hj => ?_, fun j hj => by rw [World.frozen?_setCell]; exact h.f j (by simpa using hj)⟩
  rw [List.length_set] at hj
  by_cases hij : i = j
  · subst hij
    rw [cell_set2 (h.c i hi), List.getElem_set_self]
  · rw [cell_off2 (.inr hij), h.c j hj, List.getElem_set_ne hij]
theorem Blk.off {W : World} {b g i : Nat} {vs : List Value} (h : Blk W b vs) (hg : g ≠ b) (u : Value) : Blk (W.setCell ⟨g, i, none⟩ u) b vs :=
  ⟨by simpa using h.lt, fun j hj => (cell_off2 (.inl hg)).trans (h.c j hj), fun j hj => by rw [World.frozen?_setCell]; exact h.f j hj⟩
theorem Blk.new (W : World) (l : List Value) (t : TypeId) : Blk (W.alloc (.cells l.toArray t)) W.heap.size l := by
  refine ⟨by simp, fun i hi => ?_, fun i hi => ?_⟩
  · simp [go_sem, hi]
  · simp [go_sem]
theorem Blk.alloc {W : World} {b : Nat} {vs : List Value} (h : Blk W b vs) (o : Obj) : Blk (W.alloc o) b vs := h.call (bel1 W o)
end Plain
end Go.Proofs.YtanekbifdedmeaaGreatDoor

