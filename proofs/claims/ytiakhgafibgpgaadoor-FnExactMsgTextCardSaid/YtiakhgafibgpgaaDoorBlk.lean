/- A variable's block, cell by cell. -/
import Derived.Test.YtiakhgafibgpgaaDoorHdrR
namespace Go.Proofs.YtiakhgafibgpgaaDoor
open Go.RowKit Plain
set_option linter.unusedVariables false

namespace Plain
theorem own_blk2 {g g' n c : Nat} (h : (Value.slice (some ⟨g, 0, none⟩) n c).ownBlock = some g') : g = g' := Option.some.inj h
theorem heap_set2 {W : World} {b i g : Nat} {u : Value} (h : b ≠ g) : (W.setCell ⟨b, i, none⟩ u).heap[g]? = W.heap[g]? := Below.heap_setCell _ _ _ _ (fun e => h (by simp at e; exact e.symm))
theorem cell_set2 {W : World} {b i : Nat} {u v : Value} (h : W.cell? ⟨b, i, none⟩ = some v) : (W.setCell ⟨b, i, none⟩ u).cell? ⟨b, i, none⟩ = some u := World.cell?_setCell_same' _ _ _ (by rw [h]; rfl)
theorem cell_off2 {W : World} {b i g j : Nat} {u : Value} (h : b ≠ g ∨ i ≠ j) : (W.setCell ⟨b, i, none⟩ u).cell? ⟨g, j, none⟩ = W.cell? ⟨g, j, none⟩ := World.cell?_setCell_other _ ⟨b, i, none⟩ ⟨g, j, none⟩ _ (fun q => by have h1 := congrArg Addr.block q; have h2 := congrArg Addr.off q; simp at h1 h2; omega)
/-- The block b holds the cells vs, and none is frozen. -/
structure Blk (W : World) (b : Nat) (vs : List Value) : Prop where
  lt : b < W.heap.size
  c : ∀ i (h : i < vs.length), W.cell? ⟨b, i, none⟩ = some vs[i]
  f : ∀ i, i < vs.length → W.frozen? ⟨b, i, none⟩ = false
theorem Blk.below {W W' : World} {b B : Nat} {vs : List Value} (h : Blk W b vs) (hb : Below B W W') (hB : b < B) : Blk W' b vs :=
  ⟨Nat.lt_of_lt_of_le h.lt hb.size, fun i hi => (hb.cell (p := ⟨b, i, none⟩) hB).trans (h.c i hi), fun i hi => (hb.frozen (p := ⟨b, i, none⟩) hB).trans (h.f i hi)⟩
theorem Blk.call {W W' : World} {b : Nat} {vs : List Value} (h : Blk W b vs) (hb : Below W.heap.size W W') : Blk W' b vs := h.below hb h.lt
theorem Blk.set {W : World} {b : Nat} {vs : List Value} (h : Blk W b vs) (i : Nat) (hi : i < vs.length) (u : Value) : Blk (W.setCell ⟨b, i, none⟩ u) b (vs.set i u) := by
  refine ⟨by simpa using h.lt, fun j hj => ?_, fun j hj => by rw [World.frozen?_setCell]; exact h.f j (by simpa using hj)⟩
  rw [List.length_set] at hj
  by_cases hij : i = j
  · subst hij
    rw [cell_set2 (h.c i hi), List.getElem_set_self]
  · rw [cell_off2 (.inr hij), h.c j hj, List.getElem_set_ne hij]
theorem Blk.off {W : World} {b g i : Nat} {vs : List Value} (h : Blk W b vs) (hg : g ≠ b) (u : Value) : Blk (W.setCell ⟨g, i, none⟩ u) b vs :=
  ⟨by simpa using h.lt, fun j hj => (cell_off2 (.inl hg)).trans (h.c j hj), fun j hj => by rw [World.frozen?_setCell]; exact h.f j hj⟩
theorem Blk.new (W : World) (l : List Value) (t : TypeId) : Blk (W.alloc (.cells l.toArray t)) W.heap.size l := by
  refine ⟨by simp, fun i hi => ?_, fun i hi => ?_⟩
  · simp [go_sem, hi]
  · simp [go_sem]
theorem Blk.alloc {W : World} {b : Nat} {vs : List Value} (h : Blk W b vs) (o : Obj) : Blk (W.alloc o) b vs := h.call (bel1 W o)
theorem Blk.lt_alloc {W : World} (l : List Value) (t : TypeId) : W.heap.size < (W.alloc (.cells l.toArray t)).heap.size := by simp
end Plain
theorem OwnR.off2 {α : Type} {e : Elem α} {W : World} {B g n c b i : Nat} {u : Value} {xs : List α} (h : OwnR e W B (.slice (some ⟨g, 0, none⟩) n c) xs) (hg : b ≠ g) : OwnR e (W.setCell ⟨b, i, none⟩ u) B (.slice (some ⟨g, 0, none⟩) n c) xs := by
  refine ⟨h.1, ?_⟩
  rcases h.2 with ⟨a, c'⟩ | ⟨g', cap, cur, he, c', d, r⟩
  · exact .inl ⟨a, c'⟩
  · refine .inr ⟨g', cap, cur, he, c', (heap_set2 ?_).trans d, r⟩
    have : (Value.slice (some ⟨g, 0, none⟩) n c).ownBlock = some g' := by rw [he]; rfl
    rw [← own_blk2 this]
    exact hg
end Go.Proofs.YtiakhgafibgpgaaDoor
