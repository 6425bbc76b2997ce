/- Blocks that hold members; rows beside which a cell changes. -/
import Derived.Test.YtedbjbndddmlhaaGreatDoorConR
import Derived.Test.YtedbjbndddmlhaaGreatDoorOnlP
namespace Go.Proofs.YtedbjbndddmlhaaGreatDoor
open Go.RowKit Plain
set_option linter.unusedVariables false

namespace Plain
/-- A block that holds members. -/
def CB (M : Nat) (v l : Value) (w : World) : Prop := w.heap[M]? = some (.cells #[v, l] 26 (0, 0))
theorem CB.lt {M : Nat} {v l : Value} {w : World} (h : CB M v l w) : M < w.heap.size := (Array.getElem?_eq_some_iff.1 h).1
theorem CB.c0 {M : Nat} {v l : Value} {w : World} (h : CB M v l w) : w.cell? ⟨M, 0, none⟩ = some v := cell_of_row w M 0 _ _ _ h
theorem CB.c1 {M : Nat} {v l : Value} {w : World} (h : CB M v l w) : w.cell? ⟨M, 1, none⟩ = some l := cell_of_row w M 1 _ _ _ h
theorem CB.f0 {M : Nat} {v l : Value} {w : World} (h : CB M v l w) : w.frozen? ⟨M, 0, none⟩ = false := frozen_of_row w M 0 _ _ h
theorem CB.f1 {M : Nat} {v l : Value} {w : World} (h : CB M v l w) : w.frozen? ⟨M, 1, none⟩ = false := frozen_of_row w M 1 _ _ h
theorem CB.new (w : World) (v l : Value) : CB w.heap.size v l (w.alloc (.cells #[v, l] 26)) := (MapKept.heap_alloc w _).1
theorem CB.below {M B : Nat} {v l : Value} {w w' : World} (h : CB M v l w) (hb : Below B w w') (hB : M < B) : CB M v l w' := (hb.block M hB).trans h
theorem CB.set0 {M : Nat} {v l : Value} {w : World} (h : CB M v l w) (x : Value) : CB M x l (w.setCell ⟨M, 0, none⟩ x) := Go.heap_setCell_same w M 0 _ _ _ h
theorem CB.set1 {M : Nat} {v l : Value} {w : World} (h : CB M v l w) (x : Value) : CB M v x (w.setCell ⟨M, 1, none⟩ x) := Go.heap_setCell_same w M 1 _ _ _ h
theorem CB.far {M b i : Nat} {v l : Value} {w : World} (h : CB M v l w) (hne : b ≠ M) (x : Value) : CB M v l (w.setCell ⟨b, i, none⟩ x) := (Go.heap_setCell_other w ⟨b, i, none⟩ M x (fun e => hne e.symm)).trans h
theorem rowSet {W : World} {a : Option Addr} {xs : List Int} {rb i : Nat} {u : Value} (h : RowAt i64E W a xs) (hne : ∀ g, inB a g → g ≠ rb) : RowAt i64E (W.setCell ⟨rb, i, none⟩ u) a xs := fun j hj => by
  obtain ⟨g, e1, hl, hc⟩ := h j hj
  have hg : rb ≠ g := fun q => hne g ⟨0, e1⟩ q.symm
  have hb : (W.setCell ⟨rb, i, none⟩ u).heap[g]? = W.heap[g]? := heap_setI hg
  exact ⟨g, e1, by simpa using hl, fun k hk => ⟨(World.cell?_of_block (a := ⟨g, j * i64E.n + k, none⟩) hb).trans (hc k hk).1, (World.frozen?_of_block (a := ⟨g, j * i64E.n + k, none⟩) hb).trans (hc k hk).2⟩⟩
end Plain
theorem RowAt.set2 {W : World} {a : Option Addr} {xs : List Int} {rb : Nat} {u1 u2 : Value} (h : RowAt i64E W a xs) (hne : ∀ g, inB a g → g ≠ rb) : RowAt i64E ((W.setCell ⟨rb, 0, none⟩ u1).setCell ⟨rb, 1, none⟩ u2) a xs := fun i hi => by
  obtain ⟨g, e1, hl, hc⟩ := h i hi
  have hg : rb ≠ g := fun q => hne g ⟨0, e1⟩ q.symm
  have hb : ((W.setCell ⟨rb, 0, none⟩ u1).setCell ⟨rb, 1, none⟩ u2).heap[g]? = W.heap[g]? := by rw [heap_setI hg, heap_setI hg]
  exact ⟨g, e1, by simpa using hl, fun j hj => ⟨(World.cell?_of_block (a := ⟨g, i * i64E.n + j, none⟩) hb).trans (hc j hj).1, (World.frozen?_of_block (a := ⟨g, i * i64E.n + j, none⟩) hb).trans (hc j hj).2⟩⟩

theorem inB_none {g : Nat} (h : inB none g) : False := by obtain ⟨o, e⟩ := h; cases e
/-- Members that are answered by the specification. -/
def CcPost (v l : List Int) (w : World) (a1 : Option Addr) (c1 : Nat) (a2 : Option Addr) (c2 : Nat) (w' : World) : Prop := RowAt i64E w' a1 v ∧ RowAt i64E w' a2 l ∧ (∀ g, inB a1 g → w.heap.size ≤ g ∧ g < w'.heap.size) ∧ (∀ g, inB a2 g → w.heap.size ≤ g ∧ g < w'.heap.size) ∧ Below w.heap.size w w'
end Go.Proofs.YtedbjbndddmlhaaGreatDoor
