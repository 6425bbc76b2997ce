/- A variable's block that holds a net. -/
import Derived.Test.YtkpnnchgngcppaaMrkN
import Derived.Test.YtkpnnchgngcppaaNetR
namespace Go.Proofs.Ytkpnnchgngcppaa
open Go.RowKit Plain
set_option linter.unusedVariables false

namespace Plain
def NB (M : Nat) (v l : Value) (w : World) : Prop := w.heap[M]? = some (.cells #[v, l] 28 (0, 0))
theorem NB.lt {M : Nat} {v l : Value} {w : World} (h : NB M v l w) : M < w.heap.size := (Array.getElem?_eq_some_iff.1 h).1
theorem NB.c0 {M : Nat} {v l : Value} {w : World} (h : NB M v l w) : w.cell? ⟨M, 0, none⟩ = some v := cell_of_row w M 0 _ _ _ h
theorem NB.c1 {M : Nat} {v l : Value} {w : World} (h : NB M v l w) : w.cell? ⟨M, 1, none⟩ = some l := cell_of_row w M 1 _ _ _ h
theorem NB.new (w : World) (v l : Value) : NB w.heap.size v l (w.alloc (.cells #[v, l] 28)) := (MapKept.heap_alloc w _).1
theorem NB.below {M B : Nat} {v l : Value} {w w' : World} (h : NB M v l w) (hb : Below B w w') (hB : M < B) : NB M v l w' := (hb.block M hB).trans h
theorem NB.offP {p : Nat → Prop} {M : Nat} {v l : Value} {w w' : World} (h : NB M v l w) (ho : OnlyP p w w') (hn : ¬ p M) : NB M v l w' := (ho.block M h.lt hn).trans h
end Plain
end Go.Proofs.Ytkpnnchgngcppaa
