/- Changes of members, by the specification: lists copied, put into, cut out of. -/
import Derived.Test.YtedbjbndddmlhaaGreatDoorChaK
import Derived.Test.YtedbjbndddmlhaaGreatDoorStpM
namespace Go.Proofs.YtedbjbndddmlhaaGreatDoor
open Go.RowKit Plain
set_option linter.unusedVariables false

/-- A list that is answered. -/
def LsPost (ls : List Int) (w : World) (e : Ending) (w' : World) : Prop := ∃ a1 c1, e = .returned (.slice a1 ls.length c1) ∧ RowAt i64E w' a1 ls ∧ Below w.heap.size w w' ∧ ∀ g, inB a1 g → w.heap.size ≤ g ∧ g < w'.heap.size



end Go.Proofs.YtedbjbndddmlhaaGreatDoor