/- Changes of members, by the program. -/
import Derived.Test.YtedbjbndddmlhaaGreatDoorIdsI
import Derived.Test.YtedbjbndddmlhaaGreatDoorCuts
import Derived.Laws.Rows
namespace Go.Proofs.YtedbjbndddmlhaaGreatDoor
open Go.RowKit Plain
set_option linter.unusedVariables false

namespace Plain
/-- Block M is a council's. -/
def UB (M : Nat) (v l : Value) (w : World) : Prop := w.heap[M]? = some (.cells #[v, l] 75 (0, 0))
theorem UB.lt {M : Nat} {v l : Value} {w : World} (h : UB M v l w) : M < w.heap.size := (Array.getElem?_eq_some_iff.1 h).1
theorem UB.c0 {M : Nat} {v l : Value} {w : World} (h : UB M v l w) : w.cell? ⟨M, 0, none⟩ = some v := cell_of_row w M 0 _ _ _ h
theorem UB.c1 {M : Nat} {v l : Value} {w : World} (h : UB M v l w) : w.cell? ⟨M, 1, none⟩ = some l := cell_of_row w M 1 _ _ _ h
theorem UB.f0 {M : Nat} {v l : Value} {w : World} (h : UB M v l w) : w.frozen? ⟨M, 0, none⟩ = false := frozen_of_row w M 0 _ _ h
theorem UB.f1 {M : Nat} {v l : Value} {w : World} (h : UB M v l w) : w.frozen? ⟨M, 1, none⟩ = false := frozen_of_row w M 1 _ _ h
theorem UB.new (w : World) (v l : Value) : UB w.heap.size v l (w.alloc (.cells #[v, l] 75)) := (MapKept.heap_alloc w _).1
theorem UB.below {M B : Nat} {v l : Value} {w w' : World} (h : UB M v l w) (hb : Below B w w') (hB : M < B) : UB M v l w' := (hb.block M hB).trans h
theorem UB.set0 {M : Nat} {v l : Value} {w : World} (h : UB M v l w) (x : Value) : UB M x l (w.setCell ⟨M, 0, none⟩ x) := Go.heap_setCell_same w M 0 _ _ _ h
theorem UB.set1 {M : Nat} {v l : Value} {w : World} (h : UB M v l w) (x : Value) : UB M v x (w.setCell ⟨M, 1, none⟩ x) := Go.heap_setCell_same w M 1 _ _ _ h
theorem UB.far {M b i : Nat} {v l : Value} {w : World} (h : UB M v l w) (hne : b ≠ M) (x : Value) : UB M v l (w.setCell ⟨b, i, none⟩ x) := (Go.heap_setCell_other w ⟨b, i, none⟩ M x (fun e => hne e.symm)).trans h
/-- Whether a node is where a change takes it from. -/
def findB (kind id : Int) (v l : List Int) : Bool := if kind = 1 then !decide (id ∈ v ++ l) else if kind = 2 then decide (id ∈ l) else decide (id ∈ v ++ l)
def nxtV (kind id : Int) (v : List Int) : List Int := if kind = 2 then putZ id (cutZ id v) else cutZ id v
def nxtL (kind id : Int) (l : List Int) : List Int := if kind = 1 then putZ id (cutZ id l) else cutZ id l
theorem nxtV_ok (kind id : Int) (v : List Int) (h1 : 1 ≤ id) (h50 : id ≤ 50) (h : okIds 0 v = true) : okIds 0 (nxtV kind id v) = true := by
  unfold nxtV
  split
  · exact okIds_put id h50 _ 0 (by omega) (fun q => ((mem_cutZ id id v).1 q).2 rfl) (okIds_cut id v 0 h)
  · exact okIds_cut id v 0 h
theorem nxtL_ok (kind id : Int) (l : List Int) (h1 : 1 ≤ id) (h50 : id ≤ 50) (h : okIds 0 l = true) : okIds 0 (nxtL kind id l) = true := by
  unfold nxtL
  split
  · exact okIds_put id h50 _ 0 (by omega) (fun q => ((mem_cutZ id id l).1 q).2 rfl) (okIds_cut id l 0 h)
  · exact okIds_cut id l 0 h
end Plain



set_option maxRecDepth 10000 in
set_option maxHeartbeats 1000000 in
theorem all_calls (v l : List Int) (w : World) :
    Calls Tryz.prog 76 #[.agg #[.int .u64 (setN v : Nat), .int .u64 (setN l : Nat)]] w fun e w' => e = .returned (.int .u64 (setN (v ++ l) : Nat)) ∧ Below w.heap.size w w' := by
  have h1 := setN_lt v
  have h2 := setN_lt l
  have hor : bits .or .u64 ((setN v : Nat) : Int) ((setN l : Nat) : Int) = ((setN (v ++ l) : Nat) : Int) := by rw [u64_or_nat _ _ (by omega) (by omega), set_all]
  have HB := hide (bel1 w (.cells #[.int .u64 (setN v : Nat), .int .u64 (setN l : Nat)] 75))
  generalize setN (v ++ l) = D at hor
  generalize setN v = V at HB hor
  generalize setN l = L at HB hor
  clear h1 h2
  go_enter Tryz.func76, Tryz.ntmps76
  go_wp2_with fail
  go_ret
  exact ⟨rfl, unhide HB⟩

end Go.Proofs.YtedbjbndddmlhaaGreatDoor