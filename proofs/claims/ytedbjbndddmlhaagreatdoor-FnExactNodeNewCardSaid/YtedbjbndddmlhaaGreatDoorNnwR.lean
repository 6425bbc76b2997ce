/- A new node, by the specification: whether it is right. -/
import Derived.Test.YtedbjbndddmlhaaGreatDoorNnwI
import Derived.Test.YtedbjbndddmlhaaGreatDoorConS
namespace Go.Proofs.YtedbjbndddmlhaaGreatDoor
open Go.RowKit Plain
set_option linter.unusedVariables false

theorem inT_calls (x lo hi : Int) (w : World) (h : (decide (lo ≤ x) && decide (x ≤ hi)) = true) : Calls Tryz.prog 29 #[.int .i64 x, .int .i64 lo, .int .i64 hi] w fun e w' => e = .returned (.bool true) ∧ w = w' := by
  have := l1In_calls x lo hi w
  rw [h] at this
  exact this
theorem inF_calls (x lo hi : Int) (w : World) (h : (decide (lo ≤ x) && decide (x ≤ hi)) = false) : Calls Tryz.prog 29 #[.int .i64 x, .int .i64 lo, .int .i64 hi] w fun e w' => e = .returned (.bool false) ∧ w = w' := by
  have := l1In_calls x lo hi w
  rw [h] at this
  exact this

set_option maxRecDepth 10000 in
set_option maxHeartbeats 1000000 in
theorem last0S_calls (id : Int) (av : Option Addr) (nv cv : Nat) (al : Option Addr) (nl cl : Nat) (w : World) :
    Calls Tryz.prog 31 #[nnV id (.slice av nv cv) (.slice al nl cl)] w fun e w' => e = .returned (.int .i64 0) ∧ Below w.heap.size w w' := by
  obtain ⟨W0, hW0⟩ : ∃ W0, W0 = w.alloc (.cells #[.int .i64 id, .int .i64 0, .int .i64 0, .int .i64 0, .int .i64 0, .slice av nv cv, .slice al nl cl, .string ⟨#[]⟩, .slice none 0 0, .int .i64 0, .int .i64 0, .int .i64 0, .slice none 0 0, .slice none 0 0] 30) := ⟨_, rfl⟩
  have hb0 : Below w.heap.size w W0 := by rw [hW0]; exact bel1 _ _
  have B0 : NnC w.heap.size id (.slice av nv cv) (.slice al nl cl) W0 := by rw [hW0]; exact NnC.new w _ _ _ _
  have HB0 := hide hb0
  have HW0 := hide hW0.symm
  unfold nnV
  clear B0 hb0 hW0
  go_enter Tryz.func31, Tryz.ntmps31
  go_wp2_with fail
  go_ret
  exact ⟨rfl, by rw [unhide HW0]; exact unhide HB0⟩

set_option maxRecDepth 10000 in
set_option maxHeartbeats 1000000 in
theorem role0S_calls (id : Int) (av : Option Addr) (nv cv : Nat) (al : Option Addr) (nl cl : Nat) (w : World) (hid : 1 ≤ id) :
    Calls Tryz.prog 33 #[nnV id (.slice av nv cv) (.slice al nl cl)] w fun e w' => e = .returned (.bool true) ∧ Below w.heap.size w w' := by
  obtain ⟨W0, hW0⟩ : ∃ W0, W0 = w.alloc (.cells #[.int .i64 id, .int .i64 0, .int .i64 0, .int .i64 0, .int .i64 0, .slice av nv cv, .slice al nl cl, .string ⟨#[]⟩, .slice none 0 0, .int .i64 0, .int .i64 0, .int .i64 0, .slice none 0 0, .slice none 0 0] 30) := ⟨_, rfl⟩
  have hb0 : Below w.heap.size w W0 := by rw [hW0]; exact bel1 _ _
  have B0 : NnC w.heap.size id (.slice av nv cv) (.slice al nl cl) W0 := by rw [hW0]; exact NnC.new w _ _ _ _
  have HC := hide (fun (W : World) (hW : Below W0.heap.size W0 W) => B0.call hW)
  have HB0 := hide hb0
  have HW0 := hide hW0.symm
  unfold nnV
  clear B0 hb0 hW0
  have HI := hide (fun W => l9Ids_calls none 0 0 [] 50 W ⟨fun i hi => by simp at hi, rfl, by omega⟩ (by decide))
  rw [show (decide (0 ≤ 50) && okIds 0 []) = true from rfl] at HI
  go_enter Tryz.func33, Tryz.ntmps33
  go_wp2_with fail
  rw [unhide HW0]
  refine (unhide HI _).mono ?_
  rintro e w1 ⟨rfl, hb1⟩
  have HB1 := hide hb1
  obtain ⟨blt, c0, c1, c2, c3, c4, c5, c6, c7, c8, c9, c10, c11, c12, c13, bfr⟩ := unhide HC _ hb1
  have hne : (0 != id) = true := by simp; omega
  clear bfr hb1
  go_wp2_with fail
  go_ret
  exact ⟨by first | rfl | (show Ending.returned (.bool (0 != id)) = _; rw [hne]), belOn (unhide HB0) (unhide HB1)⟩

end Go.Proofs.YtedbjbndddmlhaaGreatDoor
