/- Nets, marked. -/
import Derived.Test.YtkpnnchgngcppaaMrkP
import Derived.Test.YtkpnnchgngcppaaOnlP
namespace Go.Proofs.Ytkpnnchgngcppaa
open Go.RowKit Plain
set_option linter.unusedVariables false

set_option maxRecDepth 10000 in
set_option maxHeartbeats 1000000 in
theorem markNet_calls (t : Int) (a : Option Addr) (n c : Nat) (fs : List Pkt) (w : World) (hn : fs.length = n) (hn2 : n ≤ 1048576) (h : RowAt pktE w a fs) (hin : ∀ g, inB a g → g < w.heap.size) :
    Calls Try.prog 12 #[.agg #[.int .i64 t, .slice a n c], .int .i64 1] w fun e w' => e = .returned (.int .i64 ((1 + n * 4 : Nat) : Int)) ∧ RowAt pktE w' a (mkP 1 n) ∧ OnlyP (inB a) w w' := by
  obtain ⟨W0, hW0⟩ : ∃ W0, W0 = w.alloc (.cells #[.int .i64 t, .slice a n c] 28) := ⟨_, rfl⟩
  have hb0 : Below w.heap.size w W0 := by rw [hW0]; exact bel1 _ _
  have c1 : W0.cell? ⟨w.heap.size, 1, none⟩ = some (.slice a n c) := by rw [hW0]; simp [go_sem]
  have H1 := hide (markPacketS_calls 1 a c n fs W0 (by decide) (by decide) hn (by omega) (h.below hb0))
  have HO0 := hide (OnlyP.of (p := inB a) hb0)
  have HW0 := hide hW0.symm
  clear hb0 hW0 h hin
  generalize ((1 + n * 4 : Nat) : Int) = A at H1 ⊢
  go_enter Try.func12, Try.ntmps12
  go_wp2_with fail
  rw [unhide HW0]
  refine (unhide H1).mono ?_
  rintro e w1 ⟨rfl, r1, o1⟩
  have HR1 := hide r1
  have HO1 := hide o1
  clear r1 o1 c1
  go_wp2_with fail
  go_ret
  exact ⟨rfl, unhide HR1, (unhide HO0).trans (OnlyP.row (unhide HO1) (fun g o e => ⟨o, e⟩))⟩

set_option maxRecDepth 10000 in
set_option maxHeartbeats 1000000 in
theorem heldNet_calls (t : Int) (a : Option Addr) (n c : Nat) (w : World) (hn2 : n ≤ 1048576) (h : RowAt pktE w a (mkP 1 n)) :
    Calls Try.prog 13 #[.agg #[.int .i64 t, .slice a n c], .int .i64 1] w fun e w' => e = .returned (.int .i64 ((1 + n * 4 : Nat) : Int)) ∧ Below w.heap.size w w' := by
  obtain ⟨W0, hW0⟩ : ∃ W0, W0 = w.alloc (.cells #[.int .i64 t, .slice a n c] 28) := ⟨_, rfl⟩
  have hb0 : Below w.heap.size w W0 := by rw [hW0]; exact bel1 _ _
  have c1 : W0.cell? ⟨w.heap.size, 1, none⟩ = some (.slice a n c) := by rw [hW0]; simp [go_sem]
  have H1 := hide (heldPacketS_calls 1 a c n W0 (by decide) (by decide) (by omega) (h.below hb0))
  have HB0 := hide hb0
  have HW0 := hide hW0.symm
  have s1 : ¬ ((1 + n * 4 : Nat) : Int) < 0 := by omega
  clear hb0 hW0 h
  generalize 1 + n * 4 = A at H1 s1 ⊢
  go_enter Try.func13, Try.ntmps13
  go_wp2_with fail
  rw [unhide HW0]
  refine (unhide H1).mono ?_
  rintro e w1 ⟨rfl, hb1⟩
  have HB1 := hide (belOn (unhide HB0) hb1)
  clear hb1 c1
  go_wp2_with fail
  go_ret
  exact ⟨rfl, unhide HB1⟩
end Go.Proofs.Ytkpnnchgngcppaa
