/- Entries of a journal: whether they are right, by both programs. -/
import Derived.Test.YtiakhgafibgpgaaDoorMan
import Derived.Test.YtiakhgafibgpgaaDoorStrQ
import Derived.Deep.RegionHeld3
namespace Go.Proofs.YtiakhgafibgpgaaDoor
open Go.RowKit Plain
set_option linter.unusedVariables false

def Plain.entB (t k : Int) (b : ByteArray) : Bool := ((decide (1 ≤ t) && decide (t ≤ 1000000000000)) && (decide (0 ≤ k) && decide (k ≤ 9))) && decide (b.size ≤ 4000)
theorem Plain.entB_yes {t k : Int} {b : ByteArray} (h : entB t k b = true) : 1 ≤ t ∧ t ≤ 1000000000000 ∧ 0 ≤ k ∧ k ≤ 9 ∧ b.size ≤ 4000 := by
  unfold entB at h
  simp at h
  omega

set_option maxHeartbeats 1000000 in
theorem entryOk_calls (t k : Int) (b : ByteArray) (w : World) (hb : b.size ≤ 1000000000000) :
    Calls Tryd.prog 41 #[.agg #[.int .i64 t, .int .i64 k, .string b]] w fun e w' => e = .returned (.bool (entB t k b)) ∧ Below w.heap.size w w' := by
  obtain ⟨R, hR⟩ : ∃ R, entB t k b = R := ⟨_, rfl⟩
  rw [hR]
  unfold entB at hR
  have HR := hide hR
  clear hR
  go_enter Tryd.func41, Tryd.ntmps41
  go_wp2_with fail
  all_goals go_ret
  all_goals refine ⟨?_, bel1 _ _⟩
  all_goals (show Ending.returned (.bool _) = Ending.returned (.bool _); rw [← unhide HR]; congr 2; rw [Bool.eq_iff_iff]; simp; try omega)

set_option maxHeartbeats 1000000 in
theorem l5Entry_calls (t k : Int) (b : ByteArray) (w : World) (hb : b.size ≤ 1000000000000) :
    Calls Tryd.prog 34 #[.agg #[.int .i64 t, .int .i64 k, .string b]] w fun e w' => e = .returned (.bool (entB t k b)) ∧ Below w.heap.size w w' := by
  obtain ⟨R, hR⟩ : ∃ R, entB t k b = R := ⟨_, rfl⟩
  rw [hR]
  unfold entB at hR
  have HR := hide hR
  clear hR
  go_enter Tryd.func34, Tryd.ntmps34
  go_wp2_with (go_at_call 11; refine (l1In_calls _ _ _ _).mono ?_; rintro e w' ⟨rfl, rfl⟩)
  all_goals go_ret
  all_goals refine ⟨?_, bel1 _ _⟩
  all_goals (show Ending.returned (.bool _) = Ending.returned (.bool _); rw [← unhide HR]; congr 2; rw [Bool.eq_iff_iff]; simp; try omega)

end Go.Proofs.YtiakhgafibgpgaaDoor
