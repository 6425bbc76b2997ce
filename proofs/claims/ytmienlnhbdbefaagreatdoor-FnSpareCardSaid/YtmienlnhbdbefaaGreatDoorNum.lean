/- Numbers in bytes: PutNumber of both programs by its contract. -/
import Derived.Test.YtmienlnhbdbefaaGreatDoorMem
namespace Go.Proofs.YtmienlnhbdbefaaGreatDoor
open Go.RowKit Plain
set_option linter.unusedVariables false

theorem l1In_calls (n lo hi : Int) (w : World) : Calls Tryz.prog 28 #[.int .i64 n, .int .i64 lo, .int .i64 hi] w fun e w' => e = .returned (.bool (decide (lo ≤ n) && decide (n ≤ hi))) ∧ w = w' := by
  by_cases h1 : lo ≤ n <;> by_cases h2 : n ≤ hi <;>
    (go_enter Tryz.func28, Tryz.ntmps28
     go_wp2
     go_ret
     exact ⟨by simp [h1, h2], rfl⟩)









end Go.Proofs.YtmienlnhbdbefaaGreatDoor
