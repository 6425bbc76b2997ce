/- The two programs' Rotate, each by its contract: both answer the word rotated, and change nothing. -/
import Derived.Test.YtldgkpnlplfopaaRows
import Derived.Test.YtldgkpnlplfopaaPlain
namespace Go.Proofs.Ytldgkpnlplfopaa
open Go.RowKit Plain
set_option linter.unusedVariables false





theorem spec_Rotate (x n : Int) (hx0 : 0 ≤ x) (hx1 : x < 4294967296) (w : World) :
    Calls Try.prog 55 #[.int .u32 x, .int .i64 n] w fun e w' => e = .returned (.int .u32 (rotI x n)) ∧ w = w' := by
  obtain ⟨k, hk⟩ := Int.eq_ofNat_of_zero_le (show 0 ≤ n % 32 by omega)
  have hk2 : k < 32 := by omega
  have hc : (wrap64 (n.tmod 32 + 32)).tmod 32 = (k : Int) := (specCount n).trans hk
  have hr := rot_spec x n k hx0 hx1 hk
  have HR := hide hr
  have HK := hide hk
  clear hr hk
  go_enter Try.func55, Try.ntmps55
  go_wp2
  go_ret
  exact ⟨by rw [← unhide HR]; rfl, rfl⟩

end Go.Proofs.Ytldgkpnlplfopaa
