/- The two programs' Rotate, each by its contract: both answer the word rotated, and change nothing. -/
import Derived.Test.YtldgkpnlplfopaaGreatDoorRows
import Derived.Test.YtldgkpnlplfopaaGreatDoorPlain
namespace Go.Proofs.YtldgkpnlplfopaaGreatDoor
open Go.RowKit Plain
set_option linter.unusedVariables false

theorem rotLeft (x k : Int) (s : Nat) (hx0 : 0 ≤ x) (hx1 : x < 4294967296) (hs : bits .and .u64 (IntKind.u64.wrap k) 31 = (s : Int)) (hs2 : s < 32) (w : World) :
    Calls Tryz.prog 111 #[.int .u32 x, .int .i64 k] w fun e w' => e = .returned (.int .u32 (bits .or .u32 (x * 2 ^ s % 4294967296) (x / 2 ^ (32 - s)))) ∧ w = w' := by
  go_enter Tryz.func111, Tryz.ntmps111
  go_wp2
  go_ret
  exact ⟨rfl, rfl⟩

theorem impl_Rotate (x n : Int) (hx0 : 0 ≤ x) (hx1 : x < 4294967296) (w : World) :
    Calls Tryz.prog 110 #[.int .u32 x, .int .i64 n] w fun e w' => e = .returned (.int .u32 (rotI x n)) ∧ w = w' := by
  obtain ⟨k, hk⟩ := Int.eq_ofNat_of_zero_le (show 0 ≤ n % 32 by omega)
  have hk2 : k < 32 := by omega
  have ha : bits .and .i64 n 31 = (k : Int) := (and31 n).trans hk
  have hr := rot_impl x n k ((32 - k) % 32) hx0 hx1 hk rfl
  have HR := hide hr
  have HK := hide hk
  clear hr hk
  go_enter Tryz.func110, Tryz.ntmps110
  go_wp2_with fail
  refine (rotLeft x (-k) ((32 - k) % 32) hx0 hx1 ?_ (by omega) _).mono ?_
  · rw [and31u]; omega
  rintro e w' ⟨rfl, rfl⟩
  go_wp2
  go_ret
  exact ⟨by rw [← unhide HR]; rfl, rfl⟩

theorem spec_Rotate (x n : Int) (hx0 : 0 ≤ x) (hx1 : x < 4294967296) (w : World) :
    Calls Tryz.prog 77 #[.int .u32 x, .int .i64 n] w fun e w' => e = .returned (.int .u32 (rotI x n)) ∧ w = w' := by
  obtain ⟨k, hk⟩ := Int.eq_ofNat_of_zero_le (show 0 ≤ n % 32 by omega)
  have hk2 : k < 32 := by omega
  have hc : (wrap64 (n.tmod 32 + 32)).tmod 32 = (k : Int) := (specCount n).trans hk
  have hr := rot_spec x n k hx0 hx1 hk
  have HR := hide hr
  have HK := hide hk
  clear hr hk
  go_enter Tryz.func77, Tryz.ntmps77
  go_wp2
  go_ret
  exact ⟨by rw [← unhide HR]; rfl, rfl⟩

end Go.Proofs.YtldgkpnlplfopaaGreatDoor
