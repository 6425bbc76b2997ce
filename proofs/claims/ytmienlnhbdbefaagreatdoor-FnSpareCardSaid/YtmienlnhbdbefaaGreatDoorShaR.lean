/- One round, and a word of four bytes, of the program. -/
import Derived.Test.YtmienlnhbdbefaaGreatDoorRot
import Derived.Test.YtmienlnhbdbefaaGreatDoorShaM
import Derived.Deep.RegionHeld3
import Derived.Laws.Rows
import Derived.Laws.Tables
import Derived.WalkSmall
namespace Go.Proofs.YtmienlnhbdbefaaGreatDoor
open Go.RowKit Plain
set_option linter.unusedVariables false

set_option maxHeartbeats 1000000 in
theorem round_calls (a b c d e f g h x : Int) (w : World) (ha : Word a) (he : Word e) :
    Calls Tryz.prog 104 #[.agg #[.int .u32 a, .int .u32 b, .int .u32 c, .int .u32 d, .int .u32 e, .int .u32 f, .int .u32 g, .int .u32 h], .int .u32 x] w fun r w' =>
      r = .returned (.agg #[.int .u32 (rnd0 a b c d e f g h x), .int .u32 a, .int .u32 b, .int .u32 c, .int .u32 (rnd4 a b c d e f g h x), .int .u32 e, .int .u32 f, .int .u32 g]) ∧ Below w.heap.size w w' := by
  obtain ⟨ha0, ha1⟩ := ha
  obtain ⟨he0, he1⟩ := he
  have hsg : IntKind.u32.signed = false := rfl
  go_enter Tryz.func104, Tryz.ntmps104
  go_wp2
  go_region_held3 (fun w' => w'.cell? ⟨w.heap.size, 0, none⟩ = some (.int .u32 a) ∧ w'.cell? ⟨w.heap.size, 1, none⟩ = some (.int .u32 b) ∧ w'.cell? ⟨w.heap.size, 2, none⟩ = some (.int .u32 c) ∧ w'.cell? ⟨w.heap.size, 3, none⟩ = some (.int .u32 d) ∧ w'.cell? ⟨w.heap.size, 4, none⟩ = some (.int .u32 e) ∧ w'.cell? ⟨w.heap.size, 5, none⟩ = some (.int .u32 f) ∧ w'.cell? ⟨w.heap.size, 6, none⟩ = some (.int .u32 g) ∧ w'.cell? ⟨w.heap.size, 7, none⟩ = some (.int .u32 h)) (go_keep) (fail)
  go_wp2_with (go_at_call 111; refine (impl_Rotate _ _ (by omega) (by omega) _).mono ?_; rintro e w' ⟨rfl, rfl⟩)
  refine bodyPost_ret (v := .agg #[.int .u32 (rnd0 a b c d e f g h x), .int .u32 a, .int .u32 b, .int .u32 c, .int .u32 (rnd4 a b c d e f g h x), .int .u32 e, .int .u32 f, .int .u32 g]) ?_ rfl ⟨rfl, ?_⟩
  · simp [results, Tryz.results104, go_sem, rnd0, rnd4, bS1, bS0, chI, majI]
  · exact below_drewN (((Below.refl _ _).alloc (Nat.le_refl _) _).alloc (by simp) _) 1

theorem highFirst_calls (a b c d : Int) (w : World) (ha : 0 ≤ a ∧ a < 256) (hb : 0 ≤ b ∧ b < 256) (hc : 0 ≤ c ∧ c < 256) (hd : 0 ≤ d ∧ d < 256) :
    Calls Tryz.prog 110 #[.int .u8 a, .int .u8 b, .int .u8 c, .int .u8 d] w fun r w' => r = .returned (.int .u32 (hiI a b c d)) ∧ w = w' := by
  obtain ⟨a0, a1⟩ := ha
  obtain ⟨b0, b1⟩ := hb
  obtain ⟨c0, c1⟩ := hc
  obtain ⟨d0, d1⟩ := hd
  go_enter Tryz.func110, Tryz.ntmps110
  go_wp2
  go_ret
  exact ⟨rfl, rfl⟩
end Go.Proofs.YtmienlnhbdbefaaGreatDoor
