/- Crc of the specification by its contract. -/
import Derived.Test.YtmgjkomgpkoenaaGreatMem
import Derived.Test.YtmgjkomgpkoenaaGreatCrcM
namespace Go.Proofs.YtmgjkomgpkoenaaGreat
open Go.RowKit Plain
set_option linter.unusedVariables false

set_option maxHeartbeats 1000000 in
theorem spec_Crc (s : ByteArray) (w : World) (hs : s.size ≤ 1000000000000) :
    Calls Tryz.prog 120 #[.string s] w fun e w' => e = .returned (.int .u32 (crcI s)) ∧ w = w' := by
  go_enter Tryz.func120, Tryz.ntmps120
  go_wp2_with fail
  go_loop [3, 4, 5, 6] (fun x i u v => ∃ k : Nat, i = .int .i64 k ∧ k ≤ s.size ∧ x = .int .u32 (crcAt s k)) (fun _ i _ _ => s.size - (intOf i).toNat)
  case atStart => exact ⟨0, rfl, by omega, rfl⟩
  case round =>
    obtain ⟨k, rfl, hks, rfl⟩ := hrel
    have hr := crcAt_range s k
    by_cases hlt : k < s.size
    · obtain ⟨c, hc⟩ : ∃ c, s[k].toNat = c := ⟨_, rfl⟩
      have hc256 : c < 256 := by rw [← hc]; exact s[k].toNat_lt
      have hst := hide (crcAt_succ s k c hlt hc)
      obtain ⟨X, hX⟩ : ∃ X, crcAt s k = X := ⟨_, rfl⟩
      rw [hX] at hr hst ⊢
      clear hX
      go_wp2_with fail
      obtain ⟨Y, hY⟩ : ∃ Y, bits .xor .u32 X (c : Int) = Y := ⟨_, rfl⟩
      have hyr := bits_u32_range .xor X (c : Int)
      rw [hY] at hyr ⊢
      have hst2 := hide ((unhide hst).trans (by rw [hY]))
      clear hst
      have HY := hide hY
      clear hY
      go_loop [3, 5, 6] (fun x i v => ∃ (j : Nat) (Z : Int), i = .int .i64 j ∧ j ≤ 8 ∧ x = .int .u32 Z ∧ 0 ≤ Z ∧ Z < 4294967296 ∧ Hid (stepsI (8 - j) Z = stepsI 8 Y)) (fun _ i _ => 8 - (intOf i).toNat)
      case atStart => exact ⟨0, Y, rfl, by omega, rfl, hyr.1, hyr.2, rfl⟩
      case round =>
        obtain ⟨j, Z, rfl, hj8, rfl, hz0, hz1, hrel2⟩ := hrel
        by_cases hj : j < 8
        · cases hb : (bits .and .u32 Z 1 == 1) with
          | true =>
            have hn := hide (steps_next hj (unhide hrel2))
            have he := hide (stepI_yes hb)
            have hrg := bits_u32_range .xor (Z / 2) 3988292384
            clear hrel2
            go_wp2
            go_round
            case rel => exact ⟨j + 1, _, by go_num, by omega, rfl, hrg.1, hrg.2, by rw [← unhide he]; exact hn⟩
            case measure => simp [intOf]; omega
          | false =>
            have hn := hide (steps_next hj (unhide hrel2))
            have he := hide (stepI_no hb)
            clear hrel2
            go_wp2
            go_round
            case rel => exact ⟨j + 1, _, by go_num, by omega, rfl, by omega, by omega, by rw [← unhide he]; exact hn⟩
            case measure => simp [intOf]; omega
        · obtain rfl : j = 8 := by omega
          have hfin := hide ((unhide hst2).trans (unhide hrel2).symm)
          clear hrel2 hst2
          go_wp2
          go_round
          case rel => exact ⟨k + 1, by go_num, by omega, by rw [unhide hfin]; rfl⟩
          case measure => simp [intOf]; omega
    · obtain rfl : k = s.size := by omega
      have hsg : IntKind.u32.signed = false := rfl
      go_wp2
      go_ret
      exact ⟨rfl, rfl⟩
end Go.Proofs.YtmgjkomgpkoenaaGreat
