/- WriteFrame of the program by its contract. -/
import Derived.Test.YtliklijcdcfomaaGreatAzD
import Derived.Deep.DeepCutAuto
namespace Go.Proofs.YtliklijcdcfomaaGreat
open Go.RowKit Plain
set_option linter.unusedVariables false

set_option maxRecDepth 100000 in
set_option maxHeartbeats 16000000 in
theorem impl_WriteFrame (k : Int) (body : ByteArray) (w : World) (hs : body.size ≤ 1000000000000) :
    Calls Tryz.prog 83 #[.agg #[.int .i64 k, .string body]] w fun e w' => e = .returned (.string (frameB k body)) ∧ Below w.heap.size w w' := by
  unfold frameB
  by_cases h : 1 ≤ k ∧ k ≤ 100 ∧ body.size ≤ 20000
  · rw [if_pos h]
    obtain ⟨h1, h2, h3⟩ := h
    have e1 := four_size (body.size : Int)
    have e2 := one_size k
    have hcd := conv_cell k
    have hk8 : IntKind.u8.wrap k = k := by rw [IntKind.wrap_u8']; omega
    have hn32 : IntKind.u32.wrap (body.size : Int) = (body.size : Int) := by rw [IntKind.wrap_u32']; omega
    go_enter Tryz.func83, Tryz.ntmps83
    go_upto_region 3 with fail
    go_cut [3] (fun s3 wx => s3 = .string (sealB k body) ∧ Below w.heap.size w wx)
    case first =>
      go_region_with (go_at_call 111; refine (impl_lowFirst_at _ _ (by omega) (by omega)).mono ?_; rintro e w1 ⟨rfl, rfl⟩)
      all_goals (go_wp2_with fail; go_meet)
      all_goals exact ⟨rfl, by first | exact below_allocs2 1 | exact below_allocs2 2⟩
    case rest =>
    obtain ⟨rfl, hb1⟩ := hcut
    have hss := seal_size k body
    obtain ⟨t, ht⟩ : ∃ t, sealB k body = t := ⟨_, rfl⟩
    rw [ht] at hss ⊢
    clear hcd hk8 hn32 e1 e2
    have hcr := crcI_range t
    have e4 := four_size (crcI t)
    go_wp2_with fail
    refine (impl_Crc _ _ (by omega)).mono ?_
    rintro e w2 ⟨rfl, hb2⟩
    go_wp2_with fail
    refine (impl_lowFirst _ _ hcr.1 hcr.2).mono ?_
    rintro e w3 ⟨rfl, hb3⟩
    go_wp2
    go_ret
    exact ⟨by rw [ht]; rfl, (hb1.trans (hb2.mono hb1.size)).trans (hb3.mono (Nat.le_trans hb1.size hb2.size))⟩
  · rw [if_neg h]
    by_cases h1 : k < 1
    · go_enter Tryz.func83, Tryz.ntmps83
      go_wp2
      go_ret
      exact ⟨rfl, (Below.refl _ _).alloc (Nat.le_refl _) _⟩
    · by_cases h2 : 100 < k
      · go_enter Tryz.func83, Tryz.ntmps83
        go_wp2
        go_ret
        exact ⟨rfl, (Below.refl _ _).alloc (Nat.le_refl _) _⟩
      · have h3 : 20000 < body.size := by omega
        go_enter Tryz.func83, Tryz.ntmps83
        go_wp2
        go_ret
        exact ⟨rfl, (Below.refl _ _).alloc (Nat.le_refl _) _⟩
end Go.Proofs.YtliklijcdcfomaaGreat
