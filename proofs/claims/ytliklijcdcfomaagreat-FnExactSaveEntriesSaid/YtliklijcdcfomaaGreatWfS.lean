/- WriteFrame of the specification by its contract. -/
import Derived.Test.YtliklijcdcfomaaGreatAzD
import Derived.Deep.DeepCutAuto
namespace Go.Proofs.YtliklijcdcfomaaGreat
open Go.RowKit Plain
set_option linter.unusedVariables false

set_option maxRecDepth 100000 in
set_option maxHeartbeats 16000000 in
theorem spec_WriteFrame (k : Int) (body : ByteArray) (w : World) (hs : body.size ≤ 1000000000000) :
    Calls Tryz.prog 66 #[.agg #[.int .i64 k, .string body]] w fun e w' => e = .returned (.string (frameB k body)) ∧ Below w.heap.size w w' := by
  unfold frameB
  by_cases h : 1 ≤ k ∧ k ≤ 100 ∧ body.size ≤ 20000
  · rw [if_pos h]
    obtain ⟨h1, h2, h3⟩ := h
    have e1 := four_size (body.size : Int)
    have e2 := one_size k
    have hcd := conv_cell k
    have hk8 : IntKind.u8.wrap k = k := by rw [IntKind.wrap_u8']; omega
    have hn32 : IntKind.u32.wrap (body.size : Int) = (body.size : Int) := by rw [IntKind.wrap_u32']; omega
    have hd : (decide (1 ≤ k) && decide (k ≤ 100)) = true := by simp; omega
    go_enter Tryz.func66, Tryz.ntmps66
    go_upto_region 3 with (go_at_call 22; refine (l1In_calls _ _ _ _).mono ?_; rintro e w' ⟨rfl, rfl⟩)
    go_cut [3] (fun s3 wx => s3 = .string (sealB k body) ∧ Below w.heap.size w wx)
    case first =>
      go_region_with (go_at_call 99; refine (spec_l2Four_at _ _ (by omega) (by omega)).mono ?_; rintro e w1 ⟨rfl, rfl⟩)
      all_goals (go_wp2_with fail; go_meet)
      all_goals exact ⟨rfl, by first | exact below_allocs2 1 | exact below_allocs2 2⟩
    case rest =>
    obtain ⟨rfl, hb1⟩ := hcut
    have hss := seal_size k body
    obtain ⟨t, ht⟩ : ∃ t, sealB k body = t := ⟨_, rfl⟩
    rw [ht] at hss ⊢
    clear hcd hk8 hn32 e1 e2
    have hcr := crcI_range t
    have e4 := four_size (crcI t)
    go_wp2_with fail
    refine (spec_Crc _ _ (by omega)).mono ?_
    rintro e w2 ⟨rfl, rfl⟩
    go_wp2_with fail
    refine (spec_l2Four _ _ hcr.1 hcr.2).mono ?_
    rintro e w3 ⟨rfl, hb3⟩
    go_wp2
    go_ret
    exact ⟨by rw [ht]; rfl, hb1.trans (hb3.mono hb1.size)⟩
  · rw [if_neg h]
    by_cases h1 : 1 ≤ k ∧ k ≤ 100
    · have hd : (decide (1 ≤ k) && decide (k ≤ 100)) = true := by simp; omega
      have h3 : 20000 < body.size := by omega
      go_enter Tryz.func66, Tryz.ntmps66
      go_wp2_with (go_at_call 22; refine (l1In_calls _ _ _ _).mono ?_; rintro e w' ⟨rfl, rfl⟩)
      go_ret
      exact ⟨rfl, (Below.refl _ _).alloc (Nat.le_refl _) _⟩
    · have hd : (decide (1 ≤ k) && decide (k ≤ 100)) = false := by simp; omega
      go_enter Tryz.func66, Tryz.ntmps66
      go_wp2_with (go_at_call 22; refine (l1In_calls _ _ _ _).mono ?_; rintro e w' ⟨rfl, rfl⟩)
      go_ret
      exact ⟨rfl, (Below.refl _ _).alloc (Nat.le_refl _) _⟩
end Go.Proofs.YtliklijcdcfomaaGreat
