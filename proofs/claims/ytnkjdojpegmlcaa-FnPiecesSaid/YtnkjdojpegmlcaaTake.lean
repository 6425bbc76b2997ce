/- TakeNumber of the specification by its contract. -/
import Derived.Test.YtnkjdojpegmlcaaMem
namespace Go.Proofs.Ytnkjdojpegmlcaa
open Go.RowKit Plain
set_option linter.unusedVariables false

/-- What TakeNumber answers. -/
def takeV (s : ByteArray) : Value := match tkN s 0 with
  | none => .tuple #[.int .i64 0, .string ByteArray.empty, .bool false]
  | some (v, l) => .tuple #[.int .i64 v, .string (s.extract l s.size), .bool true]

theorem takeV_none {s : ByteArray} (h : tkN s 0 = none) : takeV s = .tuple #[.int .i64 0, .string ByteArray.empty, .bool false] := by unfold takeV; rw [h]
theorem takeV_some {s : ByteArray} {v l : Nat} (h : tkN s 0 = some (v, l)) : takeV s = .tuple #[.int .i64 v, .string (s.extract l s.size), .bool true] := by unfold takeV; rw [h]

set_option maxRecDepth 100000 in
set_option maxHeartbeats 4000000 in
theorem spec_TakeNumber (s : ByteArray) (w : World) (hs : s.size ≤ 1000000000000) :
    Calls Try.prog 49 #[.string s] w fun e w' => e = .returned (takeV s) ∧ ∃ k, w' = w.drewN k := by
  go_enter Try.func49, Try.ntmps49
  go_wp2
  go_loop [5, 6, 7] (fun n b i => ∃ (k N : Nat), i = .int .i64 k ∧ k ≤ 6 ∧ k ≤ s.size ∧ n = .int .i64 N ∧ N < 128 ^ k ∧ b = .int .i64 ((128 ^ k : Nat) : Int) ∧ Hid (tkGo s 0 (6 - k) k N = tkN s 0))
    (fun _ _ i => 6 - (intOf i).toNat)
  case atStart => exact ⟨0, 0, rfl, by omega, by omega, rfl, by omega, rfl, rfl⟩
  case round =>
    obtain ⟨k, N, rfl, hk6, hks, rfl, hN, rfl, hrel⟩ := hrel
    by_cases hlt : k < s.size
    · by_cases h6 : k < 6
      · obtain ⟨c, hc⟩ : ∃ c, s[k].toNat = c := ⟨_, rfl⟩
        have hc256 : c < 256 := by rw [← hc]; exact s[k].toNat_lt
        have hM0 : 128 ^ k ≤ 34359738368 := Nat.le_trans (Nat.pow_le_pow_right (by decide) (show k ≤ 5 by omega)) (by decide)
        obtain ⟨M, hM⟩ : ∃ M, 128 ^ k = M := ⟨_, rfl⟩
        have hMi : ((128 ^ k : Nat) : Int) = (M : Int) := by rw [hM]
        rw [hMi]
        rw [hM] at hN hM0
        have HM := hide hM
        clear hM hMi
        obtain ⟨P, hP⟩ : ∃ P, c % 128 * M = P := ⟨_, rfl⟩
        have hP0 : P ≤ 4398046511104 := by rw [← hP]; exact Nat.le_trans (Nat.mul_le_mul (show c % 128 ≤ 128 by omega) hM0) (by decide)
        have hPi : (c : Int) % 128 * (M : Int) = (P : Int) := by rw [← hP]; simp
        have HP := hide hP
        clear hP
        obtain ⟨f, hf⟩ : ∃ f, 6 - k = f + 1 := ⟨5 - k, by omega⟩
        have hrel' : tkGo s 0 (f + 1) k N = tkN s 0 := by rw [← hf]; exact unhide hrel
        have R := hide (tk_round (Nat.zero_add k) hlt hc (unhide HM) (unhide HP) hrel')
        have HF := hide hf
        clear hf hrel hrel'
        by_cases h1 : c < 128
        · by_cases h2 : c = 0 ∧ 0 < k
          · obtain ⟨h2a, h2b⟩ := h2
            go_wp2
            go_ret3
            exact ⟨by rw [takeV_none ((unhide R).2.1 h1 (.inl ⟨h2a, h2b⟩))]; rfl, 0, rfl⟩
          · by_cases h3 : 1000000000000 < N + P
            · have hn := (unhide R).2.1 h1 (.inr h3)
              have HN := hide hn
              clear hn
              go_wp2
              all_goals (go_ret3; exact ⟨by rw [takeV_none (unhide HN)]; rfl, 0, rfl⟩)
            · have hn := (unhide R).2.2 h1 (by omega)
              have HN := hide hn
              clear hn R
              rcases Nat.eq_zero_or_pos k with rfl | hkp
              · go_wp2
                all_goals go_region
                all_goals (try go_wp2)
                all_goals (go_ret3; exact ⟨by rw [takeV_some (unhide HN)]; rfl, 1, rfl⟩)
              · have h4 : ¬ c = 0 := by omega
                go_wp2
                all_goals go_region
                all_goals (try go_wp2)
                all_goals (go_ret3; exact ⟨by rw [takeV_some (unhide HN)]; rfl, 1, rfl⟩)
        · go_wp2
          go_round
          case rel => exact ⟨k + 1, N + P, by go_num, by omega, by omega, by go_num, pow_next (unhide HM) (unhide HP) hN, by rw [Nat.pow_succ, unhide HM]; go_num, by rw [show 6 - (k + 1) = f from by have := unhide HF; omega]; exact (unhide R).1 h1⟩
          case measure => simp [intOf]; omega
      · have hr := unhide hrel
        obtain rfl : k = 6 := by omega
        clear hrel
        go_wp2
        go_ret3
        exact ⟨by rw [takeV_none hr.symm]; rfl, 0, rfl⟩
    · have hr := unhide hrel
      rw [tkGo_end _ _ _ _ _ (by omega)] at hr
      clear hrel
      go_wp2
      go_ret3
      exact ⟨by rw [takeV_none hr.symm]; rfl, 0, rfl⟩
end Go.Proofs.Ytnkjdojpegmlcaa
