/- Numbers in bytes: PutNumber of both programs by its contract. -/
import Derived.Test.YtmgjkomgpkoenaaGreatMem
namespace Go.Proofs.YtmgjkomgpkoenaaGreat
open Go.RowKit Plain
set_option linter.unusedVariables false

theorem l1In_calls (n lo hi : Int) (w : World) : Calls Tryz.prog 39 #[.int .i64 n, .int .i64 lo, .int .i64 hi] w fun e w' => e = .returned (.bool (decide (lo ≤ n) && decide (n ≤ hi))) ∧ w = w' := by
  by_cases h1 : lo ≤ n <;> by_cases h2 : n ≤ hi <;>
    (go_enter Tryz.func39, Tryz.ntmps39
     go_wp2
     go_ret
     exact ⟨by simp [h1, h2], rfl⟩)


set_option maxRecDepth 100000 in
set_option maxHeartbeats 800000 in
theorem impl_PutNumber_in (n : Int) (w : World) (h0 : 0 ≤ n) (h1 : n ≤ 1000000000000) :
    Calls Tryz.prog 98 #[.int .i64 n] w fun e w' => e = .returned (.string (strOfNums (putL 5 n.toNat))) ∧ Below w.heap.size w w' := by
  obtain ⟨N, rfl⟩ := Int.eq_ofNat_of_zero_le h0
  rw [Int.toNat_natCast]
  have hN : N ≤ 1000000000000 := by omega
  go_enter Tryz.func98, Tryz.ntmps98
  go_wp2
  go_loopw [0, 3] (fun i v wr => ∃ (m f : Nat) (done : List Int), i = .int .i64 m ∧ m ≤ N ∧ m < 128 ^ (f + 1) ∧ done.length + f = 5 ∧ Hid (done ++ putL f m = putL 5 N) ∧
      OwnB wr w.heap.size v done ∧ Below w.heap.size w wr)
    (fun i _ _ => (intOf i).toNat)
  case atStart => exact ⟨N, 5, [], rfl, Nat.le_refl _, by omega, rfl, rfl, ownB_nil _ _, Below.refl _ _⟩
  case round =>
    obtain ⟨m, f, done, rfl, hmN, hmf, hdf, hrel, hown, hbel⟩ := hrel
    have hsz := hbel.size
    by_cases hlt : m < 128
    · go_wp2_with (at_builtin; go_must (refine app1 rfl _ _ rfl hown rfl rfl (by omega) hsz ?_); intro v' w1 hown1 hg1 hb1; have hcv := conv_ownB w1 _ v' _ hown1)
      go_ret
      have hb := hbel.trans hb1
      have hr := unhide hrel
      rw [putL_small f m hlt] at hr
      exact ⟨by rw [← hr]; rfl, hb⟩
    · have hlt2 : 128 ≤ m := by omega
      go_wp2_with (at_builtin; go_must (refine app1 rfl _ _ rfl hown rfl rfl (by omega) hsz ?_); intro v' w1 hown1 hg1 hb1)
      obtain ⟨f', hf', hmf', hrel'⟩ := put_round f m _ done (unhide hrel) hlt hmf
      go_roundw
      case rel => exact ⟨m / 128, f', _, by go_num, by omega, hmf', by simp; omega, hrel', hown1, hbel.trans hb1⟩
      case measure => simp [intOf]; omega

set_option maxRecDepth 100000 in
set_option maxHeartbeats 800000 in
theorem spec_PutNumber_in (n : Int) (w : World) (h0 : 0 ≤ n) (h1 : n ≤ 1000000000000) :
    Calls Tryz.prog 91 #[.int .i64 n] w fun e w' => e = .returned (.string (strOfNums (putL 5 n.toNat))) ∧ Below w.heap.size w w' := by
  obtain ⟨N, rfl⟩ := Int.eq_ofNat_of_zero_le h0
  rw [Int.toNat_natCast]
  have hN : N ≤ 1000000000000 := by omega
  go_enter Tryz.func91, Tryz.ntmps91
  have hd : (decide ((0 : Int) ≤ N) && decide ((N : Int) ≤ 1000000000000)) = true := by simp; omega
  go_wp2_with (go_at_call 39; refine (l1In_calls _ _ _ _).mono ?_; rintro e w' ⟨rfl, rfl⟩)
  go_loopw [0, 3] (fun i v wr => ∃ (m f : Nat) (done : List Int), i = .int .i64 m ∧ m ≤ N ∧ m < 128 ^ (f + 1) ∧ done.length + f = 5 ∧ Hid (done ++ putL f m = putL 5 N) ∧
      OwnB wr w.heap.size v done ∧ Below w.heap.size w wr)
    (fun i _ _ => (intOf i).toNat)
  case atStart => exact ⟨N, 5, [], rfl, Nat.le_refl _, by omega, rfl, rfl, ownB_empty _ _ (Nat.le_refl _), (Below.refl _ _).alloc (Nat.le_refl _) _⟩
  case round =>
    obtain ⟨m, f, done, rfl, hmN, hmf, hdf, hrel, hown, hbel⟩ := hrel
    have hsz := hbel.size
    by_cases hlt : m < 128
    · go_wp2_with (at_builtin; go_must (refine app1 rfl _ _ rfl hown rfl rfl (by omega) hsz ?_); intro v' w1 hown1 hg1 hb1; have hcv := conv_ownB w1 _ v' _ hown1)
      go_ret
      have hb := hbel.trans hb1
      have hr := unhide hrel
      rw [putL_small f m hlt] at hr
      exact ⟨by rw [← hr]; rfl, hb⟩
    · have hlt2 : 128 ≤ m := by omega
      go_wp2_with (at_builtin; go_must (refine app1 rfl _ _ rfl hown rfl rfl (by omega) hsz ?_); intro v' w1 hown1 hg1 hb1)
      obtain ⟨f', hf', hmf', hrel'⟩ := put_round f m _ done (unhide hrel) hlt hmf
      go_roundw
      case rel => exact ⟨m / 128, f', _, by go_num, by omega, hmf', by simp; omega, hrel', hown1, hbel.trans hb1⟩
      case measure => simp [intOf]; omega

theorem impl_PutNumber (n : Int) (w : World) :
    Calls Tryz.prog 98 #[.int .i64 n] w fun e w' => e = .returned (.string (putS n)) ∧ Below w.heap.size w w' := by
  unfold putS
  by_cases h0 : 0 ≤ n
  · by_cases h1 : n ≤ 1000000000000
    · rw [if_pos ⟨h0, h1⟩]; exact impl_PutNumber_in n w h0 h1
    · rw [if_neg (by omega)]
      go_enter Tryz.func98, Tryz.ntmps98
      go_wp2
      go_ret
      exact ⟨rfl, Below.refl _ _⟩
  · rw [if_neg (by omega)]
    have hlt : n < 0 := by omega
    go_enter Tryz.func98, Tryz.ntmps98
    go_wp2
    go_ret
    exact ⟨rfl, Below.refl _ _⟩

theorem spec_PutNumber (n : Int) (w : World) :
    Calls Tryz.prog 91 #[.int .i64 n] w fun e w' => e = .returned (.string (putS n)) ∧ Below w.heap.size w w' := by
  unfold putS
  by_cases h : 0 ≤ n ∧ n ≤ 1000000000000
  · rw [if_pos h]; exact spec_PutNumber_in n w h.1 h.2
  · rw [if_neg h]
    have hd : (decide (0 ≤ n) && decide (n ≤ 1000000000000)) = false := by simp; omega
    go_enter Tryz.func91, Tryz.ntmps91
    go_wp2_with (go_at_call 39; refine (l1In_calls _ _ _ _).mono ?_; rintro e w' ⟨rfl, rfl⟩)
    go_ret
    exact ⟨rfl, Below.refl _ _⟩

end Go.Proofs.YtmgjkomgpkoenaaGreat
