/- TagOk of both programs by its contract. -/
import Derived.Test.YtnkjdojpegmlcaaDoorLow
namespace Go.Proofs.YtnkjdojpegmlcaaDoor
open Go.RowKit Plain
set_option linter.unusedVariables false

namespace Plain
theorem tagI_yes {n : Int} (h : lowI n = true ∨ 65 ≤ n ∧ n ≤ 90 ∨ n = 95 ∨ n = 46 ∨ n = 45) : tagI n = true := by
  unfold tagI
  rcases h with h | h | h | h | h <;> simp [h]
theorem tagI_no {n : Int} (h : lowI n = false) (h2 : ¬ (65 ≤ n ∧ n ≤ 90)) (h3 : ¬ n = 95) (h4 : ¬ n = 46) (h5 : ¬ n = 45) : tagI n = false := by
  unfold tagI
  rw [h]
  simp [h3, h4, h5]
  omega
end Plain

theorem impl_tagByte (n : Int) (w : World) (h0 : 0 ≤ n) (h1 : n ≤ 255) :
    Calls Tryd.prog 50 #[.int .u8 n] w fun e w' => e = .returned (.bool (tagI n)) ∧ w = w' := by
  cases hl : lowI n with
  | true =>
    rw [tagI_yes (.inl hl)]
    have HL := hide hl
    clear hl
    go_enter Tryd.func50, Tryd.ntmps50
    go_wp2_with (go_at_call 58; refine (impl_low _ _ (by omega) (by omega)).mono ?_; rintro e w' ⟨rfl, rfl⟩; rw [unhide HL])
    go_ret
    exact ⟨rfl, rfl⟩
  | false =>
    have HL := hide hl
    clear hl
    go_enter Tryd.func50, Tryd.ntmps50
    go_wp2_with (go_at_call 58; refine (impl_low _ _ (by omega) (by omega)).mono ?_; rintro e w' ⟨rfl, rfl⟩; rw [unhide HL])
    all_goals
      go_ret
      refine ⟨?_, rfl⟩
      first
        | exact ret_bool (tagI_yes (by omega)).symm
        | exact ret_bool (tagI_no (unhide HL) (by omega) (by omega) (by omega) (by omega)).symm
        | exact ret_bool (by unfold tagI; rw [unhide HL, Bool.eq_iff_iff]; simp; omega)

set_option maxHeartbeats 1000000 in
theorem impl_TagOk (s : ByteArray) (w : World) (hs : s.size ≤ 1000000000000) :
    Calls Tryd.prog 32 #[.string s] w fun e w' => e = .returned (.bool (tagB s)) ∧ w = w' := by
  by_cases h1 : s.size < 1
  · rw [tagB_size (.inl h1)]
    go_enter Tryd.func32, Tryd.ntmps32
    go_wp2
    go_ret
    exact ⟨rfl, rfl⟩
  · by_cases h2 : 128 < s.size
    · rw [tagB_size (.inr h2)]
      go_enter Tryd.func32, Tryd.ntmps32
      go_wp2
      go_ret
      exact ⟨rfl, rfl⟩
    · have hz : 0 < s.size := by omega
      obtain ⟨c, hc⟩ : ∃ c, s[0].toNat = c := ⟨_, rfl⟩
      have hc256 : c < 256 := by rw [← hc]; exact s[0].toNat_lt
      by_cases h3 : c = 46
      · rw [tagB_first hz (.inl (hc.trans h3))]
        subst h3
        go_enter Tryd.func32, Tryd.ntmps32
        go_wp2
        go_ret
        exact ⟨rfl, rfl⟩
      · by_cases h4 : c = 45
        · rw [tagB_first hz (.inr (hc.trans h4))]
          subst h4
          go_enter Tryd.func32, Tryd.ntmps32
          go_wp2
          go_ret
          exact ⟨rfl, rfl⟩
        · rw [tagB_rest (by omega) (by omega) (by omega) (by omega)]
          have h3i : ((c : Int) == 46) = false := by simp; omega
          have h4i : ((c : Int) == 45) = false := by simp; omega
          go_enter Tryd.func32, Tryd.ntmps32
          go_wp2_with fail
          clear h3 h4 h3i h4i hc hc256
          go_loop [24] (fun i => ∃ k : Nat, i = .int .i64 k ∧ k ≤ s.size ∧ Hid (tagFrom s k = tagFrom s 0)) (fun i => s.size - (intOf i).toNat)
          case atStart => exact ⟨0, rfl, by omega, rfl⟩
          case round =>
            obtain ⟨k, rfl, hk, hrel⟩ := hrel
            by_cases hlt : k < s.size
            · obtain ⟨c, hc⟩ : ∃ c, s[k].toNat = c := ⟨_, rfl⟩
              have hc256 : c < 256 := by rw [← hc]; exact s[k].toNat_lt
              have hst := tagFrom_step s k hlt
              rw [hc, ← tagI_nat] at hst
              cases ht : tagI (c : Int) with
              | false =>
                have hres := hide ((unhide hrel).symm.trans (by rw [hst, ht]; rfl) : tagFrom s 0 = false)
                have HT := hide ht
                clear hst hrel ht
                go_wp2_with (go_at_call 50; refine (impl_tagByte _ _ (by omega) (by omega)).mono ?_; rintro e w' ⟨rfl, rfl⟩; rw [unhide HT])
                go_ret
                exact ⟨by rw [unhide hres]; rfl, rfl⟩
              | true =>
                have hres := hide ((by rw [hst, ht]; rfl : tagFrom s (k + 1) = tagFrom s k).trans (unhide hrel))
                have HT := hide ht
                clear hst hrel ht
                go_wp2_with (go_at_call 50; refine (impl_tagByte _ _ (by omega) (by omega)).mono ?_; rintro e w' ⟨rfl, rfl⟩; rw [unhide HT])
                go_round
                case rel => exact ⟨k + 1, by go_num, by omega, hres⟩
                case measure => simp [intOf]; omega
            · have hres := hide ((unhide hrel).symm.trans (tagFrom_end s k (by omega)))
              clear hrel
              go_wp2
              go_ret
              exact ⟨by rw [unhide hres]; rfl, rfl⟩

set_option maxHeartbeats 1000000 in
theorem spec_TagOk (s : ByteArray) (w : World) (hs : s.size ≤ 1000000000000) :
    Calls Tryd.prog 28 #[.string s] w fun e w' => e = .returned (.bool (tagB s)) ∧ w = w' := by
  by_cases h1 : s.size < 1
  · rw [tagB_size (.inl h1)]
    go_enter Tryd.func28, Tryd.ntmps28
    go_wp2
    go_ret
    exact ⟨rfl, rfl⟩
  · by_cases h2 : 128 < s.size
    · rw [tagB_size (.inr h2)]
      go_enter Tryd.func28, Tryd.ntmps28
      go_wp2
      go_ret
      exact ⟨rfl, rfl⟩
    · have hz : 0 < s.size := by omega
      obtain ⟨c, hc⟩ : ∃ c, s[0].toNat = c := ⟨_, rfl⟩
      have hc256 : c < 256 := by rw [← hc]; exact s[0].toNat_lt
      by_cases h3 : c = 46
      · rw [tagB_first hz (.inl (hc.trans h3))]
        subst h3
        go_enter Tryd.func28, Tryd.ntmps28
        go_wp2
        go_ret
        exact ⟨rfl, rfl⟩
      · by_cases h4 : c = 45
        · rw [tagB_first hz (.inr (hc.trans h4))]
          subst h4
          go_enter Tryd.func28, Tryd.ntmps28
          go_wp2
          go_ret
          exact ⟨rfl, rfl⟩
        · rw [tagB_rest (by omega) (by omega) (by omega) (by omega)]
          have h3i : ((c : Int) == 46) = false := by simp; omega
          have h4i : ((c : Int) == 45) = false := by simp; omega
          go_enter Tryd.func28, Tryd.ntmps28
          go_wp2_with fail
          clear h3 h4 h3i h4i hc hc256
          go_loop [3] (fun i => ∃ k : Nat, i = .int .i64 k ∧ k ≤ s.size ∧ Hid (tagFrom s k = tagFrom s 0)) (fun i => s.size - (intOf i).toNat)
          case atStart => exact ⟨0, rfl, by omega, rfl⟩
          case round =>
            obtain ⟨k, rfl, hk, hrel⟩ := hrel
            by_cases hlt : k < s.size
            · obtain ⟨c, hc⟩ : ∃ c, s[k].toNat = c := ⟨_, rfl⟩
              have hc256 : c < 256 := by rw [← hc]; exact s[k].toNat_lt
              have hst := tagFrom_step s k hlt
              rw [hc, ← tagI_nat] at hst
              have HST := hide hst
              clear hst
              cases hl : lowI (c : Int) with
              | true =>
                have hres := hide ((by rw [unhide HST, tagI_yes (.inl hl)]; rfl : tagFrom s (k + 1) = tagFrom s k).trans (unhide hrel))
                have HL := hide hl
                clear HST hrel hl
                go_wp2_with (go_at_call 43; refine (spec_low _ _ (by omega) (by omega)).mono ?_; rintro e w' ⟨rfl, rfl⟩; rw [unhide HL])
                go_round
                case rel => exact ⟨k + 1, by go_num, by omega, hres⟩
                case measure => simp [intOf]; omega
              | false =>
                have HL := hide hl
                clear hl
                have hyes : (65 ≤ c ∧ c ≤ 90 ∨ c = 95 ∨ c = 46 ∨ c = 45) → tagFrom s (k + 1) = tagFrom s 0 := fun h =>
                  (by rw [unhide HST, tagI_yes (by omega)]; rfl : tagFrom s (k + 1) = tagFrom s k).trans (unhide hrel)
                have hno : ¬ (65 ≤ c ∧ c ≤ 90 ∨ c = 95 ∨ c = 46 ∨ c = 45) → tagFrom s 0 = false := fun h => by
                  rw [← unhide hrel, unhide HST, tagI_no (unhide HL) (by omega) (by omega) (by omega) (by omega)]; rfl
                have HY := hide hyes
                have HN := hide hno
                clear hyes hno HST hrel
                rcases (show (65 ≤ c ∧ c ≤ 90) ∨ c = 95 ∨ c = 46 ∨ c = 45 ∨ (c < 65 ∧ c ≠ 95 ∧ c ≠ 46 ∧ c ≠ 45) ∨ (90 < c ∧ c ≠ 95 ∧ c ≠ 46 ∧ c ≠ 45) from by omega) with hh | hh | hh | hh | hh | hh
                · have a1 : 65 ≤ c := hh.1
                  have a2 : c ≤ 90 := hh.2
                  have HR := hide (unhide HY (.inl hh))
                  clear hh HY HN
                  go_wp2_with (go_at_call 43; refine (spec_low _ _ (by omega) (by omega)).mono ?_; rintro e w' ⟨rfl, rfl⟩; rw [unhide HL])
                  go_round
                  case rel => exact ⟨k + 1, by go_num, by omega, HR⟩
                  case measure => simp [intOf]; omega
                · subst hh
                  have HR := hide (unhide HY (by omega))
                  clear HY HN
                  go_wp2_with (go_at_call 43; refine (spec_low _ _ (by omega) (by omega)).mono ?_; rintro e w' ⟨rfl, rfl⟩; rw [show lowI 95 = false from rfl])
                  go_round
                  case rel => exact ⟨k + 1, by go_num, by omega, HR⟩
                  case measure => simp [intOf]; omega
                · subst hh
                  have HR := hide (unhide HY (by omega))
                  clear HY HN
                  go_wp2_with (go_at_call 43; refine (spec_low _ _ (by omega) (by omega)).mono ?_; rintro e w' ⟨rfl, rfl⟩; rw [show lowI 46 = false from rfl])
                  go_round
                  case rel => exact ⟨k + 1, by go_num, by omega, HR⟩
                  case measure => simp [intOf]; omega
                · subst hh
                  have HR := hide (unhide HY (by omega))
                  clear HY HN
                  go_wp2_with (go_at_call 43; refine (spec_low _ _ (by omega) (by omega)).mono ?_; rintro e w' ⟨rfl, rfl⟩; rw [show lowI 45 = false from rfl])
                  go_round
                  case rel => exact ⟨k + 1, by go_num, by omega, HR⟩
                  case measure => simp [intOf]; omega
                all_goals
                  have HR := hide (unhide HN (by omega))
                  clear HY HN
                  have q1 := hh.1
                  have n1 : ((c : Int) != 95) = true := by simp; omega
                  have n2 : ((c : Int) != 46) = true := by simp; omega
                  have n3 : ((c : Int) != 45) = true := by simp; omega
                  clear hh
                  go_wp2_with (go_at_call 43; refine (spec_low _ _ (by omega) (by omega)).mono ?_; rintro e w' ⟨rfl, rfl⟩; rw [unhide HL])
                  go_ret
                  exact ⟨by rw [unhide HR]; rfl, rfl⟩
            · have hres := hide ((unhide hrel).symm.trans (tagFrom_end s k (by omega)))
              clear hrel
              go_wp2
              go_ret
              exact ⟨by rw [unhide hres]; rfl, rfl⟩
end Go.Proofs.YtnkjdojpegmlcaaDoor
