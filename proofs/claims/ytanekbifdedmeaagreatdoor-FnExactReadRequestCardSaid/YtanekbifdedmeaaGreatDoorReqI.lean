/- The program's checks of texts: kinds of bytes, lengths. -/
import Derived.Test.YtanekbifdedmeaaGreatDoorReqM
import Derived.Test.YtanekbifdedmeaaGreatDoorGAD
namespace Go.Proofs.YtanekbifdedmeaaGreatDoor
open Go.RowKit Plain
set_option linter.unusedVariables false

/-- A function of bytes that answers by p. -/
def Plain.KindAt (K : FuncId) (p : Nat → Bool) : Prop := ∀ (c : Nat) (w : World), c < 256 → Calls Tryz.prog K #[.int .u8 c] w fun e w' => e = .returned (.bool (p c)) ∧ w = w'

theorem Plain.retB {a b : Bool} (h : a = b) : Ending.returned (Value.bool a) = .returned (.bool b) := by rw [h]

theorem cap_kind : KindAt 69 capC := by
  intro c w hc
  go_enter Tryz.func69, Tryz.ntmps69
  go_wp2
  all_goals
    go_ret
    refine ⟨retB ?_, rfl⟩
    unfold capC
    rw [Bool.eq_iff_iff]
    simp
    omega

theorem vis_kind : KindAt 106 visC := by
  intro c w hc
  go_enter Tryz.func106, Tryz.ntmps106
  go_wp2
  all_goals
    go_ret
    refine ⟨retB ?_, rfl⟩
    unfold visC
    rw [Bool.eq_iff_iff]
    simp
    omega

theorem nme_kind : KindAt 110 nmeC := by
  intro c w hc
  go_enter Tryz.func110, Tryz.ntmps110
  go_wp2
  all_goals
    go_ret
    refine ⟨retB ?_, rfl⟩
    unfold nmeC
    rw [Bool.eq_iff_iff]
    simp
    omega

theorem pth_kind : KindAt 71 pthC := by
  intro c w hc
  cases hv : visC c with
  | _ =>
    have HV := hide hv
    clear hv
    go_enter Tryz.func71, Tryz.ntmps71
    go_wp2_with (go_at_call 106; refine (vis_kind _ _ hc).mono ?_; rintro e w' ⟨rfl, rfl⟩; rw [unhide HV])
    all_goals
      go_ret
      refine ⟨retB ?_, rfl⟩
      unfold pthC
      rw [unhide HV, Bool.eq_iff_iff]
      simp
      try omega

theorem qry_kind : KindAt 109 qryC := by
  intro c w hc
  cases hv : visC c with
  | _ =>
    have HV := hide hv
    clear hv
    go_enter Tryz.func109, Tryz.ntmps109
    go_wp2_with (go_at_call 106; refine (vis_kind _ _ hc).mono ?_; rintro e w' ⟨rfl, rfl⟩; rw [unhide HV])
    all_goals
      go_ret
      refine ⟨retB ?_, rfl⟩
      unfold qryC
      rw [unhide HV, Bool.eq_iff_iff]
      simp
      try omega

theorem val_kind : KindAt 111 valC := by
  intro c w hc
  cases hv : visC c with
  | _ =>
    have HV := hide hv
    clear hv
    go_enter Tryz.func111, Tryz.ntmps111
    go_wp2_with (go_at_call 106; refine (vis_kind _ _ hc).mono ?_; rintro e w' ⟨rfl, rfl⟩; rw [unhide HV])
    all_goals
      go_ret
      refine ⟨retB ?_, rfl⟩
      unfold valC
      rw [unhide HV, Bool.eq_iff_iff]
      simp
      try omega

set_option maxRecDepth 10000 in
set_option maxHeartbeats 1000000 in
theorem textOk_cap (s : ByteArray) (lo hi : Nat) (w : World) (hs : s.size ≤ 1000000000000) (h1 : lo ≤ 1000) (h2 : hi ≤ 1000) :
    Calls Tryz.prog 68 #[.string s, .int .i64 lo, .int .i64 hi, .func (.func 69) #[] #[]] w fun e w' => e = .returned (.bool (texB lo hi capC s)) ∧ w = w' := by
  have HK := hide cap_kind
  by_cases ha : s.size < lo
  · rw [texB_no (.inl ha)]
    go_enter Tryz.func68, Tryz.ntmps68
    go_wp2
    go_ret
    exact ⟨rfl, rfl⟩
  by_cases hb : hi < s.size
  · rw [texB_no (.inr hb)]
    go_enter Tryz.func68, Tryz.ntmps68
    go_wp2
    go_ret
    exact ⟨rfl, rfl⟩
  rw [texB_yes (by omega) (by omega)]
  go_enter Tryz.func68, Tryz.ntmps68
  go_wp2_with fail
  go_loop [22] (fun i => ∃ k : Nat, i = .int .i64 k ∧ k ≤ s.size ∧ Hid (allF capC s k = allF capC s 0)) (fun i => s.size - (intOf i).toNat)
  case atStart => exact ⟨0, rfl, by omega, rfl⟩
  case round =>
    obtain ⟨k, rfl, hk, hrel⟩ := hrel
    by_cases hlt : k < s.size
    · obtain ⟨c, hc⟩ : ∃ c, s[k].toNat = c := ⟨_, rfl⟩
      have hc256 : c < 256 := by rw [← hc]; exact s[k].toNat_lt
      have hst := allF_step capC s k hlt
      rw [hc] at hst
      cases ht : capC c with
      | false =>
        have hres := hide ((unhide hrel).symm.trans (by rw [hst, ht]; rfl) : allF capC s 0 = false)
        have HT := hide ht
        clear hst hrel ht
        go_wp2_with (go_at_call 69; refine (unhide HK c _ hc256).mono ?_; rintro e w' ⟨rfl, rfl⟩; rw [unhide HT])
        go_ret
        exact ⟨by rw [unhide hres]; rfl, rfl⟩
      | true =>
        have hres := hide ((by rw [hst, ht]; rfl : allF capC s (k + 1) = allF capC s k).trans (unhide hrel))
        have HT := hide ht
        clear hst hrel ht
        go_wp2_with (go_at_call 69; refine (unhide HK c _ hc256).mono ?_; rintro e w' ⟨rfl, rfl⟩; rw [unhide HT])
        go_round
        case rel => exact ⟨k + 1, by go_num, by omega, hres⟩
        case measure => simp [intOf]; omega
    · have hres := hide ((unhide hrel).symm.trans (allF_end capC s k (by omega)))
      clear hrel
      go_wp2
      go_ret
      exact ⟨by rw [unhide hres]; rfl, rfl⟩
set_option maxRecDepth 10000 in
set_option maxHeartbeats 1000000 in
theorem textOk_pth (s : ByteArray) (lo hi : Nat) (w : World) (hs : s.size ≤ 1000000000000) (h1 : lo ≤ 1000) (h2 : hi ≤ 1000) :
    Calls Tryz.prog 68 #[.string s, .int .i64 lo, .int .i64 hi, .func (.func 71) #[] #[]] w fun e w' => e = .returned (.bool (texB lo hi pthC s)) ∧ w = w' := by
  have HK := hide pth_kind
  by_cases ha : s.size < lo
  · rw [texB_no (.inl ha)]
    go_enter Tryz.func68, Tryz.ntmps68
    go_wp2
    go_ret
    exact ⟨rfl, rfl⟩
  by_cases hb : hi < s.size
  · rw [texB_no (.inr hb)]
    go_enter Tryz.func68, Tryz.ntmps68
    go_wp2
    go_ret
    exact ⟨rfl, rfl⟩
  rw [texB_yes (by omega) (by omega)]
  go_enter Tryz.func68, Tryz.ntmps68
  go_wp2_with fail
  go_loop [22] (fun i => ∃ k : Nat, i = .int .i64 k ∧ k ≤ s.size ∧ Hid (allF pthC s k = allF pthC s 0)) (fun i => s.size - (intOf i).toNat)
  case atStart => exact ⟨0, rfl, by omega, rfl⟩
  case round =>
    obtain ⟨k, rfl, hk, hrel⟩ := hrel
    by_cases hlt : k < s.size
    · obtain ⟨c, hc⟩ : ∃ c, s[k].toNat = c := ⟨_, rfl⟩
      have hc256 : c < 256 := by rw [← hc]; exact s[k].toNat_lt
      have hst := allF_step pthC s k hlt
      rw [hc] at hst
      cases ht : pthC c with
      | false =>
        have hres := hide ((unhide hrel).symm.trans (by rw [hst, ht]; rfl) : allF pthC s 0 = false)
        have HT := hide ht
        clear hst hrel ht
        go_wp2_with (go_at_call 71; refine (unhide HK c _ hc256).mono ?_; rintro e w' ⟨rfl, rfl⟩; rw [unhide HT])
        go_ret
        exact ⟨by rw [unhide hres]; rfl, rfl⟩
      | true =>
        have hres := hide ((by rw [hst, ht]; rfl : allF pthC s (k + 1) = allF pthC s k).trans (unhide hrel))
        have HT := hide ht
        clear hst hrel ht
        go_wp2_with (go_at_call 71; refine (unhide HK c _ hc256).mono ?_; rintro e w' ⟨rfl, rfl⟩; rw [unhide HT])
        go_round
        case rel => exact ⟨k + 1, by go_num, by omega, hres⟩
        case measure => simp [intOf]; omega
    · have hres := hide ((unhide hrel).symm.trans (allF_end pthC s k (by omega)))
      clear hrel
      go_wp2
      go_ret
      exact ⟨by rw [unhide hres]; rfl, rfl⟩
set_option maxRecDepth 10000 in
set_option maxHeartbeats 1000000 in
theorem textOk_qry (s : ByteArray) (lo hi : Nat) (w : World) (hs : s.size ≤ 1000000000000) (h1 : lo ≤ 1000) (h2 : hi ≤ 1000) :
    Calls Tryz.prog 68 #[.string s, .int .i64 lo, .int .i64 hi, .func (.func 109) #[] #[]] w fun e w' => e = .returned (.bool (texB lo hi qryC s)) ∧ w = w' := by
  have HK := hide qry_kind
  by_cases ha : s.size < lo
  · rw [texB_no (.inl ha)]
    go_enter Tryz.func68, Tryz.ntmps68
    go_wp2
    go_ret
    exact ⟨rfl, rfl⟩
  by_cases hb : hi < s.size
  · rw [texB_no (.inr hb)]
    go_enter Tryz.func68, Tryz.ntmps68
    go_wp2
    go_ret
    exact ⟨rfl, rfl⟩
  rw [texB_yes (by omega) (by omega)]
  go_enter Tryz.func68, Tryz.ntmps68
  go_wp2_with fail
  go_loop [22] (fun i => ∃ k : Nat, i = .int .i64 k ∧ k ≤ s.size ∧ Hid (allF qryC s k = allF qryC s 0)) (fun i => s.size - (intOf i).toNat)
  case atStart => exact ⟨0, rfl, by omega, rfl⟩
  case round =>
    obtain ⟨k, rfl, hk, hrel⟩ := hrel
    by_cases hlt : k < s.size
    · obtain ⟨c, hc⟩ : ∃ c, s[k].toNat = c := ⟨_, rfl⟩
      have hc256 : c < 256 := by rw [← hc]; exact s[k].toNat_lt
      have hst := allF_step qryC s k hlt
      rw [hc] at hst
      cases ht : qryC c with
      | false =>
        have hres := hide ((unhide hrel).symm.trans (by rw [hst, ht]; rfl) : allF qryC s 0 = false)
        have HT := hide ht
        clear hst hrel ht
        go_wp2_with (go_at_call 109; refine (unhide HK c _ hc256).mono ?_; rintro e w' ⟨rfl, rfl⟩; rw [unhide HT])
        go_ret
        exact ⟨by rw [unhide hres]; rfl, rfl⟩
      | true =>
        have hres := hide ((by rw [hst, ht]; rfl : allF qryC s (k + 1) = allF qryC s k).trans (unhide hrel))
        have HT := hide ht
        clear hst hrel ht
        go_wp2_with (go_at_call 109; refine (unhide HK c _ hc256).mono ?_; rintro e w' ⟨rfl, rfl⟩; rw [unhide HT])
        go_round
        case rel => exact ⟨k + 1, by go_num, by omega, hres⟩
        case measure => simp [intOf]; omega
    · have hres := hide ((unhide hrel).symm.trans (allF_end qryC s k (by omega)))
      clear hrel
      go_wp2
      go_ret
      exact ⟨by rw [unhide hres]; rfl, rfl⟩
set_option maxRecDepth 10000 in
set_option maxHeartbeats 1000000 in
theorem textOk_nme (s : ByteArray) (lo hi : Nat) (w : World) (hs : s.size ≤ 1000000000000) (h1 : lo ≤ 1000) (h2 : hi ≤ 1000) :
    Calls Tryz.prog 68 #[.string s, .int .i64 lo, .int .i64 hi, .func (.func 110) #[] #[]] w fun e w' => e = .returned (.bool (texB lo hi nmeC s)) ∧ w = w' := by
  have HK := hide nme_kind
  by_cases ha : s.size < lo
  · rw [texB_no (.inl ha)]
    go_enter Tryz.func68, Tryz.ntmps68
    go_wp2
    go_ret
    exact ⟨rfl, rfl⟩
  by_cases hb : hi < s.size
  · rw [texB_no (.inr hb)]
    go_enter Tryz.func68, Tryz.ntmps68
    go_wp2
    go_ret
    exact ⟨rfl, rfl⟩
  rw [texB_yes (by omega) (by omega)]
  go_enter Tryz.func68, Tryz.ntmps68
  go_wp2_with fail
  go_loop [22] (fun i => ∃ k : Nat, i = .int .i64 k ∧ k ≤ s.size ∧ Hid (allF nmeC s k = allF nmeC s 0)) (fun i => s.size - (intOf i).toNat)
  case atStart => exact ⟨0, rfl, by omega, rfl⟩
  case round =>
    obtain ⟨k, rfl, hk, hrel⟩ := hrel
    by_cases hlt : k < s.size
    · obtain ⟨c, hc⟩ : ∃ c, s[k].toNat = c := ⟨_, rfl⟩
      have hc256 : c < 256 := by rw [← hc]; exact s[k].toNat_lt
      have hst := allF_step nmeC s k hlt
      rw [hc] at hst
      cases ht : nmeC c with
      | false =>
        have hres := hide ((unhide hrel).symm.trans (by rw [hst, ht]; rfl) : allF nmeC s 0 = false)
        have HT := hide ht
        clear hst hrel ht
        go_wp2_with (go_at_call 110; refine (unhide HK c _ hc256).mono ?_; rintro e w' ⟨rfl, rfl⟩; rw [unhide HT])
        go_ret
        exact ⟨by rw [unhide hres]; rfl, rfl⟩
      | true =>
        have hres := hide ((by rw [hst, ht]; rfl : allF nmeC s (k + 1) = allF nmeC s k).trans (unhide hrel))
        have HT := hide ht
        clear hst hrel ht
        go_wp2_with (go_at_call 110; refine (unhide HK c _ hc256).mono ?_; rintro e w' ⟨rfl, rfl⟩; rw [unhide HT])
        go_round
        case rel => exact ⟨k + 1, by go_num, by omega, hres⟩
        case measure => simp [intOf]; omega
    · have hres := hide ((unhide hrel).symm.trans (allF_end nmeC s k (by omega)))
      clear hrel
      go_wp2
      go_ret
      exact ⟨by rw [unhide hres]; rfl, rfl⟩
set_option maxRecDepth 10000 in
set_option maxHeartbeats 1000000 in
theorem textOk_val (s : ByteArray) (lo hi : Nat) (w : World) (hs : s.size ≤ 1000000000000) (h1 : lo ≤ 1000) (h2 : hi ≤ 1000) :
    Calls Tryz.prog 68 #[.string s, .int .i64 lo, .int .i64 hi, .func (.func 111) #[] #[]] w fun e w' => e = .returned (.bool (texB lo hi valC s)) ∧ w = w' := by
  have HK := hide val_kind
  by_cases ha : s.size < lo
  · rw [texB_no (.inl ha)]
    go_enter Tryz.func68, Tryz.ntmps68
    go_wp2
    go_ret
    exact ⟨rfl, rfl⟩
  by_cases hb : hi < s.size
  · rw [texB_no (.inr hb)]
    go_enter Tryz.func68, Tryz.ntmps68
    go_wp2
    go_ret
    exact ⟨rfl, rfl⟩
  rw [texB_yes (by omega) (by omega)]
  go_enter Tryz.func68, Tryz.ntmps68
  go_wp2_with fail
  go_loop [22] (fun i => ∃ k : Nat, i = .int .i64 k ∧ k ≤ s.size ∧ Hid (allF valC s k = allF valC s 0)) (fun i => s.size - (intOf i).toNat)
  case atStart => exact ⟨0, rfl, by omega, rfl⟩
  case round =>
    obtain ⟨k, rfl, hk, hrel⟩ := hrel
    by_cases hlt : k < s.size
    · obtain ⟨c, hc⟩ : ∃ c, s[k].toNat = c := ⟨_, rfl⟩
      have hc256 : c < 256 := by rw [← hc]; exact s[k].toNat_lt
      have hst := allF_step valC s k hlt
      rw [hc] at hst
      cases ht : valC c with
      | false =>
        have hres := hide ((unhide hrel).symm.trans (by rw [hst, ht]; rfl) : allF valC s 0 = false)
        have HT := hide ht
        clear hst hrel ht
        go_wp2_with (go_at_call 111; refine (unhide HK c _ hc256).mono ?_; rintro e w' ⟨rfl, rfl⟩; rw [unhide HT])
        go_ret
        exact ⟨by rw [unhide hres]; rfl, rfl⟩
      | true =>
        have hres := hide ((by rw [hst, ht]; rfl : allF valC s (k + 1) = allF valC s k).trans (unhide hrel))
        have HT := hide ht
        clear hst hrel ht
        go_wp2_with (go_at_call 111; refine (unhide HK c _ hc256).mono ?_; rintro e w' ⟨rfl, rfl⟩; rw [unhide HT])
        go_round
        case rel => exact ⟨k + 1, by go_num, by omega, hres⟩
        case measure => simp [intOf]; omega
    · have hres := hide ((unhide hrel).symm.trans (allF_end valC s k (by omega)))
      clear hrel
      go_wp2
      go_ret
      exact ⟨by rw [unhide hres]; rfl, rfl⟩
end Go.Proofs.YtanekbifdedmeaaGreatDoor
