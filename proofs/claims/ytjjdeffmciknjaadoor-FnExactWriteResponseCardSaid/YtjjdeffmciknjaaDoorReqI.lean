/- The program's checks of texts: kinds of bytes, lengths. -/
import Derived.Test.YtjjdeffmciknjaaDoorReqM
import Derived.Test.YtjjdeffmciknjaaDoorGrw
namespace Go.Proofs.YtjjdeffmciknjaaDoor
open Go.RowKit Plain
set_option linter.unusedVariables false

/-- A function of bytes that answers by p. -/
def Plain.KindAt (K : FuncId) (p : Nat → Bool) : Prop := ∀ (c : Nat) (w : World), c < 256 → Calls Tryd.prog K #[.int .u8 c] w fun e w' => e = .returned (.bool (p c)) ∧ w = w'

theorem Plain.retB {a b : Bool} (h : a = b) : Ending.returned (Value.bool a) = .returned (.bool b) := by rw [h]

theorem cap_kind : KindAt 41 capC := by
  intro c w hc
  go_enter Tryd.func41, Tryd.ntmps41
  go_wp2
  all_goals
    go_ret
    refine ⟨retB ?_, rfl⟩
    unfold capC
    rw [Bool.eq_iff_iff]
    simp
    omega

theorem vis_kind : KindAt 54 visC := by
  intro c w hc
  go_enter Tryd.func54, Tryd.ntmps54
  go_wp2
  all_goals
    go_ret
    refine ⟨retB ?_, rfl⟩
    unfold visC
    rw [Bool.eq_iff_iff]
    simp
    omega

theorem nme_kind : KindAt 58 nmeC := by
  intro c w hc
  go_enter Tryd.func58, Tryd.ntmps58
  go_wp2
  all_goals
    go_ret
    refine ⟨retB ?_, rfl⟩
    unfold nmeC
    rw [Bool.eq_iff_iff]
    simp
    omega

theorem pth_kind : KindAt 43 pthC := by
  intro c w hc
  cases hv : visC c with
  | _ =>
    have HV := hide hv
    clear hv
    go_enter Tryd.func43, Tryd.ntmps43
    go_wp2_with (go_at_call 54; refine (vis_kind _ _ hc).mono ?_; rintro e w' ⟨rfl, rfl⟩; rw [unhide HV])
    all_goals
      go_ret
      refine ⟨retB ?_, rfl⟩
      unfold pthC
      rw [unhide HV, Bool.eq_iff_iff]
      simp
      try omega

theorem qry_kind : KindAt 57 qryC := by
  intro c w hc
  cases hv : visC c with
  | _ =>
    have HV := hide hv
    clear hv
    go_enter Tryd.func57, Tryd.ntmps57
    go_wp2_with (go_at_call 54; refine (vis_kind _ _ hc).mono ?_; rintro e w' ⟨rfl, rfl⟩; rw [unhide HV])
    all_goals
      go_ret
      refine ⟨retB ?_, rfl⟩
      unfold qryC
      rw [unhide HV, Bool.eq_iff_iff]
      simp
      try omega

theorem val_kind : KindAt 59 valC := by
  intro c w hc
  cases hv : visC c with
  | _ =>
    have HV := hide hv
    clear hv
    go_enter Tryd.func59, Tryd.ntmps59
    go_wp2_with (go_at_call 54; refine (vis_kind _ _ hc).mono ?_; rintro e w' ⟨rfl, rfl⟩; rw [unhide HV])
    all_goals
      go_ret
      refine ⟨retB ?_, rfl⟩
      unfold valC
      rw [unhide HV, Bool.eq_iff_iff]
      simp
      try omega

set_option maxRecDepth 10000 in
set_option maxHeartbeats 1000000 in
theorem textOk_cap (s : ByteArray) (lo hi : Nat) (w : World) (hs : s.size ≤ 1000000000000) (h1 : lo ≤ 1000) (h2 : hi ≤ 1000) :
    Calls Tryd.prog 40 #[.string s, .int .i64 lo, .int .i64 hi, .func (.func 41) #[] #[]] w fun e w' => e = .returned (.bool (texB lo hi capC s)) ∧ w = w' := by
  have HK := hide cap_kind
  by_cases ha : s.size < lo
  · rw [texB_no (.inl ha)]
    go_enter Tryd.func40, Tryd.ntmps40
    go_wp2
    go_ret
    exact ⟨rfl, rfl⟩
  by_cases hb : hi < s.size
  · rw [texB_no (.inr hb)]
    go_enter Tryd.func40, Tryd.ntmps40
    go_wp2
    go_ret
    exact ⟨rfl, rfl⟩
  rw [texB_yes (by omega) (by omega)]
  go_enter Tryd.func40, Tryd.ntmps40
  go_wp2_with fail
  go_loop [22] (fun i => ∃ k : Nat, i = .int .i64 k ∧ k ≤ s.size ∧ Hid (allF capC s k = allF capC s 0)) (fun i => s.size - (intOf i).toNat)
  case atStart => exact ⟨0, rfl, by omega, rfl⟩
  case round =>
    obtain ⟨k, rfl, hk, hrel⟩ := hrel
    by_cases hlt : k < s.size
    · obtain ⟨c, hc⟩ : ∃ c, s[k].toNat = c := ⟨_, rfl⟩
      have hc256 : c < 256 := by rw [← hc]; exact s[k].toNat_lt
      have hst := allF_step capC s k hlt
      rw [hc] at hst
      cases ht : capC c with
      | false =>
        have hres := hide ((unhide hrel).symm.trans (by rw [hst, ht]; rfl) : allF capC s 0 = false)
        have HT := hide ht
        clear hst hrel ht
        go_wp2_with (go_at_call 41; refine (unhide HK c _ hc256).mono ?_; rintro e w' ⟨rfl, rfl⟩; rw [unhide HT])
        go_ret
        exact ⟨by rw [unhide hres]; rfl, rfl⟩
      | true =>
        have hres := hide ((by rw [hst, ht]; rfl : allF capC s (k + 1) = allF capC s k).trans (unhide hrel))
        have HT := hide ht
        clear hst hrel ht
        go_wp2_with (go_at_call 41; refine (unhide HK c _ hc256).mono ?_; rintro e w' ⟨rfl, rfl⟩; rw [unhide HT])
        go_round
        case rel => exact ⟨k + 1, by go_num, by omega, hres⟩
        case measure => simp [intOf]; omega
    · have hres := hide ((unhide hrel).symm.trans (allF_end capC s k (by omega)))
      clear hrel
      go_wp2
      go_ret
      exact ⟨by rw [unhide hres]; rfl, rfl⟩
set_option maxRecDepth 10000 in
set_option maxHeartbeats 1000000 in
theorem textOk_pth (s : ByteArray) (lo hi : Nat) (w : World) (hs : s.size ≤ 1000000000000) (h1 : lo ≤ 1000) (h2 : hi ≤ 1000) :
    Calls Tryd.prog 40 #[.string s, .int .i64 lo, .int .i64 hi, .func (.func 43) #[] #[]] w fun e w' => e = .returned (.bool (texB lo hi pthC s)) ∧ w = w' := by
  have HK := hide pth_kind
  by_cases ha : s.size < lo
  · rw [texB_no (.inl ha)]
    go_enter Tryd.func40, Tryd.ntmps40
    go_wp2
    go_ret
    exact ⟨rfl, rfl⟩
  by_cases hb : hi < s.size
  · rw [texB_no (.inr hb)]
    go_enter Tryd.func40, Tryd.ntmps40
    go_wp2
    go_ret
    exact ⟨rfl, rfl⟩
  rw [texB_yes (by omega) (by omega)]
  go_enter Tryd.func40, Tryd.ntmps40
  go_wp2_with fail
  go_loop [22] (fun i => ∃ k : Nat, i = .int .i64 k ∧ k ≤ s.size ∧ Hid (allF pthC s k = allF pthC s 0)) (fun i => s.size - (intOf i).toNat)
  case atStart => exact ⟨0, rfl, by omega, rfl⟩
  case round =>
    obtain ⟨k, rfl, hk, hrel⟩ := hrel
    by_cases hlt : k < s.size
    · obtain ⟨c, hc⟩ : ∃ c, s[k].toNat = c := ⟨_, rfl⟩
      have hc256 : c < 256 := by rw [← hc]; exact s[k].toNat_lt
      have hst := allF_step pthC s k hlt
      rw [hc] at hst
      cases ht : pthC c with
      | false =>
        have hres := hide ((unhide hrel).symm.trans (by rw [hst, ht]; rfl) : allF pthC s 0 = false)
        have HT := hide ht
        clear hst hrel ht
        go_wp2_with (go_at_call 43; refine (unhide HK c _ hc256).mono ?_; rintro e w' ⟨rfl, rfl⟩; rw [unhide HT])
        go_ret
        exact ⟨by rw [unhide hres]; rfl, rfl⟩
      | true =>
        have hres := hide ((by rw [hst, ht]; rfl : allF pthC s (k + 1) = allF pthC s k).trans (unhide hrel))
        have HT := hide ht
        clear hst hrel ht
        go_wp2_with (go_at_call 43; refine (unhide HK c _ hc256).mono ?_; rintro e w' ⟨rfl, rfl⟩; rw [unhide HT])
        go_round
        case rel => exact ⟨k + 1, by go_num, by omega, hres⟩
        case measure => simp [intOf]; omega
    · have hres := hide ((unhide hrel).symm.trans (allF_end pthC s k (by omega)))
      clear hrel
      go_wp2
      go_ret
      exact ⟨by rw [unhide hres]; rfl, rfl⟩
set_option maxRecDepth 10000 in
set_option maxHeartbeats 1000000 in
theorem textOk_qry (s : ByteArray) (lo hi : Nat) (w : World) (hs : s.size ≤ 1000000000000) (h1 : lo ≤ 1000) (h2 : hi ≤ 1000) :
    Calls Tryd.prog 40 #[.string s, .int .i64 lo, .int .i64 hi, .func (.func 57) #[] #[]] w fun e w' => e = .returned (.bool (texB lo hi qryC s)) ∧ w = w' := by
  have HK := hide qry_kind
  by_cases ha : s.size < lo
  · rw [texB_no (.inl ha)]
    go_enter Tryd.func40, Tryd.ntmps40
    go_wp2
    go_ret
    exact ⟨rfl, rfl⟩
  by_cases hb : hi < s.size
  · rw [texB_no (.inr hb)]
    go_enter Tryd.func40, Tryd.ntmps40
    go_wp2
    go_ret
    exact ⟨rfl, rfl⟩
  rw [texB_yes (by omega) (by omega)]
  go_enter Tryd.func40, Tryd.ntmps40
  go_wp2_with fail
  go_loop [22] (fun i => ∃ k : Nat, i = .int .i64 k ∧ k ≤ s.size ∧ Hid (allF qryC s k = allF qryC s 0)) (fun i => s.size - (intOf i).toNat)
  case atStart => exact ⟨0, rfl, by omega, rfl⟩
  case round =>
    obtain ⟨k, rfl, hk, hrel⟩ := hrel
    by_cases hlt : k < s.size
    · obtain ⟨c, hc⟩ : ∃ c, s[k].toNat = c := ⟨_, rfl⟩
      have hc256 : c < 256 := by rw [← hc]; exact s[k].toNat_lt
      have hst := allF_step qryC s k hlt
      rw [hc] at hst
      cases ht : qryC c with
      | false =>
        have hres := hide ((unhide hrel).symm.trans (by rw [hst, ht]; rfl) : allF qryC s 0 = false)
        have HT := hide ht
        clear hst hrel ht
        go_wp2_with (go_at_call 57; refine (unhide HK c _ hc256).mono ?_; rintro e w' ⟨rfl, rfl⟩; rw [unhide HT])
        go_ret
        exact ⟨by rw [unhide hres]; rfl, rfl⟩
      | true =>
        have hres := hide ((by rw [hst, ht]; rfl : allF qryC s (k + 1) = allF qryC s k).trans (unhide hrel))
        have HT := hide ht
        clear hst hrel ht
        go_wp2_with (go_at_call 57; refine (unhide HK c _ hc256).mono ?_; rintro e w' ⟨rfl, rfl⟩; rw [unhide HT])
        go_round
        case rel => exact ⟨k + 1, by go_num, by omega, hres⟩
        case measure => simp [intOf]; omega
    · have hres := hide ((unhide hrel).symm.trans (allF_end qryC s k (by omega)))
      clear hrel
      go_wp2
      go_ret
      exact ⟨by rw [unhide hres]; rfl, rfl⟩
set_option maxRecDepth 10000 in
set_option maxHeartbeats 1000000 in
theorem textOk_nme (s : ByteArray) (lo hi : Nat) (w : World) (hs : s.size ≤ 1000000000000) (h1 : lo ≤ 1000) (h2 : hi ≤ 1000) :
    Calls Tryd.prog 40 #[.string s, .int .i64 lo, .int .i64 hi, .func (.func 58) #[] #[]] w fun e w' => e = .returned (.bool (texB lo hi nmeC s)) ∧ w = w' := by
  have HK := hide nme_kind
  by_cases ha : s.size < lo
  · rw [texB_no (.inl ha)]
    go_enter Tryd.func40, Tryd.ntmps40
    go_wp2
    go_ret
    exact ⟨rfl, rfl⟩
  by_cases hb : hi < s.size
  · rw [texB_no (.inr hb)]
    go_enter Tryd.func40, Tryd.ntmps40
    go_wp2
    go_ret
    exact ⟨rfl, rfl⟩
  rw [texB_yes (by omega) (by omega)]
  go_enter Tryd.func40, Tryd.ntmps40
  go_wp2_with fail
  go_loop [22] (fun i => ∃ k : Nat, i = .int .i64 k ∧ k ≤ s.size ∧ Hid (allF nmeC s k = allF nmeC s 0)) (fun i => s.size - (intOf i).toNat)
  case atStart => exact ⟨0, rfl, by omega, rfl⟩
  case round =>
    obtain ⟨k, rfl, hk, hrel⟩ := hrel
    by_cases hlt : k < s.size
    · obtain ⟨c, hc⟩ : ∃ c, s[k].toNat = c := ⟨_, rfl⟩
      have hc256 : c < 256 := by rw [← hc]; exact s[k].toNat_lt
      have hst := allF_step nmeC s k hlt
      rw [hc] at hst
      cases ht : nmeC c with
      | false =>
        have hres := hide ((unhide hrel).symm.trans (by rw [hst, ht]; rfl) : allF nmeC s 0 = false)
        have HT := hide ht
        clear hst hrel ht
        go_wp2_with (go_at_call 58; refine (unhide HK c _ hc256).mono ?_; rintro e w' ⟨rfl, rfl⟩; rw [unhide HT])
        go_ret
        exact ⟨by rw [unhide hres]; rfl, rfl⟩
      | true =>
        have hres := hide ((by rw [hst, ht]; rfl : allF nmeC s (k + 1) = allF nmeC s k).trans (unhide hrel))
        have HT := hide ht
        clear hst hrel ht
        go_wp2_with (go_at_call 58; refine (unhide HK c _ hc256).mono ?_; rintro e w' ⟨rfl, rfl⟩; rw [unhide HT])
        go_round
        case rel => exact ⟨k + 1, by go_num, by omega, hres⟩
        case measure => simp [intOf]; omega
    · have hres := hide ((unhide hrel).symm.trans (allF_end nmeC s k (by omega)))
      clear hrel
      go_wp2
      go_ret
      exact ⟨by rw [unhide hres]; rfl, rfl⟩
set_option maxRecDepth 10000 in
set_option maxHeartbeats 1000000 in
theorem textOk_val (s : ByteArray) (lo hi : Nat) (w : World) (hs : s.size ≤ 1000000000000) (h1 : lo ≤ 1000) (h2 : hi ≤ 1000) :
    Calls Tryd.prog 40 #[.string s, .int .i64 lo, .int .i64 hi, .func (.func 59) #[] #[]] w fun e w' => e = .returned (.bool (texB lo hi valC s)) ∧ w = w' := by
  have HK := hide val_kind
  by_cases ha : s.size < lo
  · rw [texB_no (.inl ha)]
    go_enter Tryd.func40, Tryd.ntmps40
    go_wp2
    go_ret
    exact ⟨rfl, rfl⟩
  by_cases hb : hi < s.size
  · rw [texB_no (.inr hb)]
    go_enter Tryd.func40, Tryd.ntmps40
    go_wp2
    go_ret
    exact ⟨rfl, rfl⟩
  rw [texB_yes (by omega) (by omega)]
  go_enter Tryd.func40, Tryd.ntmps40
  go_wp2_with fail
  go_loop [22] (fun i => ∃ k : Nat, i = .int .i64 k ∧ k ≤ s.size ∧ Hid (allF valC s k = allF valC s 0)) (fun i => s.size - (intOf i).toNat)
  case atStart => exact ⟨0, rfl, by omega, rfl⟩
  case round =>
    obtain ⟨k, rfl, hk, hrel⟩ := hrel
    by_cases hlt : k < s.size
    · obtain ⟨c, hc⟩ : ∃ c, s[k].toNat = c := ⟨_, rfl⟩
      have hc256 : c < 256 := by rw [← hc]; exact s[k].toNat_lt
      have hst := allF_step valC s k hlt
      rw [hc] at hst
      cases ht : valC c with
      | false =>
        have hres := hide ((unhide hrel).symm.trans (by rw [hst, ht]; rfl) : allF valC s 0 = false)
        have HT := hide ht
        clear hst hrel ht
        go_wp2_with (go_at_call 59; refine (unhide HK c _ hc256).mono ?_; rintro e w' ⟨rfl, rfl⟩; rw [unhide HT])
        go_ret
        exact ⟨by rw [unhide hres]; rfl, rfl⟩
      | true =>
        have hres := hide ((by rw [hst, ht]; rfl : allF valC s (k + 1) = allF valC s k).trans (unhide hrel))
        have HT := hide ht
        clear hst hrel ht
        go_wp2_with (go_at_call 59; refine (unhide HK c _ hc256).mono ?_; rintro e w' ⟨rfl, rfl⟩; rw [unhide HT])
        go_round
        case rel => exact ⟨k + 1, by go_num, by omega, hres⟩
        case measure => simp [intOf]; omega
    · have hres := hide ((unhide hrel).symm.trans (allF_end valC s k (by omega)))
      clear hrel
      go_wp2
      go_ret
      exact ⟨by rw [unhide hres]; rfl, rfl⟩
end Go.Proofs.YtjjdeffmciknjaaDoor
