/- The specification's RequestOk. -/
import Derived.Test.YtanekbifdedmeaaGreatDoorReqS
namespace Go.Proofs.YtanekbifdedmeaaGreatDoor
open Go.RowKit Plain
set_option linter.unusedVariables false

namespace Plain
theorem capC_no {c : Nat} (h : c < 65 ∨ 90 < c) : capC c = false := by unfold capC; rcases h with h | h <;> simp <;> omega
theorem capC_yes {c : Nat} (h : 65 ≤ c) (h2 : c ≤ 90) : capC c = true := by unfold capC; simp [h, h2]
theorem nmeC_no {c : Nat} (h : c < 97 ∨ 122 < c) (h2 : ¬ c = 45) : nmeC c = false := by unfold nmeC; rcases h with h | h <;> simp [h2] <;> omega
theorem nmeC_yes {c : Nat} (h : c = 45 ∨ 97 ≤ c ∧ c ≤ 122) : nmeC c = true := by unfold nmeC; rcases h with h | h <;> simp [h]
end Plain

set_option maxRecDepth 10000 in
set_option maxHeartbeats 2000000 in
theorem l16Method_calls (s : ByteArray) (w : World) (hs : s.size ≤ 1000000000000) :
    Calls Tryz.prog 65 #[.string s] w fun e w' => e = .returned (.bool (texB 1 10 capC s)) ∧ w = w' := by
  have HE := hide (show texB 1 10 capC s = (decide (1 ≤ s.size) && decide (s.size ≤ 10) && allF capC s 0) from rfl)
  obtain ⟨R, hR⟩ : ∃ R, allF capC s 0 = R := ⟨_, rfl⟩
  rw [hR] at HE
  rw [unhide HE]
  have HR := hide hR
  clear hR HE
  go_enter Tryz.func65, Tryz.ntmps65
  go_wp2_with fail
  go_loop [3] (fun i => ∃ k : Nat, i = .int .i64 k ∧ k ≤ s.size ∧ Hid (allF capC s k = R)) (fun i => s.size - (intOf i).toNat)
  case atStart => exact ⟨0, rfl, by omega, HR⟩
  case round =>
    obtain ⟨k, rfl, hk, HV⟩ := hrel
    by_cases hlt : k < s.size
    · obtain ⟨c, hc⟩ : ∃ c, s[k].toNat = c := ⟨_, rfl⟩
      have hc256 : c < 256 := by rw [← hc]; exact s[k].toNat_lt
      have hst := allF_step capC s k hlt
      rw [hc] at hst
      by_cases hl : c < 65
      · have HX := hide (show R = false from by rw [← unhide HV, hst, capC_no (.inl hl)]; rfl)
        clear hst HV
        go_wp2_with fail
        go_ret
        exact ⟨by rw [unhide HX]; simp, rfl⟩
      by_cases hu : 90 < c
      · have HX := hide (show R = false from by rw [← unhide HV, hst, capC_no (.inr hu)]; rfl)
        clear hst HV
        go_wp2_with fail
        go_ret
        exact ⟨by rw [unhide HX]; simp, rfl⟩
      have HX := hide (show allF capC s (k + 1) = R from by rw [← unhide HV, hst, capC_yes (by omega) (by omega)]; rfl)
      clear hst HV
      go_wp2_with fail
      go_round
      case rel => exact ⟨k + 1, by go_num, by omega, HX⟩
      case measure => simp [intOf]; omega
    · have HX := hide ((unhide HV).symm.trans (allF_end capC s k (by omega)))
      clear HV
      go_wp2_with fail
      all_goals go_ret
      all_goals exact ⟨retB (by rw [unhide HX, Bool.eq_iff_iff]; simp; try omega), rfl⟩

set_option maxRecDepth 10000 in
set_option maxHeartbeats 2000000 in
theorem l16Name_calls (s : ByteArray) (w : World) (hs : s.size ≤ 1000000000000) :
    Calls Tryz.prog 92 #[.string s] w fun e w' => e = .returned (.bool (texB 1 60 nmeC s)) ∧ w = w' := by
  have HE := hide (show texB 1 60 nmeC s = (decide (1 ≤ s.size) && decide (s.size ≤ 60) && allF nmeC s 0) from rfl)
  obtain ⟨R, hR⟩ : ∃ R, allF nmeC s 0 = R := ⟨_, rfl⟩
  rw [hR] at HE
  rw [unhide HE]
  have HR := hide hR
  clear hR HE
  go_enter Tryz.func92, Tryz.ntmps92
  go_wp2_with fail
  go_loop [3] (fun i => ∃ k : Nat, i = .int .i64 k ∧ k ≤ s.size ∧ Hid (allF nmeC s k = R)) (fun i => s.size - (intOf i).toNat)
  case atStart => exact ⟨0, rfl, by omega, HR⟩
  case round =>
    obtain ⟨k, rfl, hk, HV⟩ := hrel
    by_cases hlt : k < s.size
    · obtain ⟨c, hc⟩ : ∃ c, s[k].toNat = c := ⟨_, rfl⟩
      have hc256 : c < 256 := by rw [← hc]; exact s[k].toNat_lt
      have hst := allF_step nmeC s k hlt
      rw [hc] at hst
      by_cases h45 : c = 45
      · have HX := hide (show allF nmeC s (k + 1) = R from by rw [← unhide HV, hst, nmeC_yes (.inl h45)]; rfl)
        subst h45
        clear hst HV
        go_wp2_with fail
        go_round
        case rel => exact ⟨k + 1, by go_num, by omega, HX⟩
        case measure => simp [intOf]; omega
      have e45 : ((c : Int) == 45) = false := by simp; omega
      have e45n : ((c : Int) != 45) = true := by simp; omega
      by_cases hl : c < 97
      · have HX := hide (show R = false from by rw [← unhide HV, hst, nmeC_no (.inl hl) h45]; rfl)
        clear hst HV
        go_wp2_with fail
        go_ret
        exact ⟨by rw [unhide HX]; simp, rfl⟩
      by_cases hu : 122 < c
      · have HX := hide (show R = false from by rw [← unhide HV, hst, nmeC_no (.inr hu) h45]; rfl)
        clear hst HV
        go_wp2_with fail
        go_ret
        exact ⟨by rw [unhide HX]; simp, rfl⟩
      have HX := hide (show allF nmeC s (k + 1) = R from by rw [← unhide HV, hst, nmeC_yes (.inr ⟨by omega, by omega⟩)]; rfl)
      clear hst HV
      go_wp2_with fail
      go_round
      case rel => exact ⟨k + 1, by go_num, by omega, HX⟩
      case measure => simp [intOf]; omega
    · have HX := hide ((unhide HV).symm.trans (allF_end nmeC s k (by omega)))
      clear HV
      go_wp2_with fail
      all_goals go_ret
      all_goals exact ⟨retB (by rw [unhide HX, Bool.eq_iff_iff]; simp; try omega), rfl⟩

set_option maxRecDepth 10000 in
set_option maxHeartbeats 2000000 in
theorem l16Path_calls (s : ByteArray) (w : World) (hs : s.size ≤ 1000000000000) :
    Calls Tryz.prog 66 #[.string s] w fun e w' => e = .returned (.bool (pathB s)) ∧ Below w.heap.size w w' := by
  have H1 := hide (l16Bytes_calls s ⟨#[63, 35]⟩ 1 400 33 w hs (by decide) (by decide) (by decide) (by decide))
  rw [texB_ext low_pth] at H1
  have HE := hide (show pathB s = (texB 1 400 pthC s && decide ((s.data.toList.headD 0).toNat = 47)) from rfl)
  have HT := hide (show texB 1 400 pthC s = true → 0 < s.size from fun h => by
    by_cases h0 : 0 < s.size
    · exact h0
    · rw [texB_no (.inl (by omega))] at h; cases h)
  generalize texB 1 400 pthC s = b1 at H1 HE HT
  rw [unhide HE]
  clear HE
  cases b1 with
  | false =>
    go_enter Tryz.func66, Tryz.ntmps66
    go_wp2_with fail
    refine (unhide H1).mono ?_
    rintro e w1 ⟨rfl, hb1⟩
    have HB := hide hb1
    clear hb1
    go_wp2_with fail
    go_ret
    exact ⟨rfl, unhide HB⟩
  | true =>
    have h0 := unhide HT rfl
    have hh : s.data.toList.headD 0 = s[0] := by rw [ext_tail s h0]; rfl
    obtain ⟨c, hc⟩ : ∃ c, s[0].toNat = c := ⟨_, rfl⟩
    rw [hh, hc]
    clear hh
    go_enter Tryz.func66, Tryz.ntmps66
    go_wp2_with fail
    refine (unhide H1).mono ?_
    rintro e w1 ⟨rfl, hb1⟩
    have HB := hide hb1
    clear hb1
    go_wp2_with fail
    go_ret
    exact ⟨retB (by rw [Bool.eq_iff_iff]; simp; try omega), unhide HB⟩

set_option maxRecDepth 10000 in
set_option maxHeartbeats 2000000 in
theorem l16Value_calls (s : ByteArray) (w : World) (hs : s.size ≤ 1000000000000) :
    Calls Tryz.prog 93 #[.string s] w fun e w' => e = .returned (.bool (valB s)) ∧ Below w.heap.size w w' := by
  have H1 := hide (l16Bytes_calls s ⟨#[]⟩ 0 500 32 w hs (by decide) (by decide) (by decide) (by decide))
  rw [texB_ext low_val] at H1
  have HE := hide (show valB s = (texB 0 500 valC s && endB s) from rfl)
  generalize texB 0 500 valC s = b1 at H1 HE
  rw [unhide HE]
  clear HE
  cases b1 with
  | false =>
    go_enter Tryz.func93, Tryz.ntmps93
    go_wp2_with fail
    refine (unhide H1).mono ?_
    rintro e w1 ⟨rfl, hb1⟩
    have HB := hide hb1
    clear hb1
    go_wp2_with fail
    go_ret
    exact ⟨rfl, unhide HB⟩
  | true =>
    by_cases h0 : 0 < s.size
    · have hn : s.toList.isEmpty = false := by
        rw [ByteArray.toList_eq, ext_tail s h0]
        rfl
      have hn2 : (s.toList == []) = false := by
        rw [ByteArray.toList_eq, ext_tail s h0]
        rfl
      obtain ⟨m, hm⟩ : ∃ m : Nat, (s.size : Int) - 1 = (m : Int) := ⟨s.size - 1, by omega⟩
      have hmt : m < s.size := by omega
      have hmt2 : s.size ≤ m + 1 := by omega
      have i0 : (0 : Int) ≤ (m : Int) := by omega
      have i1 : (m : Int) < (s.size : Int) := by omega
      obtain ⟨c, hc⟩ : ∃ c, s[0].toNat = c := ⟨_, rfl⟩
      obtain ⟨d, hd⟩ : ∃ d, s[m].toNat = d := ⟨_, rfl⟩
      have he : endB s = (!decide (c = 32) && !decide (d = 32)) := by
        unfold endB
        have hh : s.data.toList.headD 0 = s[0] := by rw [ext_tail s h0]; rfl
        have hl : s.data.toList.getLastD 0 = s[m] := by rw [ext_init s m hmt hmt2]; simp
        rw [hh, hl, hc, hd, decide_eq_false (show ¬ s.size = 0 by omega)]
        rfl
      rw [he]
      clear he
      by_cases h32 : c = 32
      · subst h32
        go_enter Tryz.func93, Tryz.ntmps93
        go_wp2_with fail
        refine (unhide H1).mono ?_
        rintro e w1 ⟨rfl, hb1⟩
        have HB := hide hb1
        clear hb1
        go_wp2_with fail
        go_ret
        exact ⟨retB (by simp), unhide HB⟩
      · have e32 : ((c : Int) == 32) = false := by simp; omega
        have e32n : ((c : Int) != 32) = true := by simp; omega
        rw [decide_eq_false h32]
        go_enter Tryz.func93, Tryz.ntmps93
        go_wp2_with fail
        refine (unhide H1).mono ?_
        rintro e w1 ⟨rfl, hb1⟩
        have HB := hide hb1
        clear hb1
        go_wp2_with fail
        go_ret
        exact ⟨retB (by rw [Bool.eq_iff_iff]; simp; try omega), unhide HB⟩
    · have he : endB s = true := by unfold endB; rw [decide_eq_true (show s.size = 0 by omega)]; rfl
      have hn : s.toList.isEmpty = true := by rw [ByteArray.toList_eq, nilL h0]; rfl
      have hn2 : (s.toList == []) = true := by rw [ByteArray.toList_eq, nilL h0]; rfl
      rw [he]
      clear he
      go_enter Tryz.func93, Tryz.ntmps93
      go_wp2_with fail
      refine (unhide H1).mono ?_
      rintro e w1 ⟨rfl, hb1⟩
      have HB := hide hb1
      clear hb1
      go_wp2_with fail
      go_ret
      exact ⟨rfl, unhide HB⟩
end Go.Proofs.YtanekbifdedmeaaGreatDoor
