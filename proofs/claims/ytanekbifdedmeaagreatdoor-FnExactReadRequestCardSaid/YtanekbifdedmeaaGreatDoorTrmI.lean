/- strings.Trim of blanks, and a text's first byte. -/
import Derived.Test.YtanekbifdedmeaaGreatDoorReqI
namespace Go.Proofs.YtanekbifdedmeaaGreatDoor
open Go.RowKit Plain
set_option linter.unusedVariables false

namespace Plain
def strSz : Value → Nat
  | .string t => t.size
  | _ => 0
theorem ext_tail (t : ByteArray) (h : 0 < t.size) : t.data.toList = t[0] :: (t.extract 1 t.size).data.toList := by
  rw [ByteArray.data_extract, Array.toList_extract, List.extract_eq_take_drop, List.take_of_length_le (by simp)]
  have := List.drop_eq_getElem_cons (l := t.data.toList) (i := 0) (by simpa using h)
  rw [List.drop_zero] at this
  exact this
theorem ext_init (t : ByteArray) (m : Nat) (h : m < t.size) (h2 : t.size ≤ m + 1) : t.data.toList = (t.extract 0 m).data.toList ++ [t[m]] := by
  have hl : m < t.data.toList.length := by simpa using h
  rw [ByteArray.data_extract, Array.toList_extract, List.extract_eq_take_drop, List.drop_zero, Nat.sub_zero]
  have := List.take_append_getElem hl
  rw [show t[m] = t.data.toList[m] from rfl, this, List.take_of_length_le (by simpa using h2)]
theorem dwL (t : ByteArray) (h : 0 < t.size) (h2 : t[0].toNat = 32) : (t.extract 1 t.size).data.toList.dropWhile (fun c => c == 32) = t.data.toList.dropWhile (fun c => c == 32) := by
  rw [ext_tail t h, List.dropWhile_cons, if_pos (by rw [show t[0] = 32 from UInt8.toNat_inj.1 (by simpa using h2)]; rfl)]
theorem dwN (t : ByteArray) (h : 0 < t.size) (h2 : ¬ t[0].toNat = 32) : t.data.toList.dropWhile (fun c => c == 32) = t.data.toList := by
  rw [dw_same, ext_tail t h]
  simp only [List.head?_cons, Option.mem_some_iff, forall_eq']
  exact (u8_32 _).2 h2
theorem dwR (t : ByteArray) (m : Nat) (h : m < t.size) (h3 : t.size ≤ m + 1) (h2 : t[m].toNat = 32) : (t.extract 0 m).data.toList.reverse.dropWhile (fun c => c == 32) = t.data.toList.reverse.dropWhile (fun c => c == 32) := by
  rw [ext_init t m h h3, List.reverse_append, List.reverse_singleton, List.singleton_append, List.dropWhile_cons, if_pos (by rw [show t[m] = 32 from UInt8.toNat_inj.1 (by simpa using h2)]; rfl)]
theorem dwM (t : ByteArray) (m : Nat) (h : m < t.size) (h3 : t.size ≤ m + 1) (h2 : ¬ t[m].toNat = 32) : t.data.toList.reverse.dropWhile (fun c => c == 32) = t.data.toList.reverse := by
  rw [dw_same, ext_init t m h h3, List.reverse_append, List.reverse_singleton, List.singleton_append]
  simp only [List.head?_cons, Option.mem_some_iff, forall_eq']
  exact (u8_32 _).2 h2
theorem nilL {t : ByteArray} (h : ¬ 0 < t.size) : t.data.toList = [] := by
  have : t.data.toList.length = 0 := by simpa using h
  exact List.length_eq_zero_iff.1 this
end Plain

set_option maxRecDepth 10000 in
set_option maxHeartbeats 1000000 in
theorem trimLeft_calls (s : ByteArray) (w : World) (hs : s.size ≤ 1000000000000) :
    Calls Tryz.prog 147 #[.string s, .int .u8 32] w fun e w' => (∃ t : ByteArray, e = .returned (.string t) ∧ t.size ≤ s.size ∧ t.data.toList = s.data.toList.dropWhile (fun c => c == 32)) ∧ w = w' := by
  go_enter Tryz.func147, Tryz.ntmps147
  go_wp2_with fail
  go_loop [0] (fun v => ∃ t : ByteArray, v = .string t ∧ t.size ≤ s.size ∧ Hid (t.data.toList.dropWhile (fun c => c == 32) = s.data.toList.dropWhile (fun c => c == 32))) (fun v => strSz v)
  case atStart => exact ⟨s, rfl, Nat.le_refl _, rfl⟩
  case round =>
    obtain ⟨t, rfl, hts, HR⟩ := hrel
    by_cases h0 : 0 < t.size
    · obtain ⟨c, hc⟩ : ∃ c, t[0].toNat = c := ⟨_, rfl⟩
      by_cases h32 : c = 32
      · have HR2 := hide ((dwL t h0 (hc.trans h32)).trans (unhide HR))
        subst h32
        clear HR
        go_wp2_with fail
        go_round
        case rel => exact ⟨t.extract 1 t.size, rfl, by simp <;> omega, HR2⟩
        case measure => simp [strSz]; omega
      · have HR2 := hide ((dwN t h0 (fun h => h32 (hc.symm.trans h))).symm.trans (unhide HR))
        have h32i : ((c : Int) == 32) = false := by simp <;> omega
        clear HR
        go_wp2_with fail
        go_ret
        exact ⟨⟨t, rfl, hts, unhide HR2⟩, rfl⟩
    · have HR2 := hide (show s.data.toList.dropWhile (fun c => c == 32) = [] from (unhide HR).symm.trans (by rw [nilL h0]; rfl))
      have HN := hide (nilL h0)
      clear HR
      go_wp2_with fail
      go_ret
      exact ⟨⟨t, rfl, hts, (unhide HN).trans (unhide HR2).symm⟩, rfl⟩

set_option maxRecDepth 10000 in
set_option maxHeartbeats 1000000 in
theorem trimRight_calls (s : ByteArray) (w : World) (hs : s.size ≤ 1000000000000) :
    Calls Tryz.prog 148 #[.string s, .int .u8 32] w fun e w' => (∃ t : ByteArray, e = .returned (.string t) ∧ t.size ≤ s.size ∧ t.data.toList = (s.data.toList.reverse.dropWhile (fun c => c == 32)).reverse) ∧ w = w' := by
  go_enter Tryz.func148, Tryz.ntmps148
  go_wp2_with fail
  go_loop [0] (fun v => ∃ t : ByteArray, v = .string t ∧ t.size ≤ s.size ∧ Hid (t.data.toList.reverse.dropWhile (fun c => c == 32) = s.data.toList.reverse.dropWhile (fun c => c == 32))) (fun v => strSz v)
  case atStart => exact ⟨s, rfl, Nat.le_refl _, rfl⟩
  case round =>
    obtain ⟨t, rfl, hts, HR⟩ := hrel
    by_cases h0 : 0 < t.size
    · obtain ⟨m, hm⟩ : ∃ m : Nat, (t.size : Int) - 1 = (m : Int) := ⟨t.size - 1, by omega⟩
      have hmt : m < t.size := by omega
      have hmt2 : t.size ≤ m + 1 := by omega
      have i0 : (0 : Int) ≤ (m : Int) := by omega
      have i1 : (m : Int) < (t.size : Int) := by omega
      obtain ⟨c, hc⟩ : ∃ c, t[m].toNat = c := ⟨_, rfl⟩
      by_cases h32 : c = 32
      · have HR2 := hide ((dwR t m hmt hmt2 (hc.trans h32)).trans (unhide HR))
        subst h32
        clear HR
        go_wp2_with fail
        go_round
        case rel => exact ⟨t.extract 0 m, rfl, by simp <;> omega, HR2⟩
        case measure => simp [strSz]; omega
      · have HR2 := hide ((dwM t m hmt hmt2 (fun h => h32 (hc.symm.trans h))).symm.trans (unhide HR))
        have h32i : ((c : Int) == 32) = false := by simp <;> omega
        clear HR
        go_wp2_with fail
        go_ret
        exact ⟨⟨t, rfl, hts, by rw [← unhide HR2, List.reverse_reverse]⟩, rfl⟩
    · have HR2 := hide (show s.data.toList.reverse.dropWhile (fun c => c == 32) = [] from (unhide HR).symm.trans (by rw [nilL h0]; rfl))
      have HN := hide (nilL h0)
      clear HR
      go_wp2_with fail
      go_ret
      exact ⟨⟨t, rfl, hts, by rw [unhide HR2]; exact unhide HN⟩, rfl⟩

set_option maxRecDepth 10000 in
set_option maxHeartbeats 1000000 in
theorem trim_calls (s : ByteArray) (w : World) (hs : s.size ≤ 1000000000000) :
    Calls Tryz.prog 133 #[.string s, .string ⟨#[32]⟩] w fun e w' => (∃ t : ByteArray, e = .returned (.string t) ∧ t.size ≤ s.size ∧ t.data.toList = trmL s.data.toList) ∧ Below w.heap.size w w' := by
  by_cases h0 : s.size = 0
  · have hn : s.toList.isEmpty = true := by rw [ByteArray.toList_eq, nilL (by omega)]; rfl
    have HN := hide (show s.data.toList = trmL s.data.toList from by rw [nilL (by omega)]; rfl)
    go_enter Tryz.func133, Tryz.ntmps133
    go_wp2_with fail
    go_ret
    exact ⟨⟨s, rfl, Nat.le_refl _, unhide HN⟩, Below.refl _ _⟩
  · have hn : s.toList.isEmpty = false := by
      rw [ByteArray.toList_eq]
      cases h : s.data.toList with
      | nil => exact absurd (by simpa using congrArg List.length h) h0
      | cons x t => rfl
    have HL := hide (fun W => trimRight_calls s W hs)
    have k32 : (⟨#[32]⟩ : ByteArray)[0].toNat = 32 := rfl
    go_enter Tryz.func133, Tryz.ntmps133
    go_wp2_with fail
    go_region_with (first
      | (go_at_call 148; refine (unhide HL _).mono ?_; rintro e w1 ⟨⟨t, rfl, ht, htl⟩, rfl⟩)
      | (go_at_call 147; refine (trimLeft_calls t _ (by omega)).mono ?_; rintro e w2 ⟨⟨r, rfl, hr, hrl⟩, rfl⟩))
    all_goals (try go_wp2_with fail)
    all_goals (try go_ret)
    all_goals exact ⟨⟨r, rfl, by omega, by rw [hrl, htl]; rfl⟩, by first | exact Below.refl _ _ | exact belDrew (Below.refl _ _)⟩

set_option maxRecDepth 10000 in
set_option maxHeartbeats 1000000 in
theorem ends_calls (s : ByteArray) (w : World) (hs : s.size ≤ 1000000000000) :
    Calls Tryz.prog 112 #[.string s] w fun e w' => (∃ t : ByteArray, e = .returned (.string t) ∧ t.size ≤ s.size ∧ t.data.toList = trmL s.data.toList) ∧ Below w.heap.size w w' := by
  go_enter Tryz.func112, Tryz.ntmps112
  go_wp2_with fail
  refine (trim_calls s _ hs).mono ?_
  rintro e w1 ⟨⟨t, rfl, ht, htl⟩, hb1⟩
  go_wp2_with fail
  go_ret
  exact ⟨⟨t, rfl, ht, htl⟩, hb1⟩

set_option maxRecDepth 10000 in
theorem prefL_calls (s : ByteArray) (w : World) (hs : s.size ≤ 1000000000000) :
    Calls Tryz.prog 105 #[.string s, .string ⟨#[47]⟩] w fun e w' => e = .returned (.bool (decide (0 < s.size) && decide ((s.data.toList.headD 0).toNat = 47))) ∧ w = w' := by
  by_cases h0 : 0 < s.size
  · obtain ⟨c, hc⟩ : ∃ c, s[0].toNat = c := ⟨_, rfl⟩
    have hx : (s.extract 0 1).toList = [s[0]] := by
      rw [ByteArray.toList_eq, ByteArray.data_extract, Array.toList_extract, List.extract_eq_take_drop, List.drop_zero, ext_tail s h0]
      rfl
    have hh : s.data.toList.headD 0 = s[0] := by rw [ext_tail s h0]; rfl
    have hq : ((s.extract 0 1).toList == [47]) = decide (c = 47) := by
      rw [hx, ← hc, Bool.eq_iff_iff]
      simp only [beq_iff_eq, List.cons.injEq, and_true, decide_eq_true_eq]
      exact ⟨fun h => by rw [h]; rfl, fun h => UInt8.toNat_inj.1 (by simpa using h)⟩
    rw [hh, hc]
    have HC := hide h0
    clear hx hh hc
    go_enter Tryz.func105, Tryz.ntmps105
    go_wp2_with fail
    go_ret
    exact ⟨retB (by simp [unhide HC]), rfl⟩
  · go_enter Tryz.func105, Tryz.ntmps105
    go_wp2_with fail
    go_ret
    exact ⟨retB (by simp), rfl⟩

set_option maxRecDepth 10000 in
theorem prefix_calls (s : ByteArray) (w : World) (hs : s.size ≤ 1000000000000) :
    Calls Tryz.prog 70 #[.string s, .string ⟨#[47]⟩] w fun e w' => e = .returned (.bool (decide (0 < s.size) && decide ((s.data.toList.headD 0).toNat = 47))) ∧ w = w' := by
  obtain ⟨b, hb⟩ : ∃ b, (decide (0 < s.size) && decide ((s.data.toList.headD 0).toNat = 47)) = b := ⟨_, rfl⟩
  have HP := hide (prefL_calls s w hs)
  rw [hb] at HP
  rw [hb]
  clear hb
  go_enter Tryz.func70, Tryz.ntmps70
  go_wp2_with fail
  refine (unhide HP).mono ?_
  rintro e w1 ⟨rfl, rfl⟩
  go_wp2_with fail
  go_ret
  exact ⟨rfl, rfl⟩
end Go.Proofs.YtanekbifdedmeaaGreatDoor
