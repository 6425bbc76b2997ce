/- What a digest is: DigestOk and Nibble of both programs by their contracts. -/
import Derived.Test.YtnokbnoncdebmaaHex
import Derived.Test.YtnokbnoncdebmaaNum
namespace Go.Proofs.Ytnokbnoncdebmaa
open Go.RowKit Plain
set_option linter.unusedVariables false

namespace Plain
def hexFrom (t : ByteArray) (k : Nat) : Bool := (t.data.toList.drop k).all fun c => decide (0 ≤ hexI c.toNat)

theorem hexFrom_step (t : ByteArray) (k : Nat) (h : k < t.size) : hexFrom t k = (decide (0 ≤ hexI t[k].toNat) && hexFrom t (k + 1)) := by
  unfold hexFrom
  rw [List.drop_eq_getElem_cons (by simpa using h)]
  rfl

theorem hexFrom_end (t : ByteArray) (k : Nat) (h : t.size ≤ k) : hexFrom t k = true := by
  unfold hexFrom
  rw [List.drop_of_length_le (by simpa using h)]
  rfl

theorem hexFrom_extract (s : ByteArray) (h : 7 ≤ s.size) : hexFrom (s.extract 7 s.size) 0 = hexFrom s 7 := by
  unfold hexFrom
  congr 1
  rw [ByteArray.data_extract, Array.toList_extract]
  simp [List.extract_eq_take_drop]
  exact List.take_of_length_le (by simp)

def shaL : List UInt8 := [115, 104, 97, 50, 53, 54, 58]
def digB (s : ByteArray) : Bool := decide (s.size = 71) && ((s.extract 0 7).toList == shaL) && hexFrom s 7

theorem digB_size {s : ByteArray} (h : ¬ s.size = 71) : digB s = false := by unfold digB; simp [h]
theorem digB_head {s : ByteArray} (h : ((s.extract 0 7).toList == shaL) = false) : digB s = false := by unfold digB; rw [h]; simp
theorem digB_rest {s : ByteArray} (h1 : s.size = 71) (h : ((s.extract 0 7).toList == shaL) = true) : digB s = hexFrom s 7 := by unfold digB; rw [h]; simp [h1]
end Plain

set_option maxHeartbeats 1000000 in
theorem spec_DigestOk (s : ByteArray) (w : World) (hs : s.size ≤ 1000000000000) :
    Calls Try.prog 26 #[.string s] w fun e w' => e = .returned (.bool (digB s)) ∧ w = w' := by
  by_cases h1 : s.size = 71
  · cases h2 : ((s.extract 0 7).toList == shaL) with
    | false =>
      rw [digB_head h2]
      unfold shaL at h2
      go_enter Try.func26, Try.ntmps26
      go_wp2
      go_ret
      exact ⟨rfl, rfl⟩
    | true =>
      rw [digB_rest h1 h2]
      unfold shaL at h2
      have hs1 : s.size ≤ 71 := by omega
      have hs2 : 71 ≤ s.size := by omega
      go_enter Try.func26, Try.ntmps26
      go_wp2_with fail
      go_loop [3] (fun i => ∃ k : Nat, i = .int .i64 k ∧ 7 ≤ k ∧ k ≤ 71 ∧ Hid (hexFrom s k = hexFrom s 7)) (fun i => 71 - (intOf i).toNat)
      case atStart => exact ⟨7, rfl, by omega, by omega, rfl⟩
      case round =>
        obtain ⟨k, rfl, hk7, hk71, hrel⟩ := hrel
        by_cases hlt : k < 71
        · have hlt2 : k < s.size := by omega
          obtain ⟨c, hc⟩ : ∃ c, s[k].toNat = c := ⟨_, rfl⟩
          have hc256 : c < 256 := by rw [← hc]; exact s[k].toNat_lt
          have hst := hexFrom_step s k hlt2
          rw [hc] at hst
          by_cases hneg : hexI c < 0
          · have hres := hide ((unhide hrel).symm.trans (by rw [hst]; simp; intro; omega) : hexFrom s 7 = false)
            clear hst hrel
            go_wp2_with (go_at_call 32; refine (spec_l1Hexit _ _ (by omega) (by omega)).mono ?_; rintro e w' ⟨rfl, rfl⟩)
            go_ret
            exact ⟨by rw [unhide hres]; rfl, rfl⟩
          · have hres := hide ((by rw [hst]; simp; intro; omega : hexFrom s (k + 1) = hexFrom s k).trans (unhide hrel))
            clear hst hrel
            go_wp2_with (go_at_call 32; refine (spec_l1Hexit _ _ (by omega) (by omega)).mono ?_; rintro e w' ⟨rfl, rfl⟩)
            go_round
            case rel => exact ⟨k + 1, by go_num, by omega, by omega, hres⟩
            case measure => simp [intOf]; omega
        · have hres := hide ((unhide hrel).symm.trans (hexFrom_end s k (by omega)))
          clear hrel
          go_wp2
          go_ret
          exact ⟨by rw [unhide hres]; rfl, rfl⟩
  · rw [digB_size h1]
    go_enter Try.func26, Try.ntmps26
    go_wp2
    go_ret
    exact ⟨rfl, rfl⟩

theorem cut_yes (s : ByteArray) (w : World) (hs : s.size ≤ 1000000000000) (h : 7 ≤ s.size) (h2 : ((s.extract 0 7).toList == [115, 104, 97, 50, 53, 54, 58]) = true) :
    Calls Try.prog 48 #[.string s, .string { data := #[115, 104, 97, 50, 53, 54, 58] }] w fun e w' => e = .returned (.tuple #[.string (s.extract 7 s.size), .bool true]) ∧ w = w' := by
  go_enter Try.func48, Try.ntmps48
  go_wp2
  go_ret2
  exact ⟨rfl, rfl⟩

theorem cut_no (s : ByteArray) (w : World) (hs : s.size ≤ 1000000000000) (h : s.size < 7 ∨ 7 ≤ s.size ∧ ((s.extract 0 7).toList == [115, 104, 97, 50, 53, 54, 58]) = false) :
    Calls Try.prog 48 #[.string s, .string { data := #[115, 104, 97, 50, 53, 54, 58] }] w fun e w' => e = .returned (.tuple #[.string s, .bool false]) ∧ w = w' := by
  rcases h with h | ⟨h, h2⟩
  · go_enter Try.func48, Try.ntmps48
    go_wp2
    go_ret2
    exact ⟨rfl, rfl⟩
  · go_enter Try.func48, Try.ntmps48
    go_wp2
    go_ret2
    exact ⟨rfl, rfl⟩

set_option maxHeartbeats 1000000 in
theorem impl_DigestOk (s : ByteArray) (w : World) (hs : s.size ≤ 1000000000000) :
    Calls Try.prog 41 #[.string s] w fun e w' => e = .returned (.bool (digB s)) ∧ w = w' := by
  by_cases h0 : s.size < 7 ∨ 7 ≤ s.size ∧ ((s.extract 0 7).toList == [115, 104, 97, 50, 53, 54, 58]) = false
  · have hd : digB s = false := by
      rcases h0 with h | h
      · exact digB_size (by omega)
      · exact digB_head h.2
    rw [hd]
    clear hd
    have H0 := hide h0
    clear h0
    go_enter Try.func41, Try.ntmps41
    go_wp2_with fail
    refine (cut_no s _ hs (unhide H0)).mono ?_
    rintro e w' ⟨rfl, rfl⟩
    go_wp2
    go_ret
    exact ⟨rfl, rfl⟩
  · have h7 : 7 ≤ s.size := by omega
    have h2 : ((s.extract 0 7).toList == [115, 104, 97, 50, 53, 54, 58]) = true := by
      cases h : ((s.extract 0 7).toList == [115, 104, 97, 50, 53, 54, 58]) with
      | true => rfl
      | false => exact absurd (.inr ⟨h7, h⟩) h0
    have H2 := hide h2
    have hsz : (s.extract 7 s.size).size = s.size - 7 := by rw [ByteArray.size_extract]; omega
    clear h0
    by_cases h1 : s.size = 71
    · have hd : digB s = hexFrom (s.extract 7 s.size) 0 := (digB_rest h1 h2).trans (hexFrom_extract s h7).symm
      rw [hd]
      clear hd h2
      have ht64 : (s.extract 7 s.size).size = 64 := by omega
      obtain ⟨t, ht⟩ : ∃ t, s.extract 7 s.size = t := ⟨_, rfl⟩
      have H3 := hide h1
      rw [ht] at ht64 ⊢
      have HT := hide ht
      clear ht hsz h1
      have ht1 : t.size ≤ 64 := by omega
      have ht2 : 64 ≤ t.size := by omega
      go_enter Try.func41, Try.ntmps41
      go_wp2_with fail
      refine (cut_yes s _ hs h7 (unhide H2)).mono ?_
      rintro e w' ⟨rfl, rfl⟩
      rw [unhide HT]
      go_wp2_with fail
      go_loop [20] (fun i => ∃ k : Nat, i = .int .i64 k ∧ k ≤ 64 ∧ Hid (hexFrom t k = hexFrom t 0)) (fun i => 64 - (intOf i).toNat)
      case atStart => exact ⟨0, rfl, by omega, rfl⟩
      case round =>
        obtain ⟨k, rfl, hk71, hrel⟩ := hrel
        by_cases hlt : k < 64
        · have hlt2 : k < t.size := by omega
          obtain ⟨c, hc⟩ : ∃ c, t[k].toNat = c := ⟨_, rfl⟩
          have hc256 : c < 256 := by rw [← hc]; exact t[k].toNat_lt
          have hst := hexFrom_step t k hlt2
          rw [hc] at hst
          by_cases hneg : hexI c < 0
          · have hres := hide ((unhide hrel).symm.trans (by rw [hst]; simp; intro; omega) : hexFrom t 0 = false)
            clear hst hrel
            go_wp2_with (go_at_call 33; refine (impl_hexValue _ _ (by omega) (by omega)).mono ?_; rintro e w' ⟨rfl, rfl⟩)
            go_ret
            exact ⟨by rw [unhide hres]; rfl, rfl⟩
          · have hres := hide ((by rw [hst]; simp; intro; omega : hexFrom t (k + 1) = hexFrom t k).trans (unhide hrel))
            clear hst hrel
            go_wp2_with (go_at_call 33; refine (impl_hexValue _ _ (by omega) (by omega)).mono ?_; rintro e w' ⟨rfl, rfl⟩)
            go_round
            case rel => exact ⟨k + 1, by go_num, by omega, hres⟩
            case measure => simp [intOf]; omega
        · have hres := hide ((unhide hrel).symm.trans (hexFrom_end t k (by omega)))
          clear hrel
          go_wp2
          go_ret
          exact ⟨by rw [unhide hres]; rfl, rfl⟩
    · rw [digB_size h1]
      have hne : ¬ (s.size - 7 = 64) := by omega
      go_enter Try.func41, Try.ntmps41
      go_wp2_with fail
      refine (cut_yes s _ hs h7 (unhide H2)).mono ?_
      rintro e w' ⟨rfl, rfl⟩
      go_wp2
      go_ret
      exact ⟨rfl, rfl⟩
end Go.Proofs.Ytnokbnoncdebmaa
