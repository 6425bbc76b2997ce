/- Nibble of both programs by its contract. -/
import Derived.Test.YtlkkhhelonbcbaaDoorDig
namespace Go.Proofs.YtlkkhhelonbcbaaDoor
open Go.RowKit Plain
set_option linter.unusedVariables false

namespace Plain
def nibI (s : ByteArray) (k : Int) : Int := if digB s = true ∧ 0 ≤ k ∧ k ≤ 63 then hexI ((s.data.toList.getD (7 + k.toNat) 0).toNat) else -1

theorem digB_71 {s : ByteArray} (h : digB s = true) : s.size = 71 := by
  unfold digB at h
  simp at h
  exact h.1.1
end Plain



set_option maxHeartbeats 1000000 in
theorem impl_Nibble (s : ByteArray) (k : Int) (w : World) (hs : s.size ≤ 1000000000000) :
    Calls Tryd.prog 13 #[.string s, .int .i64 k] w fun e w' => e = .returned (.int .i64 (nibI s k)) ∧ w = w' := by
  cases hd : digB s with
  | false =>
    rw [show nibI s k = -1 from by unfold nibI; rw [hd]; simp]
    have HD := hide hd
    clear hd
    go_enter Tryd.func13, Tryd.ntmps13
    go_wp2_with fail
    refine (impl_DigestOk s _ hs).mono ?_
    rintro e w' ⟨rfl, rfl⟩
    rw [unhide HD]
    go_wp2
    go_ret
    exact ⟨rfl, rfl⟩
  | true =>
    have h71 := digB_71 hd
    have hs1 : 71 ≤ s.size := by omega
    by_cases hk : 0 ≤ k ∧ k ≤ 63
    · obtain ⟨hk0, hk1⟩ := hk
      obtain ⟨K, rfl⟩ := Int.eq_ofNat_of_zero_le hk0
      have hlt : 7 + K < s.size := by omega
      obtain ⟨c, hc⟩ : ∃ c, s[7 + K].toNat = c := ⟨_, rfl⟩
      have hc256 : c < 256 := by rw [← hc]; exact s[7 + K].toNat_lt
      have hn : nibI s K = hexI c := by
        unfold nibI
        rw [if_pos ⟨hd, hk0, hk1⟩, ← hc, Int.toNat_natCast, List.getD, List.getElem?_eq_getElem (by simpa using hlt)]
        rfl
      rw [hn]
      have hI : (decide ((0 : Int) ≤ (K : Int)) && decide ((K : Int) ≤ 63)) = true := by simp; omega
      have HD := hide hd
      clear hd hn h71
      go_enter Tryd.func13, Tryd.ntmps13
      go_wp2_with fail
      refine (impl_DigestOk s _ hs).mono ?_
      rintro e w' ⟨rfl, rfl⟩
      rw [unhide HD]
      go_wp2_with ((go_at_call 27; refine (impl_hexValue _ _ (by omega) (by omega)).mono ?_; rintro e w' ⟨rfl, rfl⟩))
      go_ret
      exact ⟨rfl, rfl⟩
    · rw [show nibI s k = -1 from by unfold nibI; rw [if_neg (by intro h; exact hk h.2)]]
      have hI : (decide ((0 : Int) ≤ k) && decide (k ≤ 63)) = false := by simp; omega
      have HD := hide hd
      clear hd h71
      rcases (show k < 0 ∨ 63 < k from by omega) with hk0 | hk0
      all_goals
        go_enter Tryd.func13, Tryd.ntmps13
        go_wp2_with fail
        refine (impl_DigestOk s _ hs).mono ?_
        rintro e w' ⟨rfl, rfl⟩
        rw [unhide HD]
        go_wp2_with (fail)
        go_ret
        exact ⟨rfl, rfl⟩

end Go.Proofs.YtlkkhhelonbcbaaDoor
