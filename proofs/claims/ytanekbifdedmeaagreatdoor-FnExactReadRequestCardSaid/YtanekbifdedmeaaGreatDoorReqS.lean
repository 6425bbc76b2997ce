/- The specification's checks of texts and lists. -/
import Derived.Test.YtanekbifdedmeaaGreatDoorReqK
namespace Go.Proofs.YtanekbifdedmeaaGreatDoor
open Go.RowKit Plain
set_option linter.unusedVariables false

namespace Plain
/-- From the k-th byte on none is c. -/
def noneF (t : ByteArray) (c : Nat) (k : Nat) : Bool := !((t.data.toList.drop k).any fun b => decide (b.toNat = c))
theorem noneF_step (t : ByteArray) (c k : Nat) (h : k < t.size) : noneF t c k = (!decide (t[k].toNat = c) && noneF t c (k + 1)) := by
  unfold noneF
  rw [List.drop_eq_getElem_cons (by simpa using h), List.any_cons, Bool.not_or]
  rfl
theorem noneF_end (t : ByteArray) (c k : Nat) (h : t.size ≤ k) : noneF t c k = true := by
  unfold noneF
  rw [List.drop_of_length_le (by simpa using h)]
  rfl
theorem lowC_no {low c : Nat} {t : ByteArray} (h : c < low ∨ 126 < c) : lowC low t c = false := by
  unfold lowC
  rcases h with h | h
  · simp [show ¬ low ≤ c from by omega]
  · simp [show ¬ c ≤ 126 from by omega]
theorem lowC_yes {low c : Nat} {t : ByteArray} (h : low ≤ c) (h2 : c ≤ 126) : lowC low t c = noneF t c 0 := by
  unfold lowC noneF
  simp [h, h2]
end Plain

set_option maxRecDepth 10000 in
set_option maxHeartbeats 2000000 in
theorem l16Bytes_calls (s t : ByteArray) (lo hi low : Nat) (w : World) (hs : s.size ≤ 1000000000000) (ht : t.size ≤ 1000) (h1 : lo ≤ 1000) (h2 : hi ≤ 1000) (h3 : low < 256) :
    Calls Tryz.prog 104 #[.string s, .int .i64 lo, .int .i64 hi, .int .u8 low, .string t] w fun e w' => e = .returned (.bool (texB lo hi (lowC low t) s)) ∧ Below w.heap.size w w' := by
  by_cases ha : s.size < lo
  · rw [texB_no (.inl ha)]
    go_enter Tryz.func104, Tryz.ntmps104
    go_wp2
    go_ret
    exact ⟨rfl, Below.refl _ _⟩
  by_cases hb : hi < s.size
  · rw [texB_no (.inr hb)]
    go_enter Tryz.func104, Tryz.ntmps104
    go_wp2
    go_ret
    exact ⟨rfl, Below.refl _ _⟩
  rw [texB_yes (by omega) (by omega)]
  obtain ⟨R, hR⟩ : ∃ R, allF (lowC low t) s 0 = R := ⟨_, rfl⟩
  rw [hR]
  have HR := hide hR
  clear hR
  go_enter Tryz.func104, Tryz.ntmps104
  go_wp2_with fail
  go_loopw [11] (fun i wr => ∃ k : Nat, i = .int .i64 k ∧ k ≤ s.size ∧ Hid (allF (lowC low t) s k = R) ∧ Hid (Below w.heap.size w wr)) (fun i _ => s.size - (intOf i).toNat)
  case atStart => exact ⟨0, rfl, by omega, HR, hide (Below.refl _ _)⟩
  case round =>
    obtain ⟨k, rfl, hk, HV, HB⟩ := hrel
    by_cases hlt : k < s.size
    · obtain ⟨c, hc⟩ : ∃ c, s[k].toNat = c := ⟨_, rfl⟩
      have hc256 : c < 256 := by rw [← hc]; exact s[k].toNat_lt
      have hst := allF_step (lowC low t) s k hlt
      rw [hc] at hst
      by_cases hl : c < low
      · have HX := hide (show R = false from by rw [← unhide HV, hst, lowC_no (.inl hl)]; rfl)
        clear hst HV
        go_wp2_with fail
        go_ret
        exact ⟨by rw [unhide HX]; rfl, unhide HB⟩
      by_cases hu : 126 < c
      · have HX := hide (show R = false from by rw [← unhide HV, hst, lowC_no (.inr hu)]; rfl)
        clear hst HV
        go_wp2_with fail
        go_ret
        exact ⟨by rw [unhide HX]; rfl, unhide HB⟩
      rw [lowC_yes (by omega) (by omega), unhide HV] at hst
      have HST := hide hst
      clear hst HV
      go_wp2_with fail
      go_loopw [12] (fun i wr => ∃ j : Nat, i = .int .i64 j ∧ j ≤ t.size ∧ Hid (noneF t c j = noneF t c 0) ∧ Hid (Below w.heap.size w wr)) (fun i _ => t.size - (intOf i).toNat)
      case atStart => exact ⟨0, rfl, by omega, rfl, HB⟩
      case round =>
        obtain ⟨j, rfl, hj, HN, HB2⟩ := hrel
        by_cases hjt : j < t.size
        · obtain ⟨d, hd⟩ : ∃ d, t[j].toNat = d := ⟨_, rfl⟩
          have hsj := noneF_step t c j hjt
          rw [hd] at hsj
          have k0 : (0 : Int) ≤ (k : Int) := by omega
          have k1 : (k : Int) < (s.size : Int) := by omega
          have j0 : (0 : Int) ≤ (j : Int) := by omega
          have j1 : (j : Int) < (t.size : Int) := by omega
          by_cases hcd : c = d
          · have HX := hide (show R = false from by rw [unhide HST, ← unhide HN, hsj]; simp [hcd])
            have e1 : ((c : Int) == (d : Int)) = true := by simp [hcd]
            clear hsj HN HST hcd
            go_wp2_with fail
            go_region
            all_goals (try go_wp2_with fail)
            all_goals (try go_ret)
            all_goals exact ⟨by rw [unhide HX]; rfl, belDrew (unhide HB2)⟩
          · have HX := hide (show noneF t c (j + 1) = noneF t c 0 from by rw [← unhide HN, hsj, decide_eq_false (fun h => hcd h.symm)]; rfl)
            have e1 : ((c : Int) == (d : Int)) = false := by simp; omega
            clear hsj HN hcd
            go_wp2_with fail
            go_region
            all_goals (try go_wp2_with fail)
            all_goals exact ⟨⟨j + 1, by go_num, by omega, HX, hide (belDrew (unhide HB2))⟩, by simp [intOf]; omega⟩
        · have HX := hide (show allF (lowC low t) s (k + 1) = R from by rw [unhide HST, ← unhide HN, noneF_end t c j (by omega)]; rfl)
          clear HN HST
          go_wp2_with fail
          go_roundw
          case rel => exact ⟨k + 1, by go_num, by omega, HX, HB2⟩
          case measure => simp [intOf]; omega
    · have HX := hide ((unhide HV).symm.trans (allF_end (lowC low t) s k (by omega)))
      clear HV
      go_wp2_with fail
      go_ret
      exact ⟨by rw [unhide HX]; rfl, unhide HB⟩
end Go.Proofs.YtanekbifdedmeaaGreatDoor
