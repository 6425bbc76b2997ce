/- Members read out of texts, by the specification: numbers. -/
import Derived.Test.YtfjldlmdhemajaaDoorRdcM
import Derived.Test.YtfjldlmdhemajaaDoorConS
namespace Go.Proofs.YtfjldlmdhemajaaDoor
open Go.RowKit Plain
set_option linter.unusedVariables false

namespace Plain
def digF : List UInt8 → Int → Option Int
  | [], n => some n
  | c :: l, n => if 48 ≤ c.toNat ∧ c.toNat ≤ 57 then digF l (n * 10 + ((c.toNat - 48 : Nat) : Int)) else none
def badF (l : List UInt8) : Bool := decide (l.length < 1) || decide (15 < l.length) || (decide (1 < l.length) && decide (l.head? = some 48))
def numO : Option Int → Int
  | none => -1
  | some n => if 50 < n then -1 else n
/-- The number of a word, or -1. -/
def numF (l : List UInt8) : Int := if badF l = true then -1 else numO (digF l 0)
theorem numF_dec : ∀ a : Int, 1 ≤ a → a ≤ 50 → numF (Lib.decDigits a.toNat) = a := by
  intro a h1 h50
  have hd : ∀ n : Fin 51, 1 ≤ n.val → numF (decF 3 n.val []) = (n.val : Int) := by decide
  have e := decF_is ⟨a.toNat, by omega⟩ (by simp; omega)
  have := hd ⟨a.toNat, by omega⟩ (by simp; omega)
  rw [e] at this
  rw [this]
  simp only
  omega
end Plain
theorem retB {a b : Bool} (h : a = b) : Ending.returned (.bool a) = .returned (.bool b) := by rw [h]
theorem dig9_calls (n : Nat) (w : World) (hn : n < 256) :
    Calls Tryd.prog 19 #[.int .u8 n] w fun e w' => e = .returned (.bool (decide (48 ≤ n) && decide (n ≤ 57))) ∧ w = w' := by
  obtain ⟨w0, rfl⟩ : ∃ w0, w0 = w := ⟨_, rfl⟩
  by_cases h1 : 48 ≤ n
  · by_cases h2 : n ≤ 57
    · rw [decide_eq_true h1, decide_eq_true h2]
      go_enter Tryd.func19, Tryd.ntmps19
      go_wp2_with fail
      go_ret
      exact ⟨retB (by simp; omega), rfl⟩
    · rw [decide_eq_true h1, decide_eq_false h2]
      go_enter Tryd.func19, Tryd.ntmps19
      go_wp2_with fail
      go_ret
      exact ⟨retB (by simp; omega), rfl⟩
  · rw [decide_eq_false h1, Bool.false_and]
    go_enter Tryd.func19, Tryd.ntmps19
    go_wp2_with fail
    go_ret
    exact ⟨rfl, rfl⟩

set_option maxRecDepth 10000 in
set_option maxHeartbeats 4000000 in
theorem l1Number_calls (s : ByteArray) (w : World) (hs : s.size ≤ 10000000) :
    Calls Tryd.prog 10 #[.string s, .int .i64 50] w fun e w' => e = .returned (.int .i64 (numF s.data.toList)) ∧ w = w' := by
  obtain ⟨w0, rfl⟩ : ∃ w0, w0 = w := ⟨_, rfl⟩
  have hln := len_data s
  obtain ⟨R, hR⟩ : ∃ R, numF s.data.toList = R := ⟨_, rfl⟩
  rw [hR]
  have HR := hide hR
  clear hR
  by_cases a1 : s.size < 1
  · have HX := hide (show R = -1 from by rw [← unhide HR]; unfold numF badF; rw [hln, decide_eq_true a1]; rfl)
    rw [unhide HX]
    clear hln
    go_enter Tryd.func10, Tryd.ntmps10
    go_wp2_with fail
    go_ret
    exact ⟨rfl, rfl⟩
  by_cases a2 : 15 < s.size
  · have HX := hide (show R = -1 from by rw [← unhide HR]; unfold numF badF; rw [hln, decide_eq_true a2, Bool.or_true]; rfl)
    rw [unhide HX]
    clear hln
    go_enter Tryd.func10, Tryd.ntmps10
    go_wp2_with fail
    go_ret
    exact ⟨rfl, rfl⟩
  have h0l : 0 < s.size := by omega
  obtain ⟨c0, hc0⟩ : ∃ c, s[0].toNat = c := ⟨_, rfl⟩
  have hhd : decide (s.data.toList.head? = some 48) = decide (c0 = 48) := by
    rw [List.head?_eq_getElem?, List.getElem?_eq_getElem (by rw [hln]; exact h0l)]
    rw [decide_eq_decide]
    have e : s.data.toList[0]'(by rw [hln]; exact h0l) = s[0] := rfl
    rw [e, ← hc0]
    constructor
    · intro q; rw [Option.some.inj q]; rfl
    · intro q; exact congrArg some (UInt8.toNat_inj.1 q)
  by_cases a3 : 1 < s.size ∧ c0 = 48
  · obtain ⟨a31, rfl⟩ := a3
    have HX := hide (show R = -1 from by rw [← unhide HR]; unfold numF badF; rw [hln, hhd, decide_eq_true a31]; simp)
    rw [unhide HX]
    clear hln hhd
    go_enter Tryd.func10, Tryd.ntmps10
    go_wp2_with fail
    go_ret
    exact ⟨rfl, rfl⟩
  obtain ⟨D, hD⟩ : ∃ D, digF s.data.toList 0 = D := ⟨_, rfl⟩
  have HRD := hide (show R = numO D from by
    rw [← unhide HR]
    unfold numF
    have hb : badF s.data.toList = false := by
      unfold badF
      rw [hln, hhd, decide_eq_false a1, decide_eq_false a2]
      simp only [Bool.false_or]
      by_cases q : 1 < s.size
      · rw [decide_eq_false (fun e => a3 ⟨q, e⟩), Bool.and_false]
      · rw [decide_eq_false q, Bool.false_and]
    rw [hb, if_neg (by decide), hD])
  have HD := hide hD
  clear hD hhd hln HR
  by_cases q : 1 < s.size
  · have hne : ((c0 : Int) == 48) = false := by
      rw [beq_eq_false_iff_ne]
      intro e
      exact a3 ⟨q, by omega⟩
    clear a3
    go_enter Tryd.func10, Tryd.ntmps10
    go_wp2_with fail
    go_loopw [5, 6] (fun s5 s6 wr => ∃ (k : Nat) (N : Int), s5 = .int .i64 N ∧ s6 = .int .i64 k ∧ k ≤ s.size ∧ 0 ≤ N ∧ Hid (N < ((10 ^ k : Nat) : Int)) ∧ Hid (digF (s.data.toList.drop k) N = D) ∧ wr = w0) (fun _ s6 _ => s.size - (intOf s6).toNat)
    case atStart => exact ⟨0, 0, rfl, rfl, by omega, by omega, hide (by decide), hide (by rw [List.drop_zero]; exact unhide HD), rfl⟩
    case round =>
      obtain ⟨k, N, rfl, rfl, hk, hN0, HN, HO, rfl⟩ := hrel
      by_cases hlt : k < s.size
      · obtain ⟨c, hc⟩ : ∃ c, s[k].toNat = c := ⟨_, rfl⟩
        have hc256 : c < 256 := by rw [← hc]; exact s[k].toNat_lt
        have hll : k < s.data.toList.length := by rw [len_data]; exact hlt
        have hcl : (s.data.toList[k]).toNat = c := hc
        have hst := unhide HO
        rw [List.drop_eq_getElem_cons hll, digF, hcl] at hst
        have hN15 : N < 1000000000000000 := by
          have h1 : (10 ^ k : Nat) ≤ 10 ^ 15 := Nat.pow_le_pow_right (by decide) (by omega)
          have h2 := unhide HN
          have h3 : (10 ^ 15 : Nat) = 1000000000000000 := by decide
          omega
        by_cases hd : 48 ≤ c ∧ c ≤ 57
        · rw [if_pos hd] at hst
          obtain ⟨d1, d2⟩ := hd
          have HS := hide hst
          have HB := hide (show (decide (48 ≤ c) && decide (c ≤ 57)) = true from by simp [d1, d2])
          have HP := hide (show N * 10 + ((c - 48 : Nat) : Int) < ((10 ^ (k + 1) : Nat) : Int) from by
            have h2 := unhide HN
            have h3 : (10 ^ (k + 1) : Nat) = 10 ^ k * 10 := Nat.pow_succ 10 k
            rw [h3]
            generalize (10 ^ k : Nat) = P at h2
            omega)
          clear hst hll hcl HO
          go_wp2_with (go_at_call 19; refine (dig9_calls c _ hc256).mono ?_; rintro e w' ⟨rfl, rfl⟩; rw [unhide HB])
          go_roundw
          case rel => exact ⟨k + 1, N * 10 + ((c - 48 : Nat) : Int), by go_num, by go_num, by omega, by omega, HP, HS, trivial⟩
          case measure => simp [intOf]; omega
        · rw [if_neg hd] at hst
          have HX := hide (show R = -1 from by rw [unhide HRD, ← hst]; rfl)
          have HB := hide (show (decide (48 ≤ c) && decide (c ≤ 57)) = false from by
            by_cases d1 : 48 ≤ c
            · rw [decide_eq_false (show ¬ c ≤ 57 by omega), Bool.and_false]
            · rw [decide_eq_false d1, Bool.false_and])
          clear hst hll hcl HO hd
          go_wp2_with (go_at_call 19; refine (dig9_calls c _ hc256).mono ?_; rintro e w' ⟨rfl, rfl⟩; rw [unhide HB])
          go_ret
          exact ⟨by rw [unhide HX]; rfl, rfl⟩
      · obtain rfl : k = s.size := by omega
        have hst := unhide HO
        rw [List.drop_of_length_le (by rw [len_data]; exact Nat.le_refl _), digF] at hst
        by_cases h50 : 50 < N
        · have HX := hide (show R = -1 from by rw [unhide HRD, ← hst, numO]; rw [if_pos h50])
          clear hst HO
          go_wp2_with fail
          go_ret
          exact ⟨by rw [unhide HX]; rfl, rfl⟩
        · have HX := hide (show R = N from by rw [unhide HRD, ← hst, numO]; rw [if_neg h50])
          clear hst HO
          go_wp2_with fail
          go_ret
          exact ⟨by rw [unhide HX]; rfl, rfl⟩
  · clear a3
    go_enter Tryd.func10, Tryd.ntmps10
    go_wp2_with fail
    go_loopw [5, 6] (fun s5 s6 wr => ∃ (k : Nat) (N : Int), s5 = .int .i64 N ∧ s6 = .int .i64 k ∧ k ≤ s.size ∧ 0 ≤ N ∧ Hid (N < ((10 ^ k : Nat) : Int)) ∧ Hid (digF (s.data.toList.drop k) N = D) ∧ wr = w0) (fun _ s6 _ => s.size - (intOf s6).toNat)
    case atStart => exact ⟨0, 0, rfl, rfl, by omega, by omega, hide (by decide), hide (by rw [List.drop_zero]; exact unhide HD), rfl⟩
    case round =>
      obtain ⟨k, N, rfl, rfl, hk, hN0, HN, HO, rfl⟩ := hrel
      by_cases hlt : k < s.size
      · obtain ⟨c, hc⟩ : ∃ c, s[k].toNat = c := ⟨_, rfl⟩
        have hc256 : c < 256 := by rw [← hc]; exact s[k].toNat_lt
        have hll : k < s.data.toList.length := by rw [len_data]; exact hlt
        have hcl : (s.data.toList[k]).toNat = c := hc
        have hst := unhide HO
        rw [List.drop_eq_getElem_cons hll, digF, hcl] at hst
        have hN15 : N < 1000000000000000 := by
          have h1 : (10 ^ k : Nat) ≤ 10 ^ 15 := Nat.pow_le_pow_right (by decide) (by omega)
          have h2 := unhide HN
          have h3 : (10 ^ 15 : Nat) = 1000000000000000 := by decide
          omega
        by_cases hd : 48 ≤ c ∧ c ≤ 57
        · rw [if_pos hd] at hst
          obtain ⟨d1, d2⟩ := hd
          have HS := hide hst
          have HB := hide (show (decide (48 ≤ c) && decide (c ≤ 57)) = true from by simp [d1, d2])
          have HP := hide (show N * 10 + ((c - 48 : Nat) : Int) < ((10 ^ (k + 1) : Nat) : Int) from by
            have h2 := unhide HN
            have h3 : (10 ^ (k + 1) : Nat) = 10 ^ k * 10 := Nat.pow_succ 10 k
            rw [h3]
            generalize (10 ^ k : Nat) = P at h2
            omega)
          clear hst hll hcl HO
          go_wp2_with (go_at_call 19; refine (dig9_calls c _ hc256).mono ?_; rintro e w' ⟨rfl, rfl⟩; rw [unhide HB])
          go_roundw
          case rel => exact ⟨k + 1, N * 10 + ((c - 48 : Nat) : Int), by go_num, by go_num, by omega, by omega, HP, HS, trivial⟩
          case measure => simp [intOf]; omega
        · rw [if_neg hd] at hst
          have HX := hide (show R = -1 from by rw [unhide HRD, ← hst]; rfl)
          have HB := hide (show (decide (48 ≤ c) && decide (c ≤ 57)) = false from by
            by_cases d1 : 48 ≤ c
            · rw [decide_eq_false (show ¬ c ≤ 57 by omega), Bool.and_false]
            · rw [decide_eq_false d1, Bool.false_and])
          clear hst hll hcl HO hd
          go_wp2_with (go_at_call 19; refine (dig9_calls c _ hc256).mono ?_; rintro e w' ⟨rfl, rfl⟩; rw [unhide HB])
          go_ret
          exact ⟨by rw [unhide HX]; rfl, rfl⟩
      · obtain rfl : k = s.size := by omega
        have hst := unhide HO
        rw [List.drop_of_length_le (by rw [len_data]; exact Nat.le_refl _), digF] at hst
        by_cases h50 : 50 < N
        · have HX := hide (show R = -1 from by rw [unhide HRD, ← hst, numO]; rw [if_pos h50])
          clear hst HO
          go_wp2_with fail
          go_ret
          exact ⟨by rw [unhide HX]; rfl, rfl⟩
        · have HX := hide (show R = N from by rw [unhide HRD, ← hst, numO]; rw [if_neg h50])
          clear hst HO
          go_wp2_with fail
          go_ret
          exact ⟨by rw [unhide HX]; rfl, rfl⟩
end Go.Proofs.YtfjldlmdhemajaaDoor
