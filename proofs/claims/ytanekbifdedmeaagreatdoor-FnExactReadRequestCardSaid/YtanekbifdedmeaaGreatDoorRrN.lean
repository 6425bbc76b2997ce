/- Numbers in texts, at most some number: as the specification reads them, and what they are. -/
import Derived.Test.YtanekbifdedmeaaGreatDoorRrM
import Derived.Lib.ParseIntB
namespace Go.Proofs.YtanekbifdedmeaaGreatDoor
open Go.RowKit Plain
set_option linter.unusedVariables false

namespace Plain
def digG : List UInt8 → Int → Option Int
  | [], n => some n
  | c :: l, n => if 48 ≤ c.toNat ∧ c.toNat ≤ 57 then digG l (n * 10 + ((c.toNat - 48 : Nat) : Int)) else none
def badG (l : List UInt8) : Bool := decide (l.length < 1) || decide (15 < l.length) || (decide (1 < l.length) && decide (l.head? = some 48))
def numOG (M : Nat) : Option Int → Int
  | none => -1
  | some n => if (M : Int) < n then -1 else n
/-- The number of a text, or -1. -/
def numG (M : Nat) (l : List UInt8) : Int := if badG l = true then -1 else numOG M (digG l 0)
theorem digG_snoc (c : UInt8) : ∀ (l : List UInt8) (n : Int), digG (l ++ [c]) n = match digG l n with
      | none => none
      | some m => if 48 ≤ c.toNat ∧ c.toNat ≤ 57 then some (m * 10 + ((c.toNat - 48 : Nat) : Int)) else none
  | [], n => by rw [List.nil_append, digG, digG]; simp only [digG]
  | x :: l, n => by
    rw [List.cons_append, digG, digG]
    by_cases h : 48 ≤ x.toNat ∧ x.toNat ≤ 57
    · rw [if_pos h, if_pos h, digG_snoc c l]
    · rw [if_neg h, if_neg h]
theorem digG_ge : ∀ (l : List UInt8) (n m : Int), 0 ≤ n → digG l n = some m → n ≤ m
  | [], n, m, _, h => by rw [digG] at h; cases h; exact Int.le_refl _
  | x :: l, n, m, h0, h => by
    rw [digG] at h
    by_cases hx : 48 ≤ x.toNat ∧ x.toNat ≤ 57
    · rw [if_pos hx] at h
      have := digG_ge l _ m (by omega) h
      omega
    · rw [if_neg hx] at h; cases h
theorem digG_one {k : Nat} (h : k < 10) : (UInt8.ofNat (48 + k)).toNat = 48 + k := by simp; omega
theorem digG_dec : ∀ n : Nat, digG (Lib.decDigits n) 0 = some (n : Int) := by
  intro n
  induction n using Nat.strongRecOn with
  | _ n ih =>
    rw [Lib.decDigits]
    split
    · rename_i h
      rw [digG, digG_one h, if_pos (by omega), digG]
      congr 1
      omega
    · rename_i h
      rw [digG_snoc, ih (n / 10) (by omega)]
      simp only
      rw [digG_one (Nat.mod_lt _ (by omega)), if_pos (by omega)]
      congr 1
      omega
theorem hdG_app {a b : List UInt8} (h : a ≠ []) : (a ++ b).head? = a.head? := by
  cases a with
  | nil => exact absurd rfl h
  | cons x t => rfl
theorem decG0 : Lib.decDigits 0 = [48] := Lib.decDigits_one (by omega)
theorem decG_head : ∀ n : Nat, (Lib.decDigits n).head? = some 48 → n = 0 := by
  intro n
  induction n using Nat.strongRecOn with
  | _ n ih =>
    intro h
    rw [Lib.decDigits] at h
    split at h
    · rename_i q
      have := congrArg UInt8.toNat (Option.some.inj h)
      rw [digG_one q] at this
      change 48 + n = 48 at this
      omega
    · rename_i q
      have hne : Lib.decDigits (n / 10) ≠ [] := by
        rw [Lib.decDigits]
        split <;> simp
      rw [hdG_app hne] at h
      have := ih (n / 10) (by omega) h
      omega
theorem decG_len : ∀ (k n : Nat), n < 10 ^ (k + 1) → 1 ≤ (Lib.decDigits n).length ∧ (Lib.decDigits n).length ≤ k + 1 := by
  intro k
  induction k with
  | zero => intro n h; rw [Lib.decDigits, dif_pos (by simpa using h)]; simp
  | succ k ih =>
    intro n h
    rw [Lib.decDigits]
    split
    · simp
    · have := ih (n / 10) (by rw [Nat.pow_succ] at h; omega)
      rw [List.length_append, List.length_singleton]
      omega
theorem badG_dec (n : Nat) (h : n < 10 ^ 15) : badG (Lib.decDigits n) = false := by
  obtain ⟨h1, h2⟩ := decG_len 14 n h
  unfold badG
  rw [decide_eq_false (by omega), decide_eq_false (by omega)]
  by_cases q : (Lib.decDigits n).head? = some 48
  · obtain rfl := decG_head n q
    rw [decG0]
    rfl
  · rw [decide_eq_false q, Bool.and_false]
    rfl
theorem decG_of : ∀ (k : Nat) (l : List UInt8) (n : Int), l.length = k → 1 ≤ k → (1 < k → l.head? ≠ some 48) → digG l 0 = some n → l = Lib.decDigits n.toNat := by
  intro k
  induction k with
  | zero => intro l n _ h; omega
  | succ k ih =>
    intro l n hl _ hh hd
    rcases List.eq_nil_or_concat l with rfl | ⟨l', c, rfl⟩
    · simp at hl
    have hl' : l'.length = k := by simpa using hl
    rw [List.concat_eq_append] at hd hh ⊢
    rw [digG_snoc] at hd
    cases hm : digG l' 0 with
    | none => rw [hm] at hd; cases hd
    | some m =>
      rw [hm] at hd
      simp only at hd
      by_cases hc : 48 ≤ c.toNat ∧ c.toNat ≤ 57
      · rw [if_pos hc] at hd
        cases hd
        have hc2 : UInt8.ofNat c.toNat = c := by simp
        by_cases hk : k = 0
        · subst hk
          obtain rfl : l' = [] := List.length_eq_zero_iff.1 hl'
          rw [digG] at hm
          cases hm
          rw [Lib.decDigits, dif_pos (by omega), show 48 + (0 * 10 + ((c.toNat - 48 : Nat) : Int)).toNat = c.toNat from by omega, hc2]
          rfl
        · have hne : l' ≠ [] := by intro q; subst q; simp at hl'; omega
          have hh' : l'.head? ≠ some 48 := by
            have := hh (by omega)
            rwa [hdG_app hne] at this
          have e := ih l' m hl' (by omega) (fun _ => hh') hm
          have h0 := digG_ge l' 0 m (by omega) hm
          have hm1 : 1 ≤ m := by
            by_cases q : m = 0
            · subst q
              rw [e] at hh'
              exact absurd (by rw [show (0 : Int).toNat = 0 from rfl, decG0]; rfl) hh'
            · omega
          rw [Lib.decDigits, dif_neg (by omega), show (m * 10 + ((c.toNat - 48 : Nat) : Int)).toNat / 10 = m.toNat from by omega, show 48 + (m * 10 + ((c.toNat - 48 : Nat) : Int)).toNat % 10 = c.toNat from by omega, hc2, ← e]
      · rw [if_neg hc] at hd; cases hd
/-- The number of a text is the one that is written so. -/
theorem numG_is (M : Nat) (hM : M < 10 ^ 15) (l : List UInt8) : (numG M l = -1 ∧ ∀ n : Nat, n ≤ M → l ≠ Lib.decDigits n) ∨ ∃ n : Nat, n ≤ M ∧ l = Lib.decDigits n ∧ numG M l = n := by
  by_cases h : ∃ n : Nat, n ≤ M ∧ l = Lib.decDigits n
  · obtain ⟨n, hn, rfl⟩ := h
    refine .inr ⟨n, hn, rfl, ?_⟩
    unfold numG
    rw [badG_dec n (by omega), if_neg (by decide), digG_dec, numOG, if_neg (by omega)]
  · refine .inl ⟨?_, fun n hn e => h ⟨n, hn, e⟩⟩
    unfold numG
    split
    · rfl
    · rename_i hb
      cases hd : digG l 0 with
      | none => rfl
      | some n =>
        rw [numOG]
        split
        · rfl
        · rename_i hn
          exfalso
          have h0 := digG_ge l 0 n (by omega) hd
          unfold badG at hb
          rw [Bool.not_eq_true, Bool.or_eq_false_iff, Bool.or_eq_false_iff, decide_eq_false_iff_not, decide_eq_false_iff_not] at hb
          obtain ⟨⟨b1, b2⟩, b3⟩ := hb
          refine h ⟨n.toNat, by omega, decG_of l.length l n rfl (by omega) (fun q e => ?_) hd⟩
          rw [decide_eq_true q, decide_eq_true e] at b3
          cases b3
theorem parseG : ∀ (l : List UInt8) (a : Nat) (v : Int), digG l a = some v → v < 10 ^ 16 → Lib.parseUintM (2 ^ 64 - 1) a l = .ok v.toNat
  | [], a, v, h, _ => by rw [digG] at h; cases h; rw [Lib.parseUintM, Int.toNat_natCast]
  | c :: l, a, v, h, hv => by
    rw [digG] at h
    by_cases hc : 48 ≤ c.toNat ∧ c.toNat ≤ 57
    · rw [if_pos hc] at h
      have hge := digG_ge l _ v (by omega) h
      have e : ((a : Int) * 10 + ((c.toNat - 48 : Nat) : Int)) = ((a * 10 + (c.toNat - 48) : Nat) : Int) := by omega
      rw [e] at h hge
      have e16 : (10 : Int) ^ 16 = 10000000000000000 := by decide
      have e64 : (2 : Nat) ^ 64 - 1 = 18446744073709551615 := by decide
      rw [Lib.parseUintM, if_pos hc, if_neg (by omega), if_neg (by omega)]
      exact parseG l _ v h hv
    · rw [if_neg hc] at h; cases h
theorem parse_decG (n : Nat) (h : n < 10 ^ 15) : Lib.parseIntB 64 (Lib.decDigits n) = .ok (n : Int) := by
  have hd := digG_dec n
  have e15 : (10 : Nat) ^ 15 = 1000000000000000 := by decide
  have e16 : (10 : Int) ^ 16 = 10000000000000000 := by decide
  have e64 : (2 : Nat) ^ (64 - 1) = 9223372036854775808 := by decide
  have hp := parseG (Lib.decDigits n) 0 n hd (by omega)
  obtain ⟨h1, _⟩ := decG_len 14 n h
  cases hl : Lib.decDigits n with
  | nil => rw [hl] at h1; simp at h1
  | cons c r =>
    rw [hl] at hd hp
    have hc : 48 ≤ c.toNat ∧ c.toNat ≤ 57 := by
      rw [digG] at hd
      by_cases q : 48 ≤ c.toNat ∧ c.toNat ≤ 57
      · exact q
      · rw [if_neg q] at hd; cases hd
    rw [Lib.parseIntB, if_neg (by omega)]
    have hu : Lib.parseUintB 64 (c :: r) = .ok n := by
      unfold Lib.parseUintB
      rw [if_neg (by simp), hp, Int.toNat_natCast]
    rw [hu]
    simp only
    rw [if_neg (by omega), if_neg (by omega), if_neg (by omega)]
end Plain
theorem retBR {a b : Bool} (h : a = b) : Ending.returned (.bool a) = .returned (.bool b) := by rw [h]
theorem len_dataR (s : ByteArray) : s.data.toList.length = s.size := by simp
theorem digR_calls (n : Nat) (w : World) (hn : n < 256) :
    Calls Tryz.prog 98 #[.int .u8 n] w fun e w' => e = .returned (.bool (decide (48 ≤ n) && decide (n ≤ 57))) ∧ w = w' := by
  obtain ⟨w0, rfl⟩ : ∃ w0, w0 = w := ⟨_, rfl⟩
  by_cases h1 : 48 ≤ n
  · by_cases h2 : n ≤ 57
    · rw [decide_eq_true h1, decide_eq_true h2]
      go_enter Tryz.func98, Tryz.ntmps98
      go_wp2_with fail
      go_ret
      exact ⟨retBR (by simp; omega), rfl⟩
    · rw [decide_eq_true h1, decide_eq_false h2]
      go_enter Tryz.func98, Tryz.ntmps98
      go_wp2_with fail
      go_ret
      exact ⟨retBR (by simp; omega), rfl⟩
  · rw [decide_eq_false h1, Bool.false_and]
    go_enter Tryz.func98, Tryz.ntmps98
    go_wp2_with fail
    go_ret
    exact ⟨rfl, rfl⟩

set_option maxRecDepth 10000 in
set_option maxHeartbeats 4000000 in
theorem l1NumberG_calls (s : ByteArray) (M : Nat) (w : World) (hs : s.size ≤ 10000000) :
    Calls Tryz.prog 56 #[.string s, .int .i64 M] w fun e w' => e = .returned (.int .i64 (numG M s.data.toList)) ∧ w = w' := by
  obtain ⟨w0, rfl⟩ : ∃ w0, w0 = w := ⟨_, rfl⟩
  have hln := len_dataR s
  obtain ⟨R, hR⟩ : ∃ R, numG M s.data.toList = R := ⟨_, rfl⟩
  rw [hR]
  have HR := hide hR
  clear hR
  by_cases a1 : s.size < 1
  · have HX := hide (show R = -1 from by rw [← unhide HR]; unfold numG badG; rw [hln, decide_eq_true a1]; rfl)
    rw [unhide HX]
    clear hln
    go_enter Tryz.func56, Tryz.ntmps56
    go_wp2_with fail
    go_ret
    exact ⟨rfl, rfl⟩
  by_cases a2 : 15 < s.size
  · have HX := hide (show R = -1 from by rw [← unhide HR]; unfold numG badG; rw [hln, decide_eq_true a2, Bool.or_true]; rfl)
    rw [unhide HX]
    clear hln
    go_enter Tryz.func56, Tryz.ntmps56
    go_wp2_with fail
    go_ret
    exact ⟨rfl, rfl⟩
  have h0l : 0 < s.size := by omega
  obtain ⟨c0, hc0⟩ : ∃ c, s[0].toNat = c := ⟨_, rfl⟩
  have hhd : decide (s.data.toList.head? = some 48) = decide (c0 = 48) := by
    rw [List.head?_eq_getElem?, List.getElem?_eq_getElem (by rw [hln]; exact h0l)]
    rw [decide_eq_decide]
    have e : s.data.toList[0]'(by rw [hln]; exact h0l) = s[0] := rfl
    rw [e, ← hc0]
    constructor
    · intro q; rw [Option.some.inj q]; rfl
    · intro q; exact congrArg some (UInt8.toNat_inj.1 q)
  by_cases a3 : 1 < s.size ∧ c0 = 48
  · obtain ⟨a31, rfl⟩ := a3
    have HX := hide (show R = -1 from by rw [← unhide HR]; unfold numG badG; rw [hln, hhd, decide_eq_true a31]; simp)
    rw [unhide HX]
    clear hln hhd
    go_enter Tryz.func56, Tryz.ntmps56
    go_wp2_with fail
    go_ret
    exact ⟨rfl, rfl⟩
  obtain ⟨D, hD⟩ : ∃ D, digG s.data.toList 0 = D := ⟨_, rfl⟩
  have HRD := hide (show R = numOG M D from by
    rw [← unhide HR]
    unfold numG
    have hb : badG s.data.toList = false := by
      unfold badG
      rw [hln, hhd, decide_eq_false a1, decide_eq_false a2]
      simp only [Bool.false_or]
      by_cases q : 1 < s.size
      · rw [decide_eq_false (fun e => a3 ⟨q, e⟩), Bool.and_false]
      · rw [decide_eq_false q, Bool.false_and]
    rw [hb, if_neg (by decide), hD])
  have HD := hide hD
  clear hD hhd hln HR
  by_cases q : 1 < s.size
  · have hne : ((c0 : Int) == 48) = false := by
      rw [beq_eq_false_iff_ne]
      intro e
      exact a3 ⟨q, by omega⟩
    clear a3
    go_enter Tryz.func56, Tryz.ntmps56
    go_wp2_with fail
    go_loopw [5, 6] (fun s5 s6 wr => ∃ (k : Nat) (N : Int), s5 = .int .i64 N ∧ s6 = .int .i64 k ∧ k ≤ s.size ∧ 0 ≤ N ∧ Hid (N < ((10 ^ k : Nat) : Int)) ∧ Hid (digG (s.data.toList.drop k) N = D) ∧ wr = w0) (fun _ s6 _ => s.size - (intOf s6).toNat)
    case atStart => exact ⟨0, 0, rfl, rfl, by omega, by omega, hide (by decide), hide (by rw [List.drop_zero]; exact unhide HD), rfl⟩
    case round =>
      obtain ⟨k, N, rfl, rfl, hk, hN0, HN, HO, rfl⟩ := hrel
      by_cases hlt : k < s.size
      · obtain ⟨c, hc⟩ : ∃ c, s[k].toNat = c := ⟨_, rfl⟩
        have hc256 : c < 256 := by rw [← hc]; exact s[k].toNat_lt
        have hll : k < s.data.toList.length := by rw [len_dataR]; exact hlt
        have hcl : (s.data.toList[k]).toNat = c := hc
        have hst := unhide HO
        rw [List.drop_eq_getElem_cons hll, digG, hcl] at hst
        have hN15 : N < 1000000000000000 := by
          have h1 : (10 ^ k : Nat) ≤ 10 ^ 15 := Nat.pow_le_pow_right (by decide) (by omega)
          have h2 := unhide HN
          have h3 : (10 ^ 15 : Nat) = 1000000000000000 := by decide
          omega
        by_cases hd : 48 ≤ c ∧ c ≤ 57
        · rw [if_pos hd] at hst
          obtain ⟨d1, d2⟩ := hd
          have HS := hide hst
          have HB := hide (show (decide (48 ≤ c) && decide (c ≤ 57)) = true from by simp [d1, d2])
          have HP := hide (show N * 10 + ((c - 48 : Nat) : Int) < ((10 ^ (k + 1) : Nat) : Int) from by
            have h2 := unhide HN
            have h3 : (10 ^ (k + 1) : Nat) = 10 ^ k * 10 := Nat.pow_succ 10 k
            rw [h3]
            generalize (10 ^ k : Nat) = P at h2
            omega)
          clear hst hll hcl HO
          go_wp2_with (go_at_call 98; refine (digR_calls c _ hc256).mono ?_; rintro e w' ⟨rfl, rfl⟩; rw [unhide HB])
          go_roundw
          case rel => exact ⟨k + 1, N * 10 + ((c - 48 : Nat) : Int), by go_num, by go_num, by omega, by omega, HP, HS, trivial⟩
          case measure => simp [intOf]; omega
        · rw [if_neg hd] at hst
          have HX := hide (show R = -1 from by rw [unhide HRD, ← hst]; rfl)
          have HB := hide (show (decide (48 ≤ c) && decide (c ≤ 57)) = false from by
            by_cases d1 : 48 ≤ c
            · rw [decide_eq_false (show ¬ c ≤ 57 by omega), Bool.and_false]
            · rw [decide_eq_false d1, Bool.false_and])
          clear hst hll hcl HO hd
          go_wp2_with (go_at_call 98; refine (digR_calls c _ hc256).mono ?_; rintro e w' ⟨rfl, rfl⟩; rw [unhide HB])
          go_ret
          exact ⟨by rw [unhide HX]; rfl, rfl⟩
      · obtain rfl : k = s.size := by omega
        have hst := unhide HO
        rw [List.drop_of_length_le (by rw [len_dataR]; exact Nat.le_refl _), digG] at hst
        by_cases h50 : (M : Int) < N
        · have HX := hide (show R = -1 from by rw [unhide HRD, ← hst, numOG]; rw [if_pos h50])
          clear hst HO
          go_wp2_with fail
          go_ret
          exact ⟨by rw [unhide HX]; rfl, rfl⟩
        · have HX := hide (show R = N from by rw [unhide HRD, ← hst, numOG]; rw [if_neg h50])
          clear hst HO
          go_wp2_with fail
          go_ret
          exact ⟨by rw [unhide HX]; rfl, rfl⟩
  · clear a3
    go_enter Tryz.func56, Tryz.ntmps56
    go_wp2_with fail
    go_loopw [5, 6] (fun s5 s6 wr => ∃ (k : Nat) (N : Int), s5 = .int .i64 N ∧ s6 = .int .i64 k ∧ k ≤ s.size ∧ 0 ≤ N ∧ Hid (N < ((10 ^ k : Nat) : Int)) ∧ Hid (digG (s.data.toList.drop k) N = D) ∧ wr = w0) (fun _ s6 _ => s.size - (intOf s6).toNat)
    case atStart => exact ⟨0, 0, rfl, rfl, by omega, by omega, hide (by decide), hide (by rw [List.drop_zero]; exact unhide HD), rfl⟩
    case round =>
      obtain ⟨k, N, rfl, rfl, hk, hN0, HN, HO, rfl⟩ := hrel
      by_cases hlt : k < s.size
      · obtain ⟨c, hc⟩ : ∃ c, s[k].toNat = c := ⟨_, rfl⟩
        have hc256 : c < 256 := by rw [← hc]; exact s[k].toNat_lt
        have hll : k < s.data.toList.length := by rw [len_dataR]; exact hlt
        have hcl : (s.data.toList[k]).toNat = c := hc
        have hst := unhide HO
        rw [List.drop_eq_getElem_cons hll, digG, hcl] at hst
        have hN15 : N < 1000000000000000 := by
          have h1 : (10 ^ k : Nat) ≤ 10 ^ 15 := Nat.pow_le_pow_right (by decide) (by omega)
          have h2 := unhide HN
          have h3 : (10 ^ 15 : Nat) = 1000000000000000 := by decide
          omega
        by_cases hd : 48 ≤ c ∧ c ≤ 57
        · rw [if_pos hd] at hst
          obtain ⟨d1, d2⟩ := hd
          have HS := hide hst
          have HB := hide (show (decide (48 ≤ c) && decide (c ≤ 57)) = true from by simp [d1, d2])
          have HP := hide (show N * 10 + ((c - 48 : Nat) : Int) < ((10 ^ (k + 1) : Nat) : Int) from by
            have h2 := unhide HN
            have h3 : (10 ^ (k + 1) : Nat) = 10 ^ k * 10 := Nat.pow_succ 10 k
            rw [h3]
            generalize (10 ^ k : Nat) = P at h2
            omega)
          clear hst hll hcl HO
          go_wp2_with (go_at_call 98; refine (digR_calls c _ hc256).mono ?_; rintro e w' ⟨rfl, rfl⟩; rw [unhide HB])
          go_roundw
          case rel => exact ⟨k + 1, N * 10 + ((c - 48 : Nat) : Int), by go_num, by go_num, by omega, by omega, HP, HS, trivial⟩
          case measure => simp [intOf]; omega
        · rw [if_neg hd] at hst
          have HX := hide (show R = -1 from by rw [unhide HRD, ← hst]; rfl)
          have HB := hide (show (decide (48 ≤ c) && decide (c ≤ 57)) = false from by
            by_cases d1 : 48 ≤ c
            · rw [decide_eq_false (show ¬ c ≤ 57 by omega), Bool.and_false]
            · rw [decide_eq_false d1, Bool.false_and])
          clear hst hll hcl HO hd
          go_wp2_with (go_at_call 98; refine (digR_calls c _ hc256).mono ?_; rintro e w' ⟨rfl, rfl⟩; rw [unhide HB])
          go_ret
          exact ⟨by rw [unhide HX]; rfl, rfl⟩
      · obtain rfl : k = s.size := by omega
        have hst := unhide HO
        rw [List.drop_of_length_le (by rw [len_dataR]; exact Nat.le_refl _), digG] at hst
        by_cases h50 : (M : Int) < N
        · have HX := hide (show R = -1 from by rw [unhide HRD, ← hst, numOG]; rw [if_pos h50])
          clear hst HO
          go_wp2_with fail
          go_ret
          exact ⟨by rw [unhide HX]; rfl, rfl⟩
        · have HX := hide (show R = N from by rw [unhide HRD, ← hst, numOG]; rw [if_neg h50])
          clear hst HO
          go_wp2_with fail
          go_ret
          exact ⟨by rw [unhide HX]; rfl, rfl⟩
end Go.Proofs.YtanekbifdedmeaaGreatDoor
