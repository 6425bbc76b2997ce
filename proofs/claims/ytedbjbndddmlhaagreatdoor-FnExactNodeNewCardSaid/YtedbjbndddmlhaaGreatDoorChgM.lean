/- Changes of members as plain mathematics: a number put into a rising list and cut out of it, and the same of words. -/
import Derived.Test.YtedbjbndddmlhaaGreatDoorConT
import Derived.Lib.TrailingZeros
namespace Go.Proofs.YtedbjbndddmlhaaGreatDoor.Plain
open Go
set_option linter.unusedVariables false

def cutZ (x : Int) (l : List Int) : List Int := l.filter fun y => decide (y ≠ x)
def putZ (x : Int) : List Int → List Int
  | [] => [x]
  | a :: l => if x < a then x :: a :: l else a :: putZ x l
theorem mem_cutZ (x y : Int) (l : List Int) : y ∈ cutZ x l ↔ y ∈ l ∧ y ≠ x := by unfold cutZ; rw [List.mem_filter]; simp
theorem mem_putZ (x y : Int) : ∀ l : List Int, y ∈ putZ x l ↔ y = x ∨ y ∈ l
  | [] => by simp [putZ]
  | a :: l => by
    rw [putZ]
    split
    · simp
    · rw [List.mem_cons, mem_putZ x y l, List.mem_cons]
      constructor
      · rintro (h | h | h)
        · exact .inr (.inl h)
        · exact .inl h
        · exact .inr (.inr h)
      · rintro (h | h | h)
        · exact .inr (.inl h)
        · exact .inl h
        · exact .inr (.inr h)
theorem okIds_mono : ∀ (l : List Int) (p q : Int), q ≤ p → okIds p l = true → okIds q l = true
  | [], _, _, _, _ => rfl
  | a :: l, p, q, h, hk => by
    rw [okIds, Bool.and_eq_true, Bool.and_eq_true, decide_eq_true_iff, decide_eq_true_iff] at hk ⊢
    exact ⟨⟨by omega, hk.1.2⟩, hk.2⟩
theorem okIds_cut (x : Int) : ∀ (l : List Int) (p : Int), okIds p l = true → okIds p (cutZ x l) = true
  | [], _, _ => rfl
  | a :: l, p, hk => by
    rw [okIds, Bool.and_eq_true, Bool.and_eq_true, decide_eq_true_iff, decide_eq_true_iff] at hk
    have ih := okIds_cut x l a hk.2
    unfold cutZ at ih ⊢
    rw [List.filter_cons]
    split
    · rw [okIds, ih, decide_eq_true hk.1.1, decide_eq_true hk.1.2]; rfl
    · exact okIds_mono _ a p (by omega) ih
theorem okIds_put (x : Int) (h50 : x ≤ 50) : ∀ (l : List Int) (p : Int), p < x → x ∉ l → okIds p l = true → okIds p (putZ x l) = true
  | [], p, hp, _, _ => by rw [putZ, okIds, okIds, decide_eq_true hp, decide_eq_true h50]; rfl
  | a :: l, p, hp, hn, hk => by
    rw [okIds, Bool.and_eq_true, Bool.and_eq_true, decide_eq_true_iff, decide_eq_true_iff] at hk
    rw [List.mem_cons] at hn
    rw [putZ]
    split
    · rename_i hxa
      rw [okIds, okIds, decide_eq_true hp, decide_eq_true h50, decide_eq_true hxa, decide_eq_true hk.1.2, hk.2]; rfl
    · rename_i hxa
      have : a < x := by omega
      rw [okIds, okIds_put x h50 l a this (fun q => hn (.inr q)) hk.2, decide_eq_true hk.1.1, decide_eq_true hk.1.2]; rfl
theorem putZ_len (x : Int) : ∀ l : List Int, (putZ x l).length = l.length + 1
  | [] => rfl
  | a :: l => by rw [putZ]; split <;> simp [putZ_len x l]
theorem cutZ_len (x : Int) (l : List Int) : (cutZ x l).length ≤ l.length := List.length_filter_le _ _

theorem setN_ext {S : Nat} {l : List Int} (h : ∀ i, S.testBit i = (decide (1 ≤ i) && decide (i ≤ 50) && decide ((i : Int) ∈ l))) : S = setN l := by
  apply Nat.eq_of_testBit_eq
  intro i
  rw [h, setN_bit]
theorem set_put (x : Nat) (h1 : 1 ≤ x) (h50 : x ≤ 50) (l : List Int) : setN l ||| 2 ^ x = setN (putZ (x : Int) l) := by
  apply setN_ext
  intro i
  rw [Nat.testBit_or, setN_bit, Nat.testBit_two_pow]
  have hm : decide ((i : Int) ∈ putZ (x : Int) l) = decide ((i : Int) = (x : Int) ∨ (i : Int) ∈ l) := decide_eq_decide.2 (mem_putZ (x : Int) (i : Int) l)
  rw [hm]
  by_cases hx : x = i
  · subst hx
    simp [h1, h50]
  · have : ¬ (i : Int) = (x : Int) := by omega
    simp [hx, this]
theorem set_cut (x : Nat) (h50 : x ≤ 50) (l : List Int) : setN l &&& (18446744073709551615 - 2 ^ x) = setN (cutZ (x : Int) l) := by
  have hp : 2 ^ x ≤ 1125899906842624 := Nat.pow_le_pow_right (show 0 < 2 by decide) h50
  apply setN_ext
  intro i
  have hm : decide ((i : Int) ∈ cutZ (x : Int) l) = decide ((i : Int) ∈ l ∧ (i : Int) ≠ (x : Int)) := decide_eq_decide.2 (mem_cutZ (x : Int) (i : Int) l)
  rw [Nat.testBit_and, setN_bit, hm]
  rw [show 18446744073709551615 - 2 ^ x = 2 ^ 64 - (2 ^ x + 1) from by omega, Nat.testBit_two_pow_sub_succ (by omega), Nat.testBit_two_pow]
  by_cases hx : x = i
  · subst hx
    simp
  · have : ¬ (i : Int) = (x : Int) := by omega
    by_cases h3 : i ≤ 50
    · have : i < 64 := by omega
      simp [*]
    · simp [h3]
theorem set_has (x : Nat) (h1 : 1 ≤ x) (h50 : x ≤ 50) (l : List Int) : (setN l &&& 2 ^ x = 0) ↔ ¬ (x : Int) ∈ l := by
  constructor
  · intro h hm
    have hb : (setN l &&& 2 ^ x).testBit x = true := by rw [Nat.testBit_and, setN_bit, Nat.testBit_two_pow]; simp [h1, h50, hm]
    rw [h] at hb
    simp at hb
  · intro h
    apply Nat.eq_of_testBit_eq
    intro i
    rw [Nat.testBit_and, setN_bit, Nat.testBit_two_pow, Nat.zero_testBit]
    by_cases hx : x = i
    · subst hx
      simp [h]
    · simp [hx]
theorem set_all (v l : List Int) : setN v ||| setN l = setN (v ++ l) := by
  apply setN_ext
  intro i
  rw [Nat.testBit_or, setN_bit, setN_bit]
  by_cases h1 : (i : Int) ∈ v <;> by_cases h2 : (i : Int) ∈ l <;> simp [h1, h2]

/-! ### The lowest bit -/
theorem setN_cons (a : Nat) (h1 : 1 ≤ a) (h50 : a ≤ 50) (l : List Int) : setN ((a : Int) :: l) = setN l ||| 2 ^ a := by
  symm
  apply setN_ext
  intro i
  rw [Nat.testBit_or, setN_bit, Nat.testBit_two_pow]
  by_cases hx : a = i
  · subst hx
    simp [h1, h50]
  · have : ¬ (i : Int) = (a : Int) := by omega
    simp [hx, this]
theorem set_split (a : Nat) (h1 : 1 ≤ a) (h50 : a ≤ 50) (l : List Int) (hk : okIds (a : Int) l = true) : ∃ q, setN l = 2 ^ (a + 1) * q ∧ setN ((a : Int) :: l) = 2 ^ (a + 1) * q + 2 ^ a := by
  have hf := (okIds_facts l a (by omega) hk).2
  have hdiv : setN l = 2 ^ (a + 1) * (setN l / 2 ^ (a + 1)) := by
    have hm : setN l % 2 ^ (a + 1) = 0 := by
      apply Nat.eq_of_testBit_eq
      intro i
      rw [Nat.testBit_mod_two_pow, setN_bit, Nat.zero_testBit]
      by_cases hi : i < a + 1
      · have : ¬ (i : Int) ∈ l := fun hm => by have := hf _ hm; omega
        simp [this]
      · simp [hi]
    have := Nat.div_add_mod (setN l) (2 ^ (a + 1))
    omega
  refine ⟨_, hdiv, ?_⟩
  rw [setN_cons a h1 h50]
  generalize setN l / 2 ^ (a + 1) = q at hdiv
  rw [hdiv]
  exact (Nat.two_pow_add_eq_or_of_lt (Nat.pow_lt_pow_right (by decide) (by omega)) q).symm
theorem and_low (a q : Nat) : (2 ^ (a + 1) * q + 2 ^ a) &&& (2 ^ (a + 1) * q + 2 ^ a - 1) = 2 ^ (a + 1) * q := by
  have hp : 0 < 2 ^ a := Nat.two_pow_pos a
  have e : 2 ^ (a + 1) * q + 2 ^ a - 1 = 2 ^ (a + 1) * q + (2 ^ a - 1) := by omega
  have hl : 2 ^ a < 2 ^ (a + 1) := Nat.pow_lt_pow_right (by decide) (by omega)
  apply Nat.eq_of_testBit_eq
  intro i
  rw [e, Nat.testBit_and, Nat.testBit_two_pow_mul_add _ hl, Nat.testBit_two_pow_mul_add _ (by omega), Nat.testBit_two_pow_mul]
  by_cases hi : i < a + 1
  · rw [if_pos hi, if_pos hi, Nat.testBit_two_pow, Nat.testBit_two_pow_sub_one]
    have h2 : ¬ (a + 1 ≤ i) := by omega
    by_cases h3 : a = i
    · subst h3
      simp
      omega
    · simp [h3]
      omega
  · rw [if_neg hi, if_neg hi, Bool.and_self]
    have h2 : a + 1 ≤ i := by omega
    simp [h2]
theorem ctz_low : ∀ (a f q : Nat), a < f → Lib.ctzFrom f (2 ^ a * (2 * q + 1)) = a
  | 0, 0, q, h => by omega
  | 0, f + 1, q, h => by rw [Lib.ctzFrom, if_pos (by omega)]
  | a + 1, 0, q, h => by omega
  | a + 1, f + 1, q, h => by
    have e : 2 ^ (a + 1) * (2 * q + 1) = 2 * (2 ^ a * (2 * q + 1)) := by rw [Nat.pow_succ, Nat.mul_comm (2 ^ a) 2, Nat.mul_assoc]
    rw [Lib.ctzFrom, e, if_neg (by omega), show 2 * (2 ^ a * (2 * q + 1)) / 2 = 2 ^ a * (2 * q + 1) from by omega, ctz_low a f q (by omega)]
    omega
theorem low_bit (a : Nat) (h1 : 1 ≤ a) (h50 : a ≤ 50) (l : List Int) (hk : okIds (a : Int) l = true) : Lib.ctz 64 (setN ((a : Int) :: l)) = a ∧ setN ((a : Int) :: l) &&& (setN ((a : Int) :: l) - 1) = setN l ∧ setN ((a : Int) :: l) ≠ 0 := by
  obtain ⟨q, e1, e2⟩ := set_split a h1 h50 l hk
  have hp : 0 < 2 ^ a := Nat.two_pow_pos a
  have h0 : setN ((a : Int) :: l) ≠ 0 := by rw [e2]; omega
  refine ⟨?_, ?_, h0⟩
  · unfold Lib.ctz
    rw [if_neg h0, e2, show 2 ^ (a + 1) * q + 2 ^ a = 2 ^ a * (2 * q + 1) from by rw [Nat.pow_succ, Nat.mul_assoc, Nat.mul_add, Nat.mul_one]]
    exact ctz_low a 64 q (by omega)
  · rw [e2, and_low, e1]
end Go.Proofs.YtedbjbndddmlhaaGreatDoor.Plain
