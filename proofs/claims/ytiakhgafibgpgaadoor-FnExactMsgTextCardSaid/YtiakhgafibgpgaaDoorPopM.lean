/- How many bits of a word are set: the way by halves, quarters and bytes counts them; sets of small numbers as words. -/
import Derived.Laws.BitsAllLaws
namespace Go.Proofs.YtiakhgafibgpgaaDoor.Plain
open Go
set_option linter.unusedVariables false

theorem and_cat (a b c d : Nat) (hb : b < 256) (hd : d < 256) : (256 * a + b) &&& (256 * c + d) = 256 * (a &&& c) + (b &&& d) := by
  have h : b &&& d < 256 := Nat.lt_of_le_of_lt Nat.and_le_left hb
  apply Nat.eq_of_testBit_eq
  intro i
  rw [Nat.testBit_and, show (256 : Nat) = 2 ^ 8 from rfl, Nat.testBit_two_pow_mul_add _ hb, Nat.testBit_two_pow_mul_add _ hd, Nat.testBit_two_pow_mul_add _ h]
  split <;> simp [Nat.testBit_and]

def repB (m : Nat) : Nat → Nat
  | 0 => 0
  | k + 1 => 256 * repB m k + m
def mapB (f : Nat → Nat) : Nat → Nat → Nat
  | 0, _ => 0
  | k + 1, x => 256 * mapB f k (x / 256) + f (x % 256)

theorem mapB_step (f : Nat → Nat) (k y b : Nat) (hb : b < 256) : mapB f (k + 1) (256 * y + b) = 256 * mapB f k y + f b := by
  rw [mapB, show (256 * y + b) / 256 = y from by omega, show (256 * y + b) % 256 = b from by omega]
theorem mapB_comp (f g : Nat → Nat) (hg : ∀ b, b < 256 → g b < 256) : ∀ k x, mapB f k (mapB g k x) = mapB (fun b => f (g b)) k x := by
  intro k
  induction k with
  | zero => intro x; rfl
  | succ k ih =>
    intro x
    show mapB f (k + 1) (256 * mapB g k (x / 256) + g (x % 256)) = _
    rw [mapB_step _ _ _ _ (hg _ (Nat.mod_lt _ (by decide))), ih, mapB]
theorem mapB_congr (f g : Nat → Nat) (h : ∀ b, b < 256 → f b = g b) : ∀ k x, mapB f k x = mapB g k x := by
  intro k
  induction k with
  | zero => intro x; rfl
  | succ k ih => intro x; rw [mapB, mapB, ih, h _ (Nat.mod_lt _ (by decide))]

def s1 (b : Nat) : Nat := (b / 2 &&& 85) + (b &&& 85)
def s2 (b : Nat) : Nat := (b / 4 &&& 51) + (b &&& 51)
def s3 (b : Nat) : Nat := b / 16 + b % 16
theorem s1_loc : ∀ b : Fin 256, ∀ t : Fin 2, (128 * t.val + b.val / 2) &&& 85 = b.val / 2 &&& 85 := by decide +kernel
theorem s2_loc : ∀ b : Fin 256, ∀ t : Fin 4, (64 * t.val + b.val / 4) &&& 51 = b.val / 4 &&& 51 := by decide +kernel
theorem s1_lt : ∀ b : Fin 256, s1 b.val < 256 := by decide +kernel
theorem s2_lt : ∀ b : Fin 256, s2 (s1 b.val) < 256 ∧ s2 (s1 b.val) % 16 ≤ 4 ∧ s2 (s1 b.val) / 16 ≤ 4 := by decide +kernel

theorem step1 : ∀ k x, ((x / 2) &&& repB 85 k) + (x &&& repB 85 k) = mapB s1 k x := by
  intro k
  induction k with
  | zero => intro x; simp [repB, mapB]
  | succ k ih =>
    intro x
    obtain ⟨y, b, hb, rfl⟩ : ∃ y b, b < 256 ∧ x = 256 * y + b := ⟨x / 256, x % 256, Nat.mod_lt _ (by decide), by omega⟩
    have e : (256 * y + b) / 2 = 256 * (y / 2) + (128 * (y % 2) + b / 2) := by omega
    have l := s1_loc ⟨b, hb⟩ ⟨y % 2, Nat.mod_lt _ (by decide)⟩
    simp only at l
    rw [e, repB, and_cat _ _ _ _ (by omega) (by decide), and_cat _ _ _ _ hb (by decide), mapB_step _ _ _ _ hb, ← ih, l]
    show _ = _ + s1 b
    unfold s1
    omega
theorem step2 : ∀ k x, ((x / 4) &&& repB 51 k) + (x &&& repB 51 k) = mapB s2 k x := by
  intro k
  induction k with
  | zero => intro x; simp [repB, mapB]
  | succ k ih =>
    intro x
    obtain ⟨y, b, hb, rfl⟩ : ∃ y b, b < 256 ∧ x = 256 * y + b := ⟨x / 256, x % 256, Nat.mod_lt _ (by decide), by omega⟩
    have e : (256 * y + b) / 4 = 256 * (y / 4) + (64 * (y % 4) + b / 4) := by omega
    have l := s2_loc ⟨b, hb⟩ ⟨y % 4, Nat.mod_lt _ (by decide)⟩
    simp only at l
    rw [e, repB, and_cat _ _ _ _ (by omega) (by decide), and_cat _ _ _ _ hb (by decide), mapB_step _ _ _ _ hb, ← ih, l]
    show _ = _ + s2 b
    unfold s2
    omega
theorem and15n (x : Nat) : x &&& 15 = x % 16 := Nat.and_two_pow_sub_one_eq_mod x 4
theorem step3 (g : Nat → Nat) (hg : ∀ b, b < 256 → g b < 256 ∧ g b % 16 ≤ 4 ∧ g b / 16 ≤ 4) : ∀ k z, ((mapB g k z / 16 + mapB g k z) &&& repB 15 k) = mapB s3 k (mapB g k z) := by
  intro k
  induction k with
  | zero => intro z; simp [repB, mapB]
  | succ k ih =>
    intro z
    rw [mapB]
    obtain ⟨h1, h2, h3⟩ := hg (z % 256) (Nat.mod_lt _ (by decide))
    have hy : mapB g k (z / 256) % 16 ≤ 4 := by
      cases k with
      | zero => simp [mapB]
      | succ k =>
        rw [mapB]
        have := (hg (z / 256 % 256) (Nat.mod_lt _ (by decide))).2.1
        omega
    have hi := ih (z / 256)
    generalize mapB g k (z / 256) = y at hy hi
    generalize g (z % 256) = b at h1 h2 h3
    have e : (256 * y + b) / 16 + (256 * y + b) = 256 * (y / 16 + y) + (16 * (y % 16) + b / 16 + b) := by omega
    rw [e, repB, and_cat _ _ _ _ (by omega) (by decide), hi, mapB_step _ _ _ _ h1, and15n]
    unfold s3
    omega

/-- How many of the lowest n bits are set. -/
def popN : Nat → Nat → Nat
  | 0, _ => 0
  | n + 1, x => x % 2 + popN n (x / 2)
theorem pop8_is : ∀ b : Fin 256, s3 (s2 (s1 b.val)) = popN 8 b.val := by decide +kernel
theorem pop8_le : ∀ b : Fin 256, popN 8 b.val ≤ 8 := by decide +kernel
theorem popN_add (n : Nat) : ∀ m x, popN (m + n) x = popN m x + popN n (x / 2 ^ m) := by
  intro m
  induction m with
  | zero => intro x; simp [popN]
  | succ m ih =>
    intro x
    rw [show m + 1 + n = (m + n) + 1 from by omega, popN, ih, popN, Nat.div_div_eq_div_mul, Nat.pow_succ, Nat.mul_comm 2 (2 ^ m)]
    omega
theorem popN_mod (m : Nat) : ∀ x, popN m (x % 2 ^ m) = popN m x := by
  induction m with
  | zero => intro x; rfl
  | succ m ih =>
    intro x
    have e1 : x % 2 ^ (m + 1) % 2 = x % 2 := Nat.mod_mod_of_dvd _ ⟨2 ^ m, by rw [Nat.pow_succ]; omega⟩
    have e2 : x % 2 ^ (m + 1) / 2 = x / 2 % 2 ^ m := by
      rw [Nat.pow_succ, Nat.mul_comm (2 ^ m) 2, Nat.mod_mul_right_div_self]
    rw [popN, popN, e1, e2, ih]
theorem popN_byte (n x : Nat) : popN (8 + n) x = popN 8 (x % 256) + popN n (x / 256) := by
  rw [popN_add, ← popN_mod 8 x]
theorem pop64 (x : Nat) : ∃ p0 p1 p2 p3 p4 p5 p6 p7 : Nat, p0 ≤ 8 ∧ p1 ≤ 8 ∧ p2 ≤ 8 ∧ p3 ≤ 8 ∧ p4 ≤ 8 ∧ p5 ≤ 8 ∧ p6 ≤ 8 ∧ p7 ≤ 8 ∧
    mapB (popN 8) 8 x = p0 + 256 * p1 + 65536 * p2 + 16777216 * p3 + 4294967296 * p4 + 1099511627776 * p5 + 281474976710656 * p6 + 72057594037927936 * p7 ∧ popN 64 x = p0 + p1 + p2 + p3 + p4 + p5 + p6 + p7 := by
  have hb : ∀ z, popN 8 (z % 256) ≤ 8 := fun z => pop8_le ⟨z % 256, Nat.mod_lt _ (by decide)⟩
  refine ⟨_, _, _, _, _, _, _, _, hb x, hb (x / 256), hb (x / 256 / 256), hb (x / 256 / 256 / 256), hb (x / 256 / 256 / 256 / 256), hb (x / 256 / 256 / 256 / 256 / 256), hb (x / 256 / 256 / 256 / 256 / 256 / 256), hb (x / 256 / 256 / 256 / 256 / 256 / 256 / 256), ?_, ?_⟩
  · simp only [mapB]
    omega
  · rw [show (64 : Nat) = 8 + (8 + (8 + (8 + (8 + (8 + (8 + (8 + 0))))))) from rfl]
    simp only [popN_byte]
    simp only [popN]
    omega

/-- The way of bits.OnesCount64. -/
theorem swar (x : Nat) : mapB s3 8 (mapB s2 8 (mapB s1 8 x)) = mapB (popN 8) 8 x := by
  rw [mapB_comp s2 s1 (fun b hb => s1_lt ⟨b, hb⟩), mapB_comp s3 _ (fun b hb => (s2_lt ⟨b, hb⟩).1)]
  exact mapB_congr _ _ (fun b hb => pop8_is ⟨b, hb⟩) 8 x
theorem swar1 (x : Nat) : ((x / 2) &&& 6148914691236517205) + (x &&& 6148914691236517205) = mapB s1 8 x := step1 8 x
theorem swar2 (x : Nat) : ((mapB s1 8 x / 4) &&& 3689348814741910323) + (mapB s1 8 x &&& 3689348814741910323) = mapB s2 8 (mapB s1 8 x) := step2 8 _
theorem swar3 (x : Nat) : ((mapB s2 8 (mapB s1 8 x) / 16 + mapB s2 8 (mapB s1 8 x)) &&& 1085102592571150095) = mapB (popN 8) 8 x := by
  rw [← swar, mapB_comp s2 s1 (fun b hb => s1_lt ⟨b, hb⟩)]
  exact step3 _ (fun b hb => s2_lt ⟨b, hb⟩) 8 x
theorem mapB_lt (f : Nat → Nat) (hf : ∀ b, b < 256 → f b < 256) : ∀ k x, mapB f k x < 256 ^ k := by
  intro k
  induction k with
  | zero => intro x; simp [mapB]
  | succ k ih =>
    intro x
    have := ih (x / 256)
    have := hf (x % 256) (Nat.mod_lt _ (by decide))
    rw [mapB, Nat.pow_succ]
    omega

/-! ### Sets as words -/
def pc (p : Nat → Bool) : Nat → Nat
  | 0 => 0
  | n + 1 => pc p n + (p n).toNat
theorem pc_front (p : Nat → Bool) : ∀ n, pc p (n + 1) = (p 0).toNat + pc (fun i => p (i + 1)) n := by
  intro n
  induction n with
  | zero => simp [pc]
  | succ n ih => rw [pc, ih, pc]; omega
theorem popN_pc : ∀ n x, popN n x = pc (fun i => x.testBit i) n := by
  intro n
  induction n with
  | zero => intro x; rfl
  | succ n ih =>
    intro x
    rw [popN, ih, pc_front]
    have e : (x.testBit 0).toNat = x % 2 := by rw [Nat.testBit_zero]; rcases Nat.mod_two_eq_zero_or_one x with h | h <;> simp [h]
    rw [e]
    congr 2
    funext i
    rw [Nat.testBit_succ]
theorem pc_congr (p q : Nat → Bool) : ∀ n, (∀ i, i < n → p i = q i) → pc p n = pc q n := by
  intro n
  induction n with
  | zero => intro _; rfl
  | succ n ih => intro h; rw [pc, pc, ih (fun i hi => h i (by omega)), h n (by omega)]
theorem pc_or (p q : Nat → Bool) : ∀ n, pc (fun i => p i || q i) n + pc (fun i => p i && q i) n = pc p n + pc q n := by
  intro n
  induction n with
  | zero => rfl
  | succ n ih =>
    simp only [pc]
    cases p n <;> cases q n <;> simp <;> omega
theorem pc_false (p : Nat → Bool) : ∀ n, (∀ i, i < n → p i = false) → pc p n = 0 := by
  intro n
  induction n with
  | zero => intro _; rfl
  | succ n ih => intro h; rw [pc, ih (fun i hi => h i (by omega)), h n (by omega)]; rfl
theorem pc_one (a : Int) (q : Nat → Bool) : ∀ n : Nat, 0 ≤ a → a < n → pc (fun i => decide ((i : Int) = a) && q i) n = (q a.toNat).toNat := by
  intro n
  induction n with
  | zero => intro h0 h1; omega
  | succ n ih =>
    intro h0 h1
    rw [pc]
    by_cases h : (n : Int) = a
    · rw [pc_false _ n (fun i hi => by simp; omega)]
      have : a.toNat = n := by omega
      simp [h, this]
    · rw [ih h0 (by omega)]
      simp [h]
/-- Of a list without two alike, of small numbers: as many bits as it has numbers with a property. -/
theorem pc_list (q : Int → Bool) (n : Nat) : ∀ l : List Int, l.Nodup → (∀ a ∈ l, 0 ≤ a ∧ a < n) → pc (fun i => decide ((i : Int) ∈ l) && q (i : Int)) n = (l.filter q).length := by
  intro l
  induction l with
  | nil => intro _ _; simpa using pc_false _ n (fun i hi => by simp)
  | cons a l ih =>
    intro hn ha
    obtain ⟨h0, h1⟩ := ha a (by simp)
    rw [List.nodup_cons] at hn
    have e := pc_or (fun i => decide ((i : Int) = a) && q (i : Int)) (fun i => decide ((i : Int) ∈ l) && q (i : Int)) n
    rw [pc_false (fun i => (decide ((i : Int) = a) && q (i : Int)) && (decide ((i : Int) ∈ l) && q (i : Int))) n (fun i hi => by
      by_cases hia : (i : Int) = a
      · simp [hia, hn.1]
      · simp [hia])] at e
    rw [pc_one a (fun i => q (i : Int)) n h0 h1, ih hn.2 (fun b hb => ha b (by simp [hb]))] at e
    rw [show (fun i : Nat => decide ((i : Int) ∈ a :: l) && q (i : Int)) = fun i : Nat => (decide ((i : Int) = a) && q (i : Int)) || (decide ((i : Int) ∈ l) && q (i : Int)) from by
      funext i
      cases q (i : Int) <;> simp]
    rw [Int.toNat_of_nonneg h0] at e
    rw [List.filter_cons]
    cases hq : q a <;> simp [hq] at e ⊢ <;> omega
end Go.Proofs.YtiakhgafibgpgaaDoor.Plain
