/- The CRC over words of 32 bits: a step is linear and one to one; eight steps by a table of 256 words. -/
import Derived.Test.YtmgjkomgpkoenaaGreatCrcM
namespace Go.Proofs.YtmgjkomgpkoenaaGreat.Plain
open Go Go.RowKit
set_option linter.unusedVariables false

def crcC : BitVec 32 := 0xedb88320#32
def bstep (v : BitVec 32) : BitVec 32 := if v.getLsbD 0 then (v >>> 1) ^^^ crcC else v >>> 1
def bsteps : Nat → BitVec 32 → BitVec 32
  | 0, v => v
  | n + 1, v => bsteps n (bstep v)

theorem bstep_xor (a b : BitVec 32) : bstep (a ^^^ b) = bstep a ^^^ bstep b := by
  unfold bstep
  rw [BitVec.getLsbD_xor, BitVec.ushiftRight_xor_distrib]
  cases a.getLsbD 0 <;> cases b.getLsbD 0 <;> simp
  · rw [BitVec.xor_assoc]
  · rw [BitVec.xor_assoc, BitVec.xor_assoc, BitVec.xor_comm (b >>> 1) crcC]
  · rw [BitVec.xor_assoc, BitVec.xor_comm crcC, BitVec.xor_assoc, BitVec.xor_self, BitVec.xor_zero]

theorem bsteps_xor (n : Nat) : ∀ a b : BitVec 32, bsteps n (a ^^^ b) = bsteps n a ^^^ bsteps n b := by
  induction n with
  | zero => intro a b; rfl
  | succ n ih => intro a b; simp only [bsteps, bstep_xor, ih]

theorem bsteps_succ (n : Nat) : ∀ v, bsteps (n + 1) v = bstep (bsteps n v) := by
  induction n with
  | zero => intro v; rfl
  | succ n ih => intro v; rw [bsteps, ih]; rfl

theorem bstep_msb (v : BitVec 32) : (bstep v).getLsbD 31 = v.getLsbD 0 := by
  unfold bstep
  by_cases h : v.getLsbD 0 = true
  · rw [if_pos h, BitVec.getLsbD_xor, BitVec.getLsbD_ushiftRight, h]
    simp [crcC]
  · rw [if_neg h, BitVec.getLsbD_ushiftRight]
    simp at h ⊢
    exact h

theorem bshr_inj (a b : BitVec 32) (h : a >>> 1 = b >>> 1) (h0 : a.getLsbD 0 = b.getLsbD 0) : a = b := by
  apply BitVec.eq_of_getLsbD_eq
  intro i hi
  cases i with
  | zero => exact h0
  | succ i =>
    have := congrArg (fun v => v.getLsbD i) h
    simpa [BitVec.getLsbD_ushiftRight, Nat.add_comm 1 i] using this

theorem bstep_inj (a b : BitVec 32) (h : bstep a = bstep b) : a = b := by
  have h0 : a.getLsbD 0 = b.getLsbD 0 := by rw [← bstep_msb, ← bstep_msb, h]
  apply bshr_inj a b _ h0
  unfold bstep at h
  rw [← h0] at h
  by_cases c : a.getLsbD 0 = true
  · rw [if_pos c, if_pos c] at h
    have := congrArg (fun v => v ^^^ crcC) h
    simpa [BitVec.xor_assoc] using this
  · rwa [if_neg c, if_neg c] at h

theorem bsteps_inj (n : Nat) : ∀ a b : BitVec 32, bsteps n a = bsteps n b → a = b := by
  induction n with
  | zero => intro a b h; exact h
  | succ n ih => intro a b h; exact bstep_inj _ _ (ih _ _ h)

theorem bsteps_low (n : Nat) : ∀ v : BitVec 32, (∀ i, i < n → v.getLsbD i = false) → bsteps n v = v >>> n := by
  induction n with
  | zero => intro v _; simp [bsteps]
  | succ n ih =>
    intro v h
    have e : bstep v = v >>> 1 := by unfold bstep; rw [if_neg (by rw [h 0 (by omega)]; decide)]
    rw [bsteps, e, ih]
    · apply BitVec.eq_of_getLsbD_eq
      intro i hi
      simp [BitVec.getLsbD_ushiftRight]
      congr 1; omega
    · intro i hi
      rw [BitVec.getLsbD_ushiftRight, h (1 + i) (by omega)]

def bbyte8 (v : BitVec 32) (b : Nat) : BitVec 32 := bsteps 8 (v ^^^ BitVec.ofNat 32 b)

theorem bsplit8 (y : BitVec 32) : bsteps 8 y = (y >>> 8) ^^^ bsteps 8 (y &&& 255#32) := by
  have e : y = (y &&& 0xffffff00#32) ^^^ (y &&& 255#32) := by
    apply BitVec.eq_of_getLsbD_eq
    intro i hi
    rw [BitVec.getLsbD_xor, BitVec.getLsbD_and, BitVec.getLsbD_and]
    have : (0xffffff00#32).getLsbD i = !(255#32).getLsbD i := by
      revert i; decide
    rw [this]
    cases (255#32).getLsbD i <;> simp
  have l := bsteps_low 8 (y &&& 0xffffff00#32) (by
    intro i hi
    rw [BitVec.getLsbD_and]
    have : (0xffffff00#32).getLsbD i = false := by revert i; decide
    rw [this]; simp)
  have s : (y &&& 0xffffff00#32) >>> 8 = y >>> 8 := by
    apply BitVec.eq_of_getLsbD_eq
    intro i hi
    rw [BitVec.getLsbD_ushiftRight, BitVec.getLsbD_ushiftRight, BitVec.getLsbD_and]
    by_cases h : 8 + i < 32
    · have : ∀ i : Nat, i < 24 → (0xffffff00#32).getLsbD (8 + i) = true := by decide
      rw [this i (by omega)]; simp
    · rw [BitVec.getLsbD_of_ge _ _ (by omega)]; simp
  conv => lhs; rw [e, bsteps_xor, l, s]

theorem xor_word (a b : BitVec 32) : bits .xor .u32 (a.toNat : Int) (b.toNat : Int) = ((a ^^^ b).toNat : Int) := by
  rw [u32_xor_nat _ _ (by have := a.isLt; omega) (by have := b.isLt; omega), BitVec.toNat_xor]

theorem stepI_word (v : BitVec 32) : stepI (v.toNat : Int) = ((bstep v).toNat : Int) := by
  have hv := v.isLt
  have hh : (v.toNat : Int) / (2 : Int) = ((v >>> 1).toNat : Int) := by
    rw [BitVec.toNat_ushiftRight, Nat.shiftRight_eq_div_pow]; omega
  have hb : bits .and .u32 (v.toNat : Int) 1 = ((v.toNat % 2 : Nat) : Int) := by
    rw [show (1 : Int) = ((1 : Nat) : Int) from rfl, u32_and_nat _ _ (by omega) (by decide), nat_mask1]
  have hl : v.getLsbD 0 = decide (v.toNat % 2 = 1) := by
    rw [BitVec.getLsbD, Nat.testBit_zero]
  unfold stepI bstep
  rw [hb, hl, hh]
  by_cases h : v.toNat % 2 = 1
  · rw [if_pos (by rw [h]; rfl), if_pos (by simp [h]), show (3988292384 : Int) = ((crcC.toNat : Nat) : Int) from rfl, xor_word]
  · rw [if_neg (by simp; omega), if_neg (by simp [h])]

theorem stepsI_word (n : Nat) : ∀ v : BitVec 32, stepsI n (v.toNat : Int) = ((bsteps n v).toNat : Int) := by
  induction n with
  | zero => intro v; rfl
  | succ n ih => intro v; rw [stepsI, stepI_word, ih]; rfl

theorem word_of {x : Int} (h0 : 0 ≤ x) (h1 : x < 4294967296) : ∃ v : BitVec 32, x = (v.toNat : Int) := by
  refine ⟨BitVec.ofNat 32 x.toNat, ?_⟩
  rw [BitVec.toNat_ofNat]; omega

theorem crc_table {X : Int} {c D : Nat} (h0 : 0 ≤ X) (h1 : X < 4294967296) (hc : c < 256) (hD : ((X % 256).toNat ^^^ c) = D) :
    bits .xor .u32 (X / 256) (stepsI 8 (D : Int)) = stepsI 8 (bits .xor .u32 X (c : Int)) := by
  obtain ⟨v, rfl⟩ := word_of h0 h1
  have hv := v.isLt
  have ec : (c : Int) = ((BitVec.ofNat 32 c).toNat : Int) := by rw [BitVec.toNat_ofNat]; omega
  have hD256 : D < 256 := by rw [← hD]; exact Nat.xor_lt_two_pow (n := 8) (by omega) (by omega)
  have eD : (D : Int) = ((BitVec.ofNat 32 D).toNat : Int) := by rw [BitVec.toNat_ofNat]; omega
  have e8 : (v.toNat : Int) / (256 : Int) = ((v >>> 8).toNat : Int) := by rw [BitVec.toNat_ushiftRight, Nat.shiftRight_eq_div_pow]; omega
  rw [ec, xor_word, stepsI_word, bsplit8, eD, stepsI_word, e8, xor_word]
  have k1 : (v ^^^ BitVec.ofNat 32 c) >>> 8 = v >>> 8 := by
    rw [BitVec.ushiftRight_xor_distrib]
    have : (BitVec.ofNat 32 c) >>> 8 = 0#32 := by
      apply BitVec.eq_of_toNat_eq
      rw [BitVec.toNat_ushiftRight, BitVec.toNat_ofNat, Nat.shiftRight_eq_div_pow]
      simp
      omega
    rw [this, BitVec.xor_zero]
  have k2 : (v ^^^ BitVec.ofNat 32 c) &&& 255#32 = BitVec.ofNat 32 D := by
    apply BitVec.eq_of_toNat_eq
    rw [BitVec.toNat_and, BitVec.toNat_xor, BitVec.toNat_ofNat, BitVec.toNat_ofNat, Nat.and_xor_distrib_right, ← hD]
    rw [BitVec.toNat_ofNat, show 255 % 2 ^ 32 = 2 ^ 8 - 1 from rfl, Nat.and_two_pow_sub_one_eq_mod _ 8, Nat.and_two_pow_sub_one_eq_mod _ 8]
    have a1 : c % 2 ^ 32 % 2 ^ 8 = c := by omega
    have a2 : ((v.toNat : Int) % 256).toNat = v.toNat % 2 ^ 8 := by omega
    rw [a1, a2]
    have : v.toNat % 2 ^ 8 ^^^ c < 2 ^ 8 := Nat.xor_lt_two_pow (by omega) (by omega)
    omega
  rw [k1, k2]

theorem idx_rules {X : Int} {c : Nat} (h0 : 0 ≤ X) (h1 : X < 4294967296) (hc : c < 256) :
    ∃ E D : Nat, IntKind.u8.wrap X = (E : Int) ∧ X % 256 = (E : Int) ∧ E < 256 ∧ bits .xor .u8 (E : Int) (c : Int) = (D : Int) ∧ D < 256 ∧ bits .xor .u32 (X / 256) (stepsI 8 (D : Int)) = stepsI 8 (bits .xor .u32 X (c : Int)) := by
  refine ⟨(X % 256).toNat, (X % 256).toNat ^^^ c, ?_, by omega, by omega, ?_, ?_, crc_table h0 h1 hc rfl⟩
  · rw [IntKind.wrap_u8']; omega
  · exact u8_xor_nat _ _ (by omega) hc
  · exact Nat.xor_lt_two_pow (n := 8) (by omega) (by omega)

end Go.Proofs.YtmgjkomgpkoenaaGreat.Plain
