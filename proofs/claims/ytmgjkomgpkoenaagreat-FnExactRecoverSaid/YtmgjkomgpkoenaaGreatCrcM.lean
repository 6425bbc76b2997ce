/- The CRC-32 as plain mathematics: a step is linear and one to one; eight steps by a table. -/
import Derived.Test.YtmgjkomgpkoenaaGreatPlain
namespace Go.Proofs.YtmgjkomgpkoenaaGreat.Plain
open Go Go.RowKit
set_option linter.unusedVariables false

/-- One step, as both programs reckon it. -/
def stepI (x : Int) : Int := if (bits .and .u32 x 1 == 1) = true then bits .xor .u32 (x / 2) 3988292384 else x / 2
def stepsI : Nat → Int → Int
  | 0, x => x
  | n + 1, x => stepsI n (stepI x)

def crcAt (s : ByteArray) : Nat → Int
  | 0 => 4294967295
  | k + 1 => stepsI 8 (bits .xor .u32 (crcAt s k) ((s.data.toList.getD k 0).toNat : Int))

def crcI (s : ByteArray) : Int := bits .xor .u32 IntKind.u32.max (crcAt s s.size)

theorem bits_u32_range (op : BinOp) (x y : Int) : 0 ≤ bits op .u32 x y ∧ bits op .u32 x y < 4294967296 := by
  unfold bits
  simp only
  rw [IntKind.wrap_u32']
  omega

theorem stepI_range (x : Int) (h0 : 0 ≤ x) (h1 : x < 4294967296) : 0 ≤ stepI x ∧ stepI x < 4294967296 := by
  unfold stepI
  split
  · exact bits_u32_range _ _ _
  · omega

theorem stepsI_range (n : Nat) : ∀ x : Int, 0 ≤ x → x < 4294967296 → 0 ≤ stepsI n x ∧ stepsI n x < 4294967296 := by
  induction n with
  | zero => intro x h0 h1; exact ⟨h0, h1⟩
  | succ n ih => intro x h0 h1; have := stepI_range x h0 h1; exact ih _ this.1 this.2

theorem crcAt_range (s : ByteArray) (k : Nat) : 0 ≤ crcAt s k ∧ crcAt s k < 4294967296 := by
  cases k with
  | zero => unfold crcAt; omega
  | succ k => exact stepsI_range 8 _ (bits_u32_range _ _ _).1 (bits_u32_range _ _ _).2

theorem crcAt_succ (s : ByteArray) (k c : Nat) (h : k < s.size) (hc : s[k].toNat = c) : crcAt s (k + 1) = stepsI 8 (bits .xor .u32 (crcAt s k) (c : Int)) := by
  rw [crcAt, List.getD, List.getElem?_eq_getElem (by simpa using h), ← hc]
  rfl

theorem steps_next {j : Nat} {Z R : Int} (hj : j < 8) (h : stepsI (8 - j) Z = R) : stepsI (8 - (j + 1)) (stepI Z) = R := by
  rw [show 8 - j = (8 - (j + 1)) + 1 from by omega] at h
  exact h
theorem stepI_yes {Z : Int} (h : (bits .and .u32 Z 1 == 1) = true) : stepI Z = bits .xor .u32 (Z / 2) 3988292384 := by unfold stepI; rw [if_pos h]
theorem stepI_no {Z : Int} (h : (bits .and .u32 Z 1 == 1) = false) : stepI Z = Z / 2 := by unfold stepI; rw [h]; simp

end Go.Proofs.YtmgjkomgpkoenaaGreat.Plain
