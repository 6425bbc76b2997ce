/- Rotations follow one another: by two numbers it is by their sum. -/
import Derived.Test.YtlkkhhelonbcbaaPlain
namespace Go.Proofs.Ytlkkhhelonbcbaa.Plain
open Go Go.RowKit
set_option linter.unusedVariables false

theorem rot_bit (v : BitVec 32) (r i : Nat) (hr : r < 32) (hi : i < 32) : (v.rotateRight r).getLsbD i = v.getLsbD ((i + r) % 32) := by
  rw [BitVec.getLsbD_rotateRight, Nat.mod_eq_of_lt hr]
  by_cases h : i < 32 - r
  · simp [h]
    congr 1
    omega
  · simp [h, hi]
    congr 1
    omega

theorem rot_rot (v : BitVec 32) (r s : Nat) (hr : r < 32) (hs : s < 32) : (v.rotateRight r).rotateRight s = v.rotateRight ((r + s) % 32) := by
  apply BitVec.eq_of_getLsbD_eq
  intro i hi
  rw [rot_bit _ s i hs hi, rot_bit _ r _ hr (Nat.mod_lt _ (by decide)), rot_bit _ _ i (Nat.mod_lt _ (by decide)) hi]
  congr 1
  omega

theorem rotI_rotI (x a b : Int) : rotI (rotI x a) b = rotI x (a + b) := by
  unfold rotI
  rw [BitVec.ofInt_natCast, BitVec.ofNat_toNat, BitVec.setWidth_eq, rot_rot _ _ _ (by omega) (by omega)]
  congr 3
  omega

theorem rotI_zero (x n : Int) (h0 : 0 ≤ x) (h1 : x < 4294967296) (hn : n % 32 = 0) : rotI x n = x := by
  unfold rotI
  rw [hn]
  have : (BitVec.ofInt 32 x).rotateRight (Int.toNat 0) = BitVec.ofInt 32 x := by
    apply BitVec.eq_of_getLsbD_eq
    intro i hi
    rw [rot_bit _ _ i (by decide) hi]
    congr 1
    simp
    omega
  rw [this, BitVec.toNat_ofInt]
  omega

end Go.Proofs.Ytlkkhhelonbcbaa.Plain
