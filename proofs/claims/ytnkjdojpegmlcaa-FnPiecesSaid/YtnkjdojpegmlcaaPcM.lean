/- Texts in pieces, as plain mathematics. -/
import Derived.Test.YtnkjdojpegmlcaaShaF
import Derived.Test.YtnkjdojpegmlcaaWf
import Derived.Test.YtnkjdojpegmlcaaTxt
namespace Go.Proofs.Ytnkjdojpegmlcaa
open Go.RowKit Plain
set_option linter.unusedVariables false

namespace Plain
theorem strOfNums_bL (s : ByteArray) : strOfNums (bL s) = s := by
  apply ByteArray.ext
  apply Array.toList_inj.1
  rw [strOfNums_data, bL, List.map_map]
  have : ((fun n : Int => UInt8.ofNat n.toNat) ∘ fun b : UInt8 => ((b.toNat : Nat) : Int)) = id := funext fun b => by simp
  rw [this, List.map_id]
theorem bL_part (s : ByteArray) (a b : Nat) (h : b ≤ s.size) : bL (s.extract a b) = ((bL s).drop a).take (b - a) := by
  unfold bL
  rw [← List.map_drop, ← List.map_take, ByteArray.data_extract, Array.toList_extract, List.extract_eq_take_drop]
/-- How many pieces; the i-th one; its frame. -/
def pcN (t : ByteArray) (n : Nat) : Nat := (t.size + n - 1) / n
def pcP (t : ByteArray) (n i : Nat) : ByteArray := t.extract (i * n) (min (i * n + n) t.size)
def pcT (t : ByteArray) (n i : Nat) : ByteArray := frameB 3 (putS (i : Int) ++ putS (pcN t n : Int) ++ putT (pcP t n i))
def pcL (t : ByteArray) (n k : Nat) : List ByteArray := (List.range k).map (pcT t n)
theorem pcL_len (t : ByteArray) (n k : Nat) : (pcL t n k).length = k := by simp [pcL]
theorem pcL_next (t : ByteArray) (n k : Nat) : pcL t n (k + 1) = pcL t n k ++ [pcT t n k] := by simp [pcL, List.range_succ]
theorem pcN_lt (t : ByteArray) (n i : Nat) (hn : 1 ≤ n) : i < pcN t n ↔ i * n < t.size := by
  unfold pcN
  rw [Nat.lt_div_iff_mul_lt (by omega)]
  omega
theorem pcN_le (t : ByteArray) (n : Nat) (hn : 1 ≤ n) (ht : t.size ≤ 20000) : pcN t n ≤ 20000 := by
  rcases Nat.lt_or_ge 20000 (pcN t n) with h | h
  · have := (pcN_lt t n 20000 hn).1 h
    have : 20000 * 1 ≤ 20000 * n := Nat.mul_le_mul_left _ hn
    omega
  · exact h
theorem strP_add {a b : ByteArray} (W : World) (h : a.size + b.size ≤ 1000000000000) : (Op.stringOp .add a b).run Try.prog W = .ok (.string (a ++ b)) W := by
  have h1 : ¬ ((a.size + b.size : Nat) : Int) > IntKind.i64.max := by rw [show IntKind.i64.max = 9223372036854775807 from rfl]; omega
  unfold Op.stringOp
  simp only [if_neg h1]
  rfl
theorem putT_lp (s : ByteArray) : (putT s).size ≤ 1000000 := by
  unfold putT
  by_cases h : s.size ≤ 20000
  · rw [if_pos h, ByteArray.size_append]
    have := putS_size (s.size : Int)
    omega
  · rw [if_neg h]; decide
/-- What Pieces answers. -/
def pcR (t : ByteArray) (n : Int) : List ByteArray × Bool := if 1 ≤ n ∧ n ≤ 4000 ∧ t.size ≤ 20000 then (pcL t n.toNat (pcN t n.toNat), true) else ([], false)
end Plain
end Go.Proofs.Ytnkjdojpegmlcaa
