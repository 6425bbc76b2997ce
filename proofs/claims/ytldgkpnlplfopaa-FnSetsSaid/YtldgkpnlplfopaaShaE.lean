/- The end of the data: the last blocks as lists of bytes. -/
import Derived.Test.YtldgkpnlplfopaaShaD
namespace Go.Proofs.Ytldgkpnlplfopaa.Plain
open Go Go.RowKit
set_option linter.unusedVariables false

def be8 (n : Int) : List Int := [n / 72057594037927936 % 256, n / 281474976710656 % 256, n / 1099511627776 % 256, n / 4294967296 % 256, n / 16777216 % 256, n / 65536 % 256, n / 256 % 256, n % 256]

/-- All of the last blocks but the length's eight bytes: the rest, a byte 128, noughts. -/
def preL (r : List Int) : List Int := r ++ 128 :: List.replicate (if r.length < 56 then 55 - r.length else 119 - r.length) 0
def lastL (r : List Int) (n : Int) : List Int := preL r ++ be8 n

theorem preL_length (r : List Int) (h : r.length < 64) : (preL r).length = if r.length < 56 then 56 else 120 := by
  unfold preL
  split <;> simp <;> omega

def byteAt (n : Int) (j : Nat) : Int := n / 2 ^ (8 * (7 - j)) % 256

def updTo (base : List Int) (off : Nat) (n : Int) : Nat → List Int
  | 0 => base
  | j + 1 => (updTo base off n j).set (off + j) (byteAt n j)

theorem updTo_length (base : List Int) (off : Nat) (n : Int) (j : Nat) : (updTo base off n j).length = base.length := by
  induction j with
  | zero => rfl
  | succ j ih => simp [updTo, ih]

theorem updTo_end (pre : List Int) (n : Int) : updTo (pre ++ List.replicate 8 0) pre.length n 8 = pre ++ be8 n := by
  have e : List.replicate 8 (0 : Int) = [0, 0, 0, 0, 0, 0, 0, 0] := rfl
  rw [e]
  simp only [updTo, byteAt, be8]
  simp

/-- The first block as it stands behind the copy and the byte 128. -/
def oneL (r : List Int) : List Int := r ++ 128 :: List.replicate (63 - r.length) 0
theorem oneL_small (r : List Int) (h : r.length < 56) : oneL r = preL r ++ List.replicate 8 0 := by
  unfold oneL preL
  rw [if_pos h, List.append_assoc, List.cons_append, List.replicate_append_replicate]
  congr 3
  omega
theorem oneL_big (r : List Int) (h : ¬ r.length < 56) (h2 : r.length < 64) : oneL r ++ List.replicate 64 0 = preL r ++ List.replicate 8 0 := by
  unfold oneL preL
  rw [if_neg h, List.append_assoc, List.cons_append, List.append_assoc, List.cons_append, List.replicate_append_replicate, List.replicate_append_replicate]
  congr 3
  omega
theorem oneL_length (r : List Int) (h : r.length < 64) : (oneL r).length = 64 := by
  unfold oneL; simp; omega

def zeros128 : Array Value := (List.replicate 128 (Value.int .u8 0)).toArray

theorem row_one (s : ByteArray) (h : s.size < 64) : (((splice zeros128.toList 0 ((bL s).map (Value.int .u8))).toArray.setIfInBounds s.size (.int .u8 128)).toList).take 64 = (oneL (bL s)).map (Value.int .u8) := by
  have hl := bL_length s
  simp only [splice, zeros128, oneL]
  rw [Array.toList_setIfInBounds]
  simp only [List.take_zero, List.nil_append, Nat.zero_add, List.length_map, hl, List.drop_replicate]
  rw [List.set_append_right _ _ (by simp [hl])]
  simp only [List.length_map, hl, Nat.sub_self]
  rw [show 128 - s.size = (127 - s.size) + 1 from by omega, List.replicate_succ, List.set_cons_zero]
  rw [List.take_append, List.take_of_length_le (by simp [hl]; omega)]
  simp only [List.length_map, hl]
  rw [show 64 - s.size = (63 - s.size) + 1 from by omega, List.take_succ_cons, List.take_replicate, Nat.min_eq_left (by omega)]
  simp

theorem spl_length (s : ByteArray) (h : s.size < 64) : (splice zeros128.toList 0 ((bL s).map (Value.int .u8))).toArray.size = 128 := by
  have hl := bL_length s
  rw [List.size_toArray, length_splice _ _ _ (by simp [zeros128, hl]; omega)]
  simp [zeros128]

theorem spl_cell {w : World} {g : Nat} {t : TypeId} (s : ByteArray) (h : s.size < 64) (hr : w.heap[g]? = some (.cells (splice zeros128.toList 0 ((bL s).map (Value.int .u8))).toArray t (0, 0))) :
    (∃ ov, w.cell? ⟨g, s.size, none⟩ = some ov) ∧ w.frozen? ⟨g, s.size, none⟩ = false := by
  refine ⟨?_, frozen_of_row w g s.size _ t hr⟩
  have hl := spl_length s h
  exact ⟨_, by rw [cell_of_row w g s.size _ t _ hr, Array.getElem?_eq_getElem (by omega)]⟩

end Go.Proofs.Ytldgkpnlplfopaa.Plain
