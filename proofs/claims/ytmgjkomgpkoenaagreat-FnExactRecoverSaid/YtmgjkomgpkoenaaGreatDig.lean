/- What a digest is: DigestOk and Nibble of both programs by their contracts. -/
import Derived.Test.YtmgjkomgpkoenaaGreatHex
import Derived.Test.YtmgjkomgpkoenaaGreatNum
namespace Go.Proofs.YtmgjkomgpkoenaaGreat
open Go.RowKit Plain
set_option linter.unusedVariables false

namespace Plain
def hexFrom (t : ByteArray) (k : Nat) : Bool := (t.data.toList.drop k).all fun c => decide (0 ≤ hexI c.toNat)

theorem hexFrom_step (t : ByteArray) (k : Nat) (h : k < t.size) : hexFrom t k = (decide (0 ≤ hexI t[k].toNat) && hexFrom t (k + 1)) := by
  unfold hexFrom
  rw [List.drop_eq_getElem_cons (by simpa using h)]
  rfl

theorem hexFrom_end (t : ByteArray) (k : Nat) (h : t.size ≤ k) : hexFrom t k = true := by
  unfold hexFrom
  rw [List.drop_of_length_le (by simpa using h)]
  rfl

theorem hexFrom_extract (s : ByteArray) (h : 7 ≤ s.size) : hexFrom (s.extract 7 s.size) 0 = hexFrom s 7 := by
  unfold hexFrom
  congr 1
  rw [ByteArray.data_extract, Array.toList_extract]
  simp [List.extract_eq_take_drop]
  exact List.take_of_length_le (by simp)

def shaL : List UInt8 := [115, 104, 97, 50, 53, 54, 58]
def digB (s : ByteArray) : Bool := decide (s.size = 71) && ((s.extract 0 7).toList == shaL) && hexFrom s 7

theorem digB_size {s : ByteArray} (h : ¬ s.size = 71) : digB s = false := by unfold digB; simp [h]
theorem digB_head {s : ByteArray} (h : ((s.extract 0 7).toList == shaL) = false) : digB s = false := by unfold digB; rw [h]; simp
theorem digB_rest {s : ByteArray} (h1 : s.size = 71) (h : ((s.extract 0 7).toList == shaL) = true) : digB s = hexFrom s 7 := by unfold digB; rw [h]; simp [h1]
end Plain







end Go.Proofs.YtmgjkomgpkoenaaGreat