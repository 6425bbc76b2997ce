/- Rows of texts, as the exact laws copy, measure and compare them. -/
import Derived.Test.YtkpnnchgngcppaaGen
import Derived.Test.YtkpnnchgngcppaaCut
import Derived.Laws.OwnMore
import Derived.Laws.MakeOwn
namespace Go.Proofs.Ytkpnnchgngcppaa
open Go.RowKit Plain
set_option linter.unusedVariables false

namespace Plain
end Plain





namespace Plain
def sumZ (ls : List ByteArray) : Nat := (ls.map fun l => l.size).sum
/-- What is left of a purse behind a row of texts; less than nought: it was too small. -/
def szL (ls : List ByteArray) (left : Int) : Int := if left < ls.length + sumZ ls then -1 else left - (ls.length + sumZ ls)
theorem sumZ_cons (x : ByteArray) (ls : List ByteArray) : sumZ (x :: ls) = x.size + sumZ ls := by simp [sumZ]
theorem sumZ_drop (ls : List ByteArray) (k : Nat) (h : k < ls.length) : sumZ (ls.drop k) = ls[k].size + sumZ (ls.drop (k + 1)) := by rw [List.drop_eq_getElem_cons h, sumZ_cons]
theorem sumZ_end (ls : List ByteArray) (k : Nat) (h : ls.length ≤ k) : sumZ (ls.drop k) = 0 := by rw [List.drop_of_length_le h]; rfl
theorem sumZ_mem (ls : List ByteArray) (x : ByteArray) (h : x ∈ ls) : x.size ≤ sumZ ls := by
  induction ls with
  | nil => simp at h
  | cons y l ih =>
    rw [sumZ_cons]
    rcases List.mem_cons.1 h with rfl | h
    · omega
    · have := ih h; omega
end Plain



end Go.Proofs.Ytkpnnchgngcppaa