/- Under by both. -/
import Derived.Test.YtnokbnoncdebmaaUnI
namespace Go.Proofs.Ytnokbnoncdebmaa
open Go.RowKit Go.Maps Plain
set_option linter.unusedVariables false

theorem Plain.und_len (ls : List ByteArray) (p : ByteArray) : (undL ls p).length ≤ 200 := by
  unfold undL
  split
  · next h =>
    rw [Bool.and_eq_true] at h
    exact Nat.le_trans (List.length_filter_le _ _) (setB_all h.1).1
  · simp
end Go.Proofs.Ytnokbnoncdebmaa
