/- More plain facts on numbers and texts in bytes. -/
import Derived.Test.YtgdcamolpmjceaaPlain
namespace Go.Proofs.Ytgdcamolpmjceaa.Plain
open Go Go.RowKit
set_option linter.unusedVariables false

theorem putL_length (f m : Nat) : (putL f m).length ≤ f + 1 := by
  induction f generalizing m with
  | zero => simp [putL]
  | succ f ih =>
    unfold putL
    split
    · simp
    · have := ih (m / 128); simp; omega

theorem putS_size (n : Int) : (putS n).size ≤ 6 := by
  unfold putS
  split
  · rw [strOfNums_size]; exact putL_length 5 _
  · simp

end Go.Proofs.Ytgdcamolpmjceaa.Plain
