/- The specification's files: the place of one, put, cut. -/
import Derived.Test.YtgdcamolpmjceaaDskS
namespace Go.Proofs.Ytgdcamolpmjceaa
open Go.RowKit Plain
set_option linter.unusedVariables false

def Plain.atV : Option Nat → Int
  | some i => i
  | none => -1





end Go.Proofs.Ytgdcamolpmjceaa