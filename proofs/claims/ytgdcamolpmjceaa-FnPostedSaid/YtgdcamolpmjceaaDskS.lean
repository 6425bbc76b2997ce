/- The specification's files: which are right, the place of one, put, cut. -/
import Derived.Test.YtgdcamolpmjceaaDskM
import Derived.Deep.RegionWith
import Derived.Deep.QuietTactic
import Derived.BigQuiet
namespace Go.Proofs.Ytgdcamolpmjceaa
open Go.RowKit Plain
set_option linter.unusedVariables false

/-- The files of a row are of a size that a machine bears. -/
def Plain.FitF (fs : List Fl) : Prop := ∀ f ∈ fs, f.1.size ≤ 1000000000000 ∧ f.2.size ≤ 1000000000000





end Go.Proofs.Ytgdcamolpmjceaa