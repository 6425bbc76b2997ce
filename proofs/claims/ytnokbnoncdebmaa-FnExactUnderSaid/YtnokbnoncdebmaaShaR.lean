/- One round, and a word of four bytes, of the program. -/
import Derived.Test.YtnokbnoncdebmaaRot
import Derived.Test.YtnokbnoncdebmaaShaM
import Derived.Deep.RegionHeld3
import Derived.Laws.Rows
import Derived.Laws.Tables
import Derived.WalkSmall
namespace Go.Proofs.Ytnokbnoncdebmaa
open Go.RowKit Plain
set_option linter.unusedVariables false



end Go.Proofs.Ytnokbnoncdebmaa