/- One round, and a word of four bytes, of the program. -/
import Derived.Test.YtldgkpnlplfopaaRot
import Derived.Test.YtldgkpnlplfopaaShaM
import Derived.Deep.RegionHeld3
import Derived.Laws.Rows
import Derived.Laws.Tables
import Derived.WalkSmall
namespace Go.Proofs.Ytldgkpnlplfopaa
open Go.RowKit Plain
set_option linter.unusedVariables false



end Go.Proofs.Ytldgkpnlplfopaa