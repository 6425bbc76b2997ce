/- What is drawn for numbers and texts is short; what is drawn as a number is one. -/
import Derived.Test.YtldgkpnlplfopaaDzA
import Derived.Test.YtldgkpnlplfopaaShaP
import Derived.Test.YtldgkpnlplfopaaNum
import Derived.Lib.SlBytesConst
import Derived.Laws.MakeOwn
namespace Go.Proofs.Ytldgkpnlplfopaa
open Go.RowKit Plain
set_option linter.unusedVariables false



end Go.Proofs.Ytldgkpnlplfopaa