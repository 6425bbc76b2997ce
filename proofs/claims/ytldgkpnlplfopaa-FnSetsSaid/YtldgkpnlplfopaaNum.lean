/- Numbers in bytes: PutNumber of both programs by its contract. -/
import Derived.Test.YtldgkpnlplfopaaMem
namespace Go.Proofs.Ytldgkpnlplfopaa
open Go.RowKit Plain
set_option linter.unusedVariables false











end Go.Proofs.Ytldgkpnlplfopaa
