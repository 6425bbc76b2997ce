/- The program's words behind a block. -/
import Derived.Test.YtldgkpnlplfopaaShaS
import Derived.Test.YtldgkpnlplfopaaShaC
import Derived.Deep.RegionWith
namespace Go.Proofs.Ytldgkpnlplfopaa
open Go.RowKit Plain
set_option linter.unusedVariables false

namespace Plain
end Plain

end Go.Proofs.Ytldgkpnlplfopaa