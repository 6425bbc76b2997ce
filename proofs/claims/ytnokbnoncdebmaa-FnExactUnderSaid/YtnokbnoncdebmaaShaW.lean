/- The program's words behind a block. -/
import Derived.Test.YtnokbnoncdebmaaShaS
import Derived.Test.YtnokbnoncdebmaaShaC
import Derived.Deep.RegionWith
namespace Go.Proofs.Ytnokbnoncdebmaa
open Go.RowKit Plain
set_option linter.unusedVariables false

namespace Plain
end Plain

end Go.Proofs.Ytnokbnoncdebmaa