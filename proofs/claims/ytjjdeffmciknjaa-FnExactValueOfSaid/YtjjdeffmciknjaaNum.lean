/- Numbers in bytes: PutNumber of both programs by its contract. -/
import Derived.Test.YtjjdeffmciknjaaMem
namespace Go.Proofs.Ytjjdeffmciknjaa
open Go.RowKit Plain
set_option linter.unusedVariables false











end Go.Proofs.Ytjjdeffmciknjaa
