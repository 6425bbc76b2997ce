/- Numbers in bytes: PutNumber of both programs by its contract. -/
import Derived.Test.YtnokbnoncdebmaaMem
namespace Go.Proofs.Ytnokbnoncdebmaa
open Go.RowKit Plain
set_option linter.unusedVariables false











end Go.Proofs.Ytnokbnoncdebmaa
