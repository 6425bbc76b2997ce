/- Numbers in bytes: PutNumber of both programs by its contract. -/
import Derived.Test.YtkeindhefiaghaaDoorMem
namespace Go.Proofs.YtkeindhefiaghaaDoor
open Go.RowKit Plain
set_option linter.unusedVariables false











end Go.Proofs.YtkeindhefiaghaaDoor
