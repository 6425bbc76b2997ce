/- Numbers in bytes: PutNumber of both programs by its contract. -/
import Derived.Test.YtjjdeffmciknjaaDoorMem
namespace Go.Proofs.YtjjdeffmciknjaaDoor
open Go.RowKit Plain
set_option linter.unusedVariables false











end Go.Proofs.YtjjdeffmciknjaaDoor
