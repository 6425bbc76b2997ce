/- Numbers in bytes: PutNumber of both programs by its contract. -/
import Derived.Test.YtlkkhhelonbcbaaDoorMem
namespace Go.Proofs.YtlkkhhelonbcbaaDoor
open Go.RowKit Plain
set_option linter.unusedVariables false











end Go.Proofs.YtlkkhhelonbcbaaDoor
