/- The program's last blocks. -/
import Derived.Test.YtnokbnoncdebmaaShaR
import Derived.Test.YtnokbnoncdebmaaShaE
import Derived.Deep.DeepCutAuto
namespace Go.Proofs.Ytnokbnoncdebmaa
open Go.RowKit Plain
set_option linter.unusedVariables false

theorem info8 : (Try.prog.info? 5).map (·.size) = some 1 := by kernel_rfl

















end Go.Proofs.Ytnokbnoncdebmaa
