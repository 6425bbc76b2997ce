/- The program's last blocks. -/
import Derived.Test.YtldgkpnlplfopaaShaR
import Derived.Test.YtldgkpnlplfopaaShaE
import Derived.Deep.DeepCutAuto
namespace Go.Proofs.Ytldgkpnlplfopaa
open Go.RowKit Plain
set_option linter.unusedVariables false

theorem info8 : (Try.prog.info? 5).map (·.size) = some 1 := by kernel_rfl

















end Go.Proofs.Ytldgkpnlplfopaa
