/- The program's last blocks. -/
import Derived.Test.YtkeindhefiaghaaDoorShaR
import Derived.Test.YtkeindhefiaghaaDoorShaE
import Derived.Deep.DeepCutAuto
namespace Go.Proofs.YtkeindhefiaghaaDoor
open Go.RowKit Plain
set_option linter.unusedVariables false

theorem info8 : (Tryd.prog.info? 5).map (·.size) = some 1 := by kernel_rfl

















end Go.Proofs.YtkeindhefiaghaaDoor
