/- The program's last blocks. -/
import Derived.Test.YtkeindhefiaghaaShaR
import Derived.Test.YtkeindhefiaghaaShaE
import Derived.Deep.DeepCutAuto
namespace Go.Proofs.Ytkeindhefiaghaa
open Go.RowKit Plain
set_option linter.unusedVariables false

theorem info8 : (Try.prog.info? 5).map (·.size) = some 1 := by kernel_rfl

















end Go.Proofs.Ytkeindhefiaghaa
