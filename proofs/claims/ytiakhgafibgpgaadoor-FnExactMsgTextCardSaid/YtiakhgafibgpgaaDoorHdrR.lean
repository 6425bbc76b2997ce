/- Rows of headers, as the exact laws copy, measure and compare them. -/
import Derived.Test.YtiakhgafibgpgaaDoorRowK
import Derived.Test.YtiakhgafibgpgaaDoorPrs
namespace Go.Proofs.YtiakhgafibgpgaaDoor
open Go.RowKit Plain
set_option linter.unusedVariables false

namespace Plain
end Plain

namespace Plain
end Plain











end Go.Proofs.YtiakhgafibgpgaaDoor