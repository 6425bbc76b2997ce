/- A word in four bytes, the lowest first: both programs by their contracts. -/
import Derived.Test.YtjjdeffmciknjaaMem
namespace Go.Proofs.Ytjjdeffmciknjaa
open Go.RowKit Plain
set_option linter.unusedVariables false

namespace Plain
def fourL (x : Int) : List Int := [x % 256, x / 256 % 256, x / 65536 % 256, x / 16777216]
end Plain











end Go.Proofs.Ytjjdeffmciknjaa