/- What is drawn for numbers and texts is short; what is drawn as a number is one. -/
import Derived.Test.YtmienlnhbdbefaaGreatDoorDzA
import Derived.Test.YtmienlnhbdbefaaGreatDoorShaP
import Derived.Test.YtmienlnhbdbefaaGreatDoorNum
import Derived.Lib.SlBytesConst
import Derived.Laws.MakeOwn
namespace Go.Proofs.YtmienlnhbdbefaaGreatDoor
open Go.RowKit Plain
set_option linter.unusedVariables false



end Go.Proofs.YtmienlnhbdbefaaGreatDoor