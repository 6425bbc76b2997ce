/- Changes of members, by the program: a council changed. -/
import Derived.Test.YtedbjbndddmlhaaGreatDoorChaI
import Derived.Deep.RegionHeld3
namespace Go.Proofs.YtedbjbndddmlhaaGreatDoor
open Go.RowKit Plain
set_option linter.unusedVariables false

namespace Plain
/-- What a change makes of right members, and its code. -/
def chgS (kind id : Int) (v l : List Int) : List Int × List Int × Int :=
  if (decide (1 ≤ kind) && decide (kind ≤ 3)) && (decide (1 ≤ id) && decide (id ≤ 50)) then
    if findB kind id v l = true then
      if (nxtV kind id v).length = 0 then (v, l, 13) else if 7 < (nxtV kind id v).length ∨ 7 < (nxtL kind id l).length then (v, l, 14) else (nxtV kind id v, nxtL kind id l, 0)
    else (v, l, 12)
  else (v, l, 11)
end Plain

end Go.Proofs.YtedbjbndddmlhaaGreatDoor