/- The cut around a statement, for walks that part and meet again. -/
import Derived.Test.YtedbjbndddmlhaaGreatDoorMan
import Derived.Deep.DeepCutAuto
import Derived.Deep.RegionWith
namespace Go.Proofs.YtedbjbndddmlhaaGreatDoor
end Go.Proofs.YtedbjbndddmlhaaGreatDoor
