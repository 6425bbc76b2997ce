/- The cut around a statement, for walks that part and meet again. -/
import Derived.Test.YtmokpgmehaakgaaGreatDoorRzG
import Derived.Deep.DeepCutAuto
import Derived.Deep.RegionWith
namespace Go.Proofs.YtmokpgmehaakgaaGreatDoor
end Go.Proofs.YtmokpgmehaakgaaGreatDoor
