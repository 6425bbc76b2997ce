/- The cut around a statement, for walks that part and meet again. -/
import Derived.Test.YtmmibkbodcfkkaaDoorMan
import Derived.Deep.DeepCutAuto
import Derived.Deep.RegionWith
namespace Go.Proofs.YtmmibkbodcfkkaaDoor
end Go.Proofs.YtmmibkbodcfkkaaDoor
