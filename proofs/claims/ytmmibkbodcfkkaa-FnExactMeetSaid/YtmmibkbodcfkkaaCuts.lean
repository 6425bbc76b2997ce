/- The cut around a statement, for walks that part and meet again. -/
import Derived.Test.YtmmibkbodcfkkaaMan
import Derived.Deep.DeepCutAuto
import Derived.Deep.RegionWith
namespace Go.Proofs.Ytmmibkbodcfkkaa
end Go.Proofs.Ytmmibkbodcfkkaa
