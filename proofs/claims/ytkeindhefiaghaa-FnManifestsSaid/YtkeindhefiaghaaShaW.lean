/- The program's words behind a block. -/
import Derived.Test.YtkeindhefiaghaaShaS
import Derived.Test.YtkeindhefiaghaaShaC
import Derived.Deep.RegionWith
namespace Go.Proofs.Ytkeindhefiaghaa
open Go.RowKit Plain
set_option linter.unusedVariables false

namespace Plain
/-- The package's table of the rounds' words, as the program's text lays it, in block 0. -/
def KAt (w : World) : Prop := ∀ j, j < 64 → w.cell? ⟨0, j, none⟩ = some (.int .u32 (kL.getD j 0))
theorem KAt.below {w w' : World} {B : Nat} (h : KAt w) (hb : Below B w w') (hB : 0 < B) : KAt w' := fun j hj => (hb.cell (p := ⟨0, j, none⟩) hB).trans (h j hj)
end Plain

end Go.Proofs.Ytkeindhefiaghaa