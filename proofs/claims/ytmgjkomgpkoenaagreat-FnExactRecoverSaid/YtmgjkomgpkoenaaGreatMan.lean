/- Manifests: when one is right, and its text: both programs by their contracts. -/
import Derived.Test.YtmgjkomgpkoenaaGreatManM
import Derived.Test.YtmgjkomgpkoenaaGreatStrR
namespace Go.Proofs.YtmgjkomgpkoenaaGreat
open Go.RowKit Plain
set_option linter.unusedVariables false

namespace Plain
theorem bel1 (w : World) (o : Obj) : Below w.heap.size w (w.alloc o) := (Below.refl _ _).alloc (Nat.le_refl _) _
theorem bcl {w w' : World} {B : Nat} (h : Below B w w') {g i : Nat} {v : Value} (hg : g < B) (hc : w.cell? ⟨g, i, none⟩ = some v) : w'.cell? ⟨g, i, none⟩ = some v := (h.cell (p := ⟨g, i, none⟩) hg).trans hc
theorem belOn {w W W' : World} (h0 : Below w.heap.size w W) (h1 : Below W.heap.size W W') : Below w.heap.size w W' := h0.trans (h1.mono h0.size)
end Plain









end Go.Proofs.YtmgjkomgpkoenaaGreat