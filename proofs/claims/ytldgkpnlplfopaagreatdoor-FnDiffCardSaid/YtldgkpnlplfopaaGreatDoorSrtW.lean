/- The comparison by weights and numbers, by the program. -/
import Derived.Test.YtldgkpnlplfopaaGreatDoorGen
import Derived.Deep.RegionHeld3
import Derived.Sort.Grow
namespace Go.Proofs.YtldgkpnlplfopaaGreatDoor
open Go.RowKit Go.Sort Plain
set_option linter.unusedVariables false

namespace Plain
def cmpZ (a b : Int) : Int := if a < b then -1 else if b < a then 1 else 0
/-- The weight ahead, then the number. -/
def cfW (x y : Int × Int) : Int := if cmpZ y.2 x.2 ≠ 0 then cmpZ y.2 x.2 else cmpZ x.1 y.1
theorem belDrewW {B : Nat} {w w' : World} (h : Below B w w') : Below B w w'.drew := h.drew
theorem bclW {w w' : World} {B : Nat} (h : Below B w w') {g i : Nat} {v : Value} (hg : g < B) (hc : w.cell? ⟨g, i, none⟩ = some v) : w'.cell? ⟨g, i, none⟩ = some v := (h.cell (p := ⟨g, i, none⟩) hg).trans hc
theorem grow3 (w : World) (a b c : Obj) : (((w.alloc a).alloc b).drew).alloc c = grow (w.drewN 1) #[a, b, c] := by
  have : (w.heap.push a |>.push b |>.push c) = w.heap ++ #[a, b, c] := by apply Array.ext'; simp
  show ({ heap := (w.heap.push a |>.push b |>.push c), tape := w.tape, drawn := w.drawn + 1, os := w.os, output := w.output } : World) = { heap := w.heap ++ #[a, b, c], tape := w.tape, drawn := w.drawn + 1, os := w.os, output := w.output }
  rw [this]
theorem grow2 (w : World) (a b : Obj) : (w.alloc a).alloc b = grow (w.drewN 0) #[a, b] := by
  have : (w.heap.push a |>.push b) = w.heap ++ #[a, b] := by apply Array.ext'; simp
  show ({ heap := (w.heap.push a |>.push b), tape := w.tape, drawn := w.drawn, os := w.os, output := w.output } : World) = { heap := w.heap ++ #[a, b], tape := w.tape, drawn := w.drawn + 0, os := w.os, output := w.output }
  rw [this]
  rfl
end Plain











end Go.Proofs.YtldgkpnlplfopaaGreatDoor