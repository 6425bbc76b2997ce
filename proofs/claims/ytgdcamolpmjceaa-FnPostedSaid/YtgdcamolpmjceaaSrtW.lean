/- The comparison by weights and numbers, by the program. -/
import Derived.Test.YtgdcamolpmjceaaGen
import Derived.Deep.RegionHeld3
import Derived.Sort.Grow
namespace Go.Proofs.Ytgdcamolpmjceaa
open Go.RowKit Go.Sort Plain
set_option linter.unusedVariables false

namespace Plain
def cmpZ (a b : Int) : Int := if a < b then -1 else if b < a then 1 else 0
/-- The weight ahead, then the number. -/
def cfW (x y : Int × Int) : Int := if cmpZ y.2 x.2 ≠ 0 then cmpZ y.2 x.2 else cmpZ x.1 y.1
theorem belDrewW {B : Nat} {w w' : World} (h : Below B w w') : Below B w w'.drew := h.drew
theorem bclW {w w' : World} {B : Nat} (h : Below B w w') {g i : Nat} {v : Value} (hg : g < B) (hc : w.cell? ⟨g, i, none⟩ = some v) : w'.cell? ⟨g, i, none⟩ = some v := (h.cell (p := ⟨g, i, none⟩) hg).trans hc
theorem grow3 (w : World) (a b c : Obj) : (((w.alloc a).alloc b).drew).alloc c = grow (w.drewN 1) #[a, b, c] := by
  have : (w.heap.push a |>.push b |>.push c) = w.heap ++ #[a, b, c] := by apply Array.ext'; simp
  show ({ heap := (w.heap.push a |>.push b |>.push c), tape := w.tape, drawn := w.drawn + 1, os := w.os, output := w.output } : World) = { heap := w.heap ++ #[a, b, c], tape := w.tape, drawn := w.drawn + 1, os := w.os, output := w.output }
  rw [this]
theorem grow2 (w : World) (a b : Obj) : (w.alloc a).alloc b = grow (w.drewN 0) #[a, b] := by
  have : (w.heap.push a |>.push b) = w.heap ++ #[a, b] := by apply Array.ext'; simp
  show ({ heap := (w.heap.push a |>.push b), tape := w.tape, drawn := w.drawn, os := w.os, output := w.output } : World) = { heap := w.heap ++ #[a, b], tape := w.tape, drawn := w.drawn + 0, os := w.os, output := w.output }
  rw [this]
  rfl
end Plain



theorem isNaNi_calls (x : Int) (w : World) : Calls Try.prog 43 #[.int .i64 x] w fun e w' => e = .returned (.bool false) ∧ w = w' := by
  go_enter Try.func43, Try.ntmps43
  go_wp2
  go_ret
  exact ⟨by simp, rfl⟩



set_option maxRecDepth 10000 in
theorem cmpI_calls (x y : Int) (w : World) : Calls Try.prog 35 #[.int .i64 x, .int .i64 y] w fun e w' => e = .returned (.int .i64 (cmpZ x y)) ∧ w = w' := by
  unfold cmpZ
  by_cases h1 : x < y
  · rw [if_pos h1]
    go_enter Try.func35, Try.ntmps35
    go_wp2_with (go_at_call 43; refine (isNaNi_calls _ _).mono ?_; rintro e w1 ⟨rfl, rfl⟩)
    go_ret
    exact ⟨rfl, rfl⟩
  · rw [if_neg h1]
    by_cases h2 : y < x
    · rw [if_pos h2]
      go_enter Try.func35, Try.ntmps35
      go_wp2_with (go_at_call 43; refine (isNaNi_calls _ _).mono ?_; rintro e w1 ⟨rfl, rfl⟩)
      go_ret
      exact ⟨rfl, rfl⟩
    · rw [if_neg h2]
      go_enter Try.func35, Try.ntmps35
      go_wp2_with (go_at_call 43; refine (isNaNi_calls _ _).mono ?_; rintro e w1 ⟨rfl, rfl⟩)
      go_ret
      exact ⟨rfl, rfl⟩



end Go.Proofs.Ytgdcamolpmjceaa