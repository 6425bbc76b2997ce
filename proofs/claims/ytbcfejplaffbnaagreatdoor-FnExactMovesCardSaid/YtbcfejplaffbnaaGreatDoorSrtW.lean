/- The comparison by weights and numbers, by the program. -/
import Derived.Test.YtbcfejplaffbnaaGreatDoorGen
import Derived.Deep.RegionHeld3
import Derived.Sort.Grow
namespace Go.Proofs.YtbcfejplaffbnaaGreatDoor
open Go.RowKit Go.Sort Plain
set_option linter.unusedVariables false

namespace Plain
def cmpZ (a b : Int) : Int := if a < b then -1 else if b < a then 1 else 0
/-- The weight ahead, then the number. -/
def cfW (x y : Int × Int) : Int := if cmpZ y.2 x.2 ≠ 0 then cmpZ y.2 x.2 else cmpZ x.1 y.1
theorem belDrewW {B : Nat} {w w' : World} (h : Below B w w') : Below B w w'.drew := h.drew
theorem bclW {w w' : World} {B : Nat} (h : Below B w w') {g i : Nat} {v : Value} (hg : g < B) (hc : w.cell? ⟨g, i, none⟩ = some v) : w'.cell? ⟨g, i, none⟩ = some v := (h.cell (p := ⟨g, i, none⟩) hg).trans hc
theorem grow3 (w : World) (a b c : Obj) : (((w.alloc a).alloc b).drew).alloc c = grow (w.drewN 1) #[a, b, c] := by
  have : (w.heap.push a |>.push b |>.push c) = w.heap ++ #[a, b, c] := by apply Array.ext'; simp
  show ({ heap := (w.heap.push a |>.push b |>.push c), tape := w.tape, drawn := w.drawn + 1, os := w.os, output := w.output } : World) = { heap := w.heap ++ #[a, b, c], tape := w.tape, drawn := w.drawn + 1, os := w.os, output := w.output }
  rw [this]
end Plain

theorem isNaNu_calls (x : Int) (w : World) : Calls Tryz.prog 61 #[.int .u64 x] w fun e w' => e = .returned (.bool false) ∧ w = w' := by
  go_enter Tryz.func61, Tryz.ntmps61
  go_wp2
  go_ret
  exact ⟨by simp, rfl⟩
theorem isNaNi_calls (x : Int) (w : World) : Calls Tryz.prog 62 #[.int .i64 x] w fun e w' => e = .returned (.bool false) ∧ w = w' := by
  go_enter Tryz.func62, Tryz.ntmps62
  go_wp2
  go_ret
  exact ⟨by simp, rfl⟩

set_option maxRecDepth 10000 in
theorem cmpU_calls (x y : Int) (w : World) : Calls Tryz.prog 49 #[.int .u64 x, .int .u64 y] w fun e w' => e = .returned (.int .i64 (cmpZ x y)) ∧ w = w' := by
  unfold cmpZ
  by_cases h1 : x < y
  · rw [if_pos h1]
    go_enter Tryz.func49, Tryz.ntmps49
    go_wp2_with (go_at_call 61; refine (isNaNu_calls _ _).mono ?_; rintro e w1 ⟨rfl, rfl⟩)
    go_ret
    exact ⟨rfl, rfl⟩
  · rw [if_neg h1]
    by_cases h2 : y < x
    · rw [if_pos h2]
      go_enter Tryz.func49, Tryz.ntmps49
      go_wp2_with (go_at_call 61; refine (isNaNu_calls _ _).mono ?_; rintro e w1 ⟨rfl, rfl⟩)
      go_ret
      exact ⟨rfl, rfl⟩
    · rw [if_neg h2]
      go_enter Tryz.func49, Tryz.ntmps49
      go_wp2_with (go_at_call 61; refine (isNaNu_calls _ _).mono ?_; rintro e w1 ⟨rfl, rfl⟩)
      go_ret
      exact ⟨rfl, rfl⟩

set_option maxRecDepth 10000 in
theorem cmpI_calls (x y : Int) (w : World) : Calls Tryz.prog 50 #[.int .i64 x, .int .i64 y] w fun e w' => e = .returned (.int .i64 (cmpZ x y)) ∧ w = w' := by
  unfold cmpZ
  by_cases h1 : x < y
  · rw [if_pos h1]
    go_enter Tryz.func50, Tryz.ntmps50
    go_wp2_with (go_at_call 62; refine (isNaNi_calls _ _).mono ?_; rintro e w1 ⟨rfl, rfl⟩)
    go_ret
    exact ⟨rfl, rfl⟩
  · rw [if_neg h1]
    by_cases h2 : y < x
    · rw [if_pos h2]
      go_enter Tryz.func50, Tryz.ntmps50
      go_wp2_with (go_at_call 62; refine (isNaNi_calls _ _).mono ?_; rintro e w1 ⟨rfl, rfl⟩)
      go_ret
      exact ⟨rfl, rfl⟩
    · rw [if_neg h2]
      go_enter Tryz.func50, Tryz.ntmps50
      go_wp2_with (go_at_call 62; refine (isNaNi_calls _ _).mono ?_; rintro e w1 ⟨rfl, rfl⟩)
      go_ret
      exact ⟨rfl, rfl⟩

set_option maxRecDepth 10000 in
set_option maxHeartbeats 1000000 in
theorem cmpOr_calls (g : Nat) (c1 c2 : Int) (w : World) (h1 : w.cell? ⟨g, 0, none⟩ = some (.int .i64 c1)) (h2 : w.cell? ⟨g, 1, none⟩ = some (.int .i64 c2)) :
    Calls Tryz.prog 48 #[.slice (some ⟨g, 0, none⟩) 2 2] w fun e w' => e = .returned (.int .i64 (if c1 ≠ 0 then c1 else c2)) ∧ w = w' := by
  obtain ⟨w0, rfl⟩ : ∃ w0, w0 = w := ⟨_, rfl⟩
  by_cases k1 : c1 = 0
  · subst k1
    rw [if_neg (by simp)]
    go_enter Tryz.func48, Tryz.ntmps48
    go_wp2_with fail
    refine wp_loop_rounds 3 ?_
    rw [rounds_succ]
    go_wp2
    rw [rounds_succ]
    by_cases k2 : c2 = 0
    · subst k2
      go_wp2
      rw [rounds_succ]
      go_wp2
      go_ret
      exact ⟨rfl, rfl⟩
    · go_wp2
      go_ret
      exact ⟨rfl, rfl⟩
  · rw [if_pos k1]
    go_enter Tryz.func48, Tryz.ntmps48
    go_wp2_with fail
    refine wp_loop_rounds 3 ?_
    rw [rounds_succ]
    go_wp2
    go_ret
    exact ⟨rfl, rfl⟩

set_option maxRecDepth 10000 in
set_option maxHeartbeats 2000000 in
theorem closW_calls (x y : Int × Int) (W : World) :
    Calls Tryz.prog 47 #[.agg #[.int .i64 x.1, .int .u64 x.2], .agg #[.int .i64 y.1, .int .u64 y.2]] W fun e w' => e = .returned (.int .i64 (cfW x y)) ∧ ∃ q os', w' = grow (W.drewN q) os' := by
  have HU := hide (fun W => cmpU_calls y.2 x.2 W)
  have HI := hide (fun W => cmpI_calls x.1 y.1 W)
  unfold cfW
  generalize cmpZ y.2 x.2 = c1 at HU ⊢
  generalize cmpZ x.1 y.1 = c2 at HI ⊢
  have HO := hide (fun g W h1 h2 => cmpOr_calls g c1 c2 W h1 h2)
  obtain ⟨R, hR⟩ : ∃ R, (if c1 ≠ 0 then c1 else c2) = R := ⟨_, rfl⟩
  rw [hR] at HO ⊢
  clear hR
  obtain ⟨x1, x2⟩ := x
  obtain ⟨y1, y2⟩ := y
  simp only at HU HI ⊢
  obtain ⟨W1, hW1⟩ : ∃ W1, W1 = (W.alloc (.cells #[.int .i64 x1, .int .u64 x2] 85)).alloc (.cells #[.int .i64 y1, .int .u64 y2] 85) := ⟨_, rfl⟩
  have hz : W1.heap.size = W.heap.size + 2 := by rw [hW1]; simp
  have a0 : W1.cell? ⟨W.heap.size, 0, none⟩ = some (.int .i64 x1) := by rw [hW1]; simp [go_sem]
  have a1 : W1.cell? ⟨W.heap.size, 1, none⟩ = some (.int .u64 x2) := by rw [hW1]; simp [go_sem]
  have b0 : W1.cell? ⟨W.heap.size + 1, 0, none⟩ = some (.int .i64 y1) := by rw [hW1]; simp [go_sem]
  have b1 : W1.cell? ⟨W.heap.size + 1, 1, none⟩ = some (.int .u64 y2) := by rw [hW1]; simp [go_sem]
  have l0 : W.heap.size < W1.heap.size := by omega
  have l1 : W.heap.size + 1 < W1.heap.size := by omega
  have A0 := fun (V : World) (hV : Below W1.heap.size W1 V) => bclW hV l0 a0
  have A1 := fun (V : World) (hV : Below W1.heap.size W1 V) => bclW hV l0 a1
  have B0 := fun (V : World) (hV : Below W1.heap.size W1 V) => bclW hV l1 b0
  have B1 := fun (V : World) (hV : Below W1.heap.size W1 V) => bclW hV l1 b1
  have HFIN := hide (fun (C : Obj) => (show ∃ q os', W1.drew.alloc C = grow (W.drewN q) os' from ⟨1, #[_, _, C], by rw [hW1]; exact grow3 W _ _ C⟩))
  have HBR := hide (Below.refl W1.heap.size W1)
  have HW1 := hide hW1.symm
  clear a0 a1 b0 b1 l0 l1 hz hW1
  go_enter Tryz.func47, Tryz.ntmps47
  go_wp2_with fail
  rw [unhide HW1]
  go_region_held3 (fun w' => Below W1.heap.size W1 w') (first | exact belDrewW (unhide HBR) | exact (by assumption) | exact (Below.alloc (by assumption) (Below.size (by assumption)) _)) (first
    | (go_at_call 49; refine (unhide HU _).mono ?_; rintro e w1 ⟨rfl, rfl⟩)
    | (go_at_call 50; refine (unhide HI _).mono ?_; rintro e w1 ⟨rfl, rfl⟩)
    | (go_at_call 48; refine (unhide HO _ _ (by simp [go_sem]) (by simp [go_sem])).mono ?_; rintro e w1 ⟨rfl, rfl⟩))
  all_goals (try go_wp2_with fail)
  all_goals go_ret
  all_goals exact ⟨rfl, unhide HFIN _⟩
end Go.Proofs.YtbcfejplaffbnaaGreatDoor
