/- Texts of one kind, put together. -/
import Derived.Test.YtmienlnhbdbefaaGreatDoorDzA
import Derived.Shelf.SlSortCmp.NoneTotal
import Derived.Deep.RegionHeld3
import Derived.Sort.Grow

/- A row of structs that the library sorts: what was owned is owned behind it. -/
namespace Go.Proofs.YtmienlnhbdbefaaGreatDoor
open Go.RowKit Go.Sort Plain
set_option linter.unusedVariables false

theorem flatK_list {α : Type} [Inhabited α] (e : Elem α) (d : List α) : (flatK e.enc e.n d.toArray).toList = d.flatMap e.enc := by
  have hn := e.hn
  apply List.ext_getElem?
  intro t
  by_cases ht : t < d.length * e.n
  · have hi : t / e.n < d.length := (Nat.div_lt_iff_lt_mul hn).2 ht
    have hj : t % e.n < e.n := Nat.mod_lt _ hn
    have h2 := flat_get e.enc e.n e.hlen d (t / e.n) (t % e.n) hi hj
    rw [Nat.div_add_mod' t e.n] at h2
    have h1 := get_flatK e.enc e.n d.toArray t (by simpa using ht)
    have hs : t < (flatK e.enc e.n d.toArray).size := by rw [size_flatK]; simpa using ht
    rw [Array.getElem?_toList, Array.getElem?_eq_getElem hs, h2]
    rw [getElem!_pos _ t hs] at h1
    rw [h1]
    have hl := e.hlen d[t / e.n]
    have hi2 : t / e.n < d.toArray.size := by simpa using hi
    rw [getElem!_pos d.toArray _ hi2]
    simp only [List.getElem_toArray]
    rw [List.getElem?_eq_getElem (by omega), getElem!_pos _ _ (by omega)]
  · rw [List.getElem?_eq_none (by rw [Array.length_toList, size_flatK]; simpa using ht), List.getElem?_eq_none (by rw [flat_len e.enc e.n e.hlen]; omega)]

theorem flatK_get {α : Type} [Inhabited α] (e : Elem α) (d : List α) (j : Nat) (hj : j < d.length * e.n) : (d.flatMap e.enc)[j]? = some (flatK e.enc e.n d.toArray)[j]! := by
  rw [← flatK_list, Array.getElem?_toList]
  have hs : j < (flatK e.enc e.n d.toArray).size := by rw [size_flatK]; simpa using hj
  rw [Array.getElem?_eq_getElem hs, getElem!_pos (flatK e.enc e.n d.toArray) j hs]

theorem OwnR.holdsK {α : Type} [Inhabited α] {e : Elem α} {w : World} {B g n cap : Nat} {xs : List α} (h : OwnR e w B (.slice (some ⟨g, 0, none⟩) n cap) xs) : HoldsK e.enc e.n w g 0 xs.toArray := by
  obtain ⟨a', cap', he⟩ := h.form
  obtain ⟨-, rfl, rfl⟩ : some (⟨g, 0, none⟩ : Addr) = a' ∧ n = xs.length ∧ cap = cap' := by simpa using he
  intro j hj
  have hj2 : j < xs.length * e.n := by rw [size_flatK] at hj; simpa using hj
  refine ⟨?_, ?_⟩
  · rw [Nat.zero_add, World.ownsRow.cellAt h j hj2, flatK_get e xs j hj2]
    rfl
  · rw [Nat.zero_add]
    exact World.ownsRow.frozenAt h j

theorem OwnR.sortedK {α : Type} [Inhabited α] {e : Elem α} {w : World} {B g n cap : Nat} {xs ys : List α} (h : OwnR e w B (.slice (some ⟨g, 0, none⟩) n cap) xs) (hl : ys.length = xs.length) (m : Nat) (os : Array Obj) :
    OwnR e (sortWorldK e.enc e.n w g 0 m ys.toArray os) B (.slice (some ⟨g, 0, none⟩) n cap) ys := by
  rcases h.2 with ⟨e1, _⟩ | ⟨g', cap', cur, e1, hg, hc, h1, h2, h3, h4⟩
  · simp at e1
  · simp only [Value.slice.injEq, Option.some.injEq, Addr.mk.injEq, and_true] at e1
    obtain ⟨rfl, rfl, rfl⟩ := e1
    have hlt : g < w.heap.size := (Array.getElem?_eq_some_iff.1 hc).1
    have hmul : xs.length * e.n ≤ cap * e.n := Nat.mul_le_mul_right _ h1
    have hblk : (sortWorldK e.enc e.n w g 0 m ys.toArray os).heap[g]? = some (.cells (putCells id 0 (flatK e.enc e.n ys.toArray) cur) e.E (0, 0)) := by
      unfold sortWorldK putRowK
      rw [heap_grow_old _ _ (by simpa [putRow, mapBlock, Sort.ahead] using hlt)]
      simp [putRow, mapBlock, Sort.ahead, Array.getElem?_modify, hc, onCells]
    have htk : (putCells id 0 (flatK e.enc e.n ys.toArray) cur).toList.take (xs.length * e.n) = ys.flatMap e.enc := by
      apply List.ext_getElem?
      intro j
      by_cases hj : j < xs.length * e.n
      · rw [List.getElem?_take_of_lt hj, Array.getElem?_toList, flatK_get e ys j (by rw [hl]; exact hj)]
        have hj3 : j < ys.length * e.n := by rw [hl]; exact hj
        simp [putCells, hj3, show j < cur.size by omega]
      · rw [List.getElem?_take_eq_none (by omega), List.getElem?_eq_none (by rw [flat_len e.enc e.n e.hlen, hl]; omega)]
    refine ⟨flat_len e.enc e.n e.hlen ys, .inr ⟨g, cap, _, by rw [hl], hg, hblk, by omega, h2, by simp [putCells, h3], by rw [hl]; exact htk⟩⟩

theorem below_sortedK {α : Type} [Inhabited α] (e : Elem α) (w : World) (B g m : Nat) (ys : List α) (os : Array Obj) (hB : B ≤ g) (hg : g < w.heap.size) : Below B w (sortWorldK e.enc e.n w g 0 m ys.toArray os) := by
  unfold sortWorldK putRowK
  refine ⟨rfl, rfl, rfl, by simp [putRow, mapBlock, Sort.ahead], fun k hk => ?_⟩
  have hlt : k < w.heap.size := by omega
  rw [heap_grow_old _ _ (by simpa [putRow, mapBlock, Sort.ahead] using hlt)]
  have : g ≠ k := by omega
  simp [putRow, mapBlock, Sort.ahead, Array.getElem?_modify, this]
end Go.Proofs.YtmienlnhbdbefaaGreatDoor


/- The comparison by weights and numbers, by the program. -/
namespace Go.Proofs.YtmienlnhbdbefaaGreatDoor
open Go.RowKit Go.Sort Plain
set_option linter.unusedVariables false

namespace Plain
def cmpZ (a b : Int) : Int := if a < b then -1 else if b < a then 1 else 0
/-- The weight ahead, then the number. -/
def cfW (x y : Int × Int) : Int := if cmpZ y.2 x.2 ≠ 0 then cmpZ y.2 x.2 else cmpZ x.1 y.1
theorem belDrewW {B : Nat} {w w' : World} (h : Below B w w') : Below B w w'.drew := h.drew
theorem bclW {w w' : World} {B : Nat} (h : Below B w w') {g i : Nat} {v : Value} (hg : g < B) (hc : w.cell? ⟨g, i, none⟩ = some v) : w'.cell? ⟨g, i, none⟩ = some v := (h.cell (p := ⟨g, i, none⟩) hg).trans hc
theorem grow3 (w : World) (a b c : Obj) : (((w.alloc a).alloc b).drew).alloc c = grow (w.drewN 1) #[a, b, c] := by
  have : (w.heap.push a |>.push b |>.push c) = w.heap ++ #[a, b, c] := by apply Array.ext'; simp
  show ({ heap := (w.heap.push a |>.push b |>.push c), tape := w.tape, drawn := w.drawn + 1, os := w.os, output := w.output } : World) = { heap := w.heap ++ #[a, b, c], tape := w.tape, drawn := w.drawn + 1, os := w.os, output := w.output }
  rw [this]
theorem grow2 (w : World) (a b : Obj) : (w.alloc a).alloc b = grow (w.drewN 0) #[a, b] := by
  have : (w.heap.push a |>.push b) = w.heap ++ #[a, b] := by apply Array.ext'; simp
  show ({ heap := (w.heap.push a |>.push b), tape := w.tape, drawn := w.drawn, os := w.os, output := w.output } : World) = { heap := w.heap ++ #[a, b], tape := w.tape, drawn := w.drawn + 0, os := w.os, output := w.output }
  rw [this]
  rfl
end Plain

theorem isNaNu_calls (x : Int) (w : World) : Calls Tryz.prog 72 #[.int .u64 x] w fun e w' => e = .returned (.bool false) ∧ w = w' := by
  go_enter Tryz.func72, Tryz.ntmps72
  go_wp2
  go_ret
  exact ⟨by simp, rfl⟩

theorem isNaNi_calls (x : Int) (w : World) : Calls Tryz.prog 73 #[.int .i64 x] w fun e w' => e = .returned (.bool false) ∧ w = w' := by
  go_enter Tryz.func73, Tryz.ntmps73
  go_wp2
  go_ret
  exact ⟨by simp, rfl⟩

set_option maxRecDepth 10000 in
theorem cmpU_calls (x y : Int) (w : World) : Calls Tryz.prog 56 #[.int .u64 x, .int .u64 y] w fun e w' => e = .returned (.int .i64 (cmpZ x y)) ∧ w = w' := by
  unfold cmpZ
  by_cases h1 : x < y
  · rw [if_pos h1]
    go_enter Tryz.func56, Tryz.ntmps56
    go_wp2_with (go_at_call 72; refine (isNaNu_calls _ _).mono ?_; rintro e w1 ⟨rfl, rfl⟩)
    go_ret
    exact ⟨rfl, rfl⟩
  · rw [if_neg h1]
    by_cases h2 : y < x
    · rw [if_pos h2]
      go_enter Tryz.func56, Tryz.ntmps56
      go_wp2_with (go_at_call 72; refine (isNaNu_calls _ _).mono ?_; rintro e w1 ⟨rfl, rfl⟩)
      go_ret
      exact ⟨rfl, rfl⟩
    · rw [if_neg h2]
      go_enter Tryz.func56, Tryz.ntmps56
      go_wp2_with (go_at_call 72; refine (isNaNu_calls _ _).mono ?_; rintro e w1 ⟨rfl, rfl⟩)
      go_ret
      exact ⟨rfl, rfl⟩

set_option maxRecDepth 10000 in
theorem cmpI_calls (x y : Int) (w : World) : Calls Tryz.prog 57 #[.int .i64 x, .int .i64 y] w fun e w' => e = .returned (.int .i64 (cmpZ x y)) ∧ w = w' := by
  unfold cmpZ
  by_cases h1 : x < y
  · rw [if_pos h1]
    go_enter Tryz.func57, Tryz.ntmps57
    go_wp2_with (go_at_call 73; refine (isNaNi_calls _ _).mono ?_; rintro e w1 ⟨rfl, rfl⟩)
    go_ret
    exact ⟨rfl, rfl⟩
  · rw [if_neg h1]
    by_cases h2 : y < x
    · rw [if_pos h2]
      go_enter Tryz.func57, Tryz.ntmps57
      go_wp2_with (go_at_call 73; refine (isNaNi_calls _ _).mono ?_; rintro e w1 ⟨rfl, rfl⟩)
      go_ret
      exact ⟨rfl, rfl⟩
    · rw [if_neg h2]
      go_enter Tryz.func57, Tryz.ntmps57
      go_wp2_with (go_at_call 73; refine (isNaNi_calls _ _).mono ?_; rintro e w1 ⟨rfl, rfl⟩)
      go_ret
      exact ⟨rfl, rfl⟩

set_option maxRecDepth 10000 in
set_option maxHeartbeats 1000000 in
theorem cmpOr_calls (g : Nat) (c1 c2 : Int) (w : World) (h1 : w.cell? ⟨g, 0, none⟩ = some (.int .i64 c1)) (h2 : w.cell? ⟨g, 1, none⟩ = some (.int .i64 c2)) :
    Calls Tryz.prog 55 #[.slice (some ⟨g, 0, none⟩) 2 2] w fun e w' => e = .returned (.int .i64 (if c1 ≠ 0 then c1 else c2)) ∧ w = w' := by
  obtain ⟨w0, rfl⟩ : ∃ w0, w0 = w := ⟨_, rfl⟩
  by_cases k1 : c1 = 0
  · subst k1
    rw [if_neg (by simp)]
    go_enter Tryz.func55, Tryz.ntmps55
    go_wp2_with fail
    refine wp_loop_rounds 3 ?_
    rw [rounds_succ]
    go_wp2
    rw [rounds_succ]
    by_cases k2 : c2 = 0
    · subst k2
      go_wp2
      rw [rounds_succ]
      go_wp2
      go_ret
      exact ⟨rfl, rfl⟩
    · go_wp2
      go_ret
      exact ⟨rfl, rfl⟩
  · rw [if_pos k1]
    go_enter Tryz.func55, Tryz.ntmps55
    go_wp2_with fail
    refine wp_loop_rounds 3 ?_
    rw [rounds_succ]
    go_wp2
    go_ret
    exact ⟨rfl, rfl⟩

set_option maxRecDepth 10000 in
set_option maxHeartbeats 2000000 in
theorem closW_calls (x y : Int × Int) (W : World) :
    Calls Tryz.prog 54 #[.agg #[.int .i64 x.1, .int .u64 x.2], .agg #[.int .i64 y.1, .int .u64 y.2]] W fun e w' => e = .returned (.int .i64 (cfW x y)) ∧ ∃ q os', w' = grow (W.drewN q) os' := by
  have HU := hide (fun W => cmpU_calls y.2 x.2 W)
  have HI := hide (fun W => cmpI_calls x.1 y.1 W)
  unfold cfW
  generalize cmpZ y.2 x.2 = c1 at HU ⊢
  generalize cmpZ x.1 y.1 = c2 at HI ⊢
  have HO := hide (fun g W h1 h2 => cmpOr_calls g c1 c2 W h1 h2)
  obtain ⟨R, hR⟩ : ∃ R, (if c1 ≠ 0 then c1 else c2) = R := ⟨_, rfl⟩
  rw [hR] at HO ⊢
  clear hR
  obtain ⟨x1, x2⟩ := x
  obtain ⟨y1, y2⟩ := y
  simp only at HU HI ⊢
  obtain ⟨W1, hW1⟩ : ∃ W1, W1 = (W.alloc (.cells #[.int .i64 x1, .int .u64 x2] 99)).alloc (.cells #[.int .i64 y1, .int .u64 y2] 99) := ⟨_, rfl⟩
  have hz : W1.heap.size = W.heap.size + 2 := by rw [hW1]; simp
  have a0 : W1.cell? ⟨W.heap.size, 0, none⟩ = some (.int .i64 x1) := by rw [hW1]; simp [go_sem]
  have a1 : W1.cell? ⟨W.heap.size, 1, none⟩ = some (.int .u64 x2) := by rw [hW1]; simp [go_sem]
  have b0 : W1.cell? ⟨W.heap.size + 1, 0, none⟩ = some (.int .i64 y1) := by rw [hW1]; simp [go_sem]
  have b1 : W1.cell? ⟨W.heap.size + 1, 1, none⟩ = some (.int .u64 y2) := by rw [hW1]; simp [go_sem]
  have l0 : W.heap.size < W1.heap.size := by omega
  have l1 : W.heap.size + 1 < W1.heap.size := by omega
  have A0 := fun (V : World) (hV : Below W1.heap.size W1 V) => bclW hV l0 a0
  have A1 := fun (V : World) (hV : Below W1.heap.size W1 V) => bclW hV l0 a1
  have B0 := fun (V : World) (hV : Below W1.heap.size W1 V) => bclW hV l1 b0
  have B1 := fun (V : World) (hV : Below W1.heap.size W1 V) => bclW hV l1 b1
  have HFIN := hide (fun (C : Obj) => (show ∃ q os', W1.drew.alloc C = grow (W.drewN q) os' from ⟨1, #[_, _, C], by rw [hW1]; exact grow3 W _ _ C⟩))
  have HBR := hide (Below.refl W1.heap.size W1)
  have HW1 := hide hW1.symm
  clear a0 a1 b0 b1 l0 l1 hz hW1
  go_enter Tryz.func54, Tryz.ntmps54
  go_wp2_with fail
  rw [unhide HW1]
  go_region_held3 (fun w' => Below W1.heap.size W1 w') (first | exact belDrewW (unhide HBR) | exact (by assumption) | exact (Below.alloc (by assumption) (Below.size (by assumption)) _)) (first
    | (go_at_call 56; refine (unhide HU _).mono ?_; rintro e w1 ⟨rfl, rfl⟩)
    | (go_at_call 57; refine (unhide HI _).mono ?_; rintro e w1 ⟨rfl, rfl⟩)
    | (go_at_call 55; refine (unhide HO _ _ (by simp [go_sem]) (by simp [go_sem])).mono ?_; rintro e w1 ⟨rfl, rfl⟩))
  all_goals (try go_wp2_with fail)
  all_goals go_ret
  all_goals exact ⟨rfl, unhide HFIN _⟩
end Go.Proofs.YtmienlnhbdbefaaGreatDoor

