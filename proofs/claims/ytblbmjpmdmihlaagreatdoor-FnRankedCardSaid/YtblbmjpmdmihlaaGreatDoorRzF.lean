/- Texts of one kind, put together. -/
import Derived.Test.YtblbmjpmdmihlaaGreatDoorGen
import Derived.Shelf.SlSortCmp.NoneTotal
import Derived.Deep.RegionHeld3
import Derived.Sort.Grow
import Derived.Test.YtblbmjpmdmihlaaGreatDoorPlain

/- A row of structs that the library sorts: what was owned is owned behind it. -/
namespace Go.Proofs.YtblbmjpmdmihlaaGreatDoor
open Go.RowKit Go.Sort Plain
set_option linter.unusedVariables false

theorem flatK_list {α : Type} [Inhabited α] (e : Elem α) (d : List α) : (flatK e.enc e.n d.toArray).toList = d.flatMap e.enc := by
  have hn := e.hn
  apply List.ext_getElem?
  intro t
  by_cases ht : t < d.length * e.n
  · have hi : t / e.n < d.length := (Nat.div_lt_iff_lt_mul hn).2 ht
    have hj : t % e.n < e.n := Nat.mod_lt _ hn
    have h2 := flat_get e.enc e.n e.hlen d (t / e.n) (t % e.n) hi hj
    rw [Nat.div_add_mod' t e.n] at h2
    have h1 := get_flatK e.enc e.n d.toArray t (by simpa using ht)
    have hs : t < (flatK e.enc e.n d.toArray).size := by rw [size_flatK]; simpa using ht
    rw [Array.getElem?_toList, Array.getElem?_eq_getElem hs, h2]
    rw [getElem!_pos _ t hs] at h1
    rw [h1]
    have hl := e.hlen d[t / e.n]
    have hi2 : t / e.n < d.toArray.size := by simpa using hi
    rw [getElem!_pos d.toArray _ hi2]
    simp only [List.getElem_toArray]
    rw [List.getElem?_eq_getElem (by omega), getElem!_pos _ _ (by omega)]
  · rw [List.getElem?_eq_none (by rw [Array.length_toList, size_flatK]; simpa using ht), List.getElem?_eq_none (by rw [flat_len e.enc e.n e.hlen]; omega)]

theorem flatK_get {α : Type} [Inhabited α] (e : Elem α) (d : List α) (j : Nat) (hj : j < d.length * e.n) : (d.flatMap e.enc)[j]? = some (flatK e.enc e.n d.toArray)[j]! := by
  rw [← flatK_list, Array.getElem?_toList]
  have hs : j < (flatK e.enc e.n d.toArray).size := by rw [size_flatK]; simpa using hj
  rw [Array.getElem?_eq_getElem hs, getElem!_pos (flatK e.enc e.n d.toArray) j hs]

theorem OwnR.holdsK {α : Type} [Inhabited α] {e : Elem α} {w : World} {B g n cap : Nat} {xs : List α} (h : OwnR e w B (.slice (some ⟨g, 0, none⟩) n cap) xs) : HoldsK e.enc e.n w g 0 xs.toArray := by
  obtain ⟨a', cap', he⟩ := h.form
  obtain ⟨-, rfl, rfl⟩ : some (⟨g, 0, none⟩ : Addr) = a' ∧ n = xs.length ∧ cap = cap' := by simpa using he
  intro j hj
  have hj2 : j < xs.length * e.n := by rw [size_flatK] at hj; simpa using hj
  refine ⟨?_, ?_⟩
  · rw [Nat.zero_add, World.ownsRow.cellAt h j hj2, flatK_get e xs j hj2]
    rfl
  · rw [Nat.zero_add]
    exact World.ownsRow.frozenAt h j

theorem OwnR.sortedK {α : Type} [Inhabited α] {e : Elem α} {w : World} {B g n cap : Nat} {xs ys : List α} (h : OwnR e w B (.slice (some ⟨g, 0, none⟩) n cap) xs) (hl : ys.length = xs.length) (m : Nat) (os : Array Obj) :
    OwnR e (sortWorldK e.enc e.n w g 0 m ys.toArray os) B (.slice (some ⟨g, 0, none⟩) n cap) ys := by
  rcases h.2 with ⟨e1, _⟩ | ⟨g', cap', cur, e1, hg, hc, h1, h2, h3, h4⟩
  · simp at e1
  · simp only [Value.slice.injEq, Option.some.injEq, Addr.mk.injEq, and_true] at e1
    obtain ⟨rfl, rfl, rfl⟩ := e1
    have hlt : g < w.heap.size := (Array.getElem?_eq_some_iff.1 hc).1
    have hmul : xs.length * e.n ≤ cap * e.n := Nat.mul_le_mul_right _ h1
    have hblk : (sortWorldK e.enc e.n w g 0 m ys.toArray os).heap[g]? = some (.cells (putCells id 0 (flatK e.enc e.n ys.toArray) cur) e.E (0, 0)) := by
      unfold sortWorldK putRowK
      rw [heap_grow_old _ _ (by simpa [putRow, mapBlock, Sort.ahead] using hlt)]
      simp [putRow, mapBlock, Sort.ahead, Array.getElem?_modify, hc, onCells]
    have htk : (putCells id 0 (flatK e.enc e.n ys.toArray) cur).toList.take (xs.length * e.n) = ys.flatMap e.enc := by
      apply List.ext_getElem?
      intro j
      by_cases hj : j < xs.length * e.n
      · rw [List.getElem?_take_of_lt hj, Array.getElem?_toList, flatK_get e ys j (by rw [hl]; exact hj)]
        have hj3 : j < ys.length * e.n := by rw [hl]; exact hj
        simp [putCells, hj3, show j < cur.size by omega]
      · rw [List.getElem?_take_eq_none (by omega), List.getElem?_eq_none (by rw [flat_len e.enc e.n e.hlen, hl]; omega)]
    refine ⟨flat_len e.enc e.n e.hlen ys, .inr ⟨g, cap, _, by rw [hl], hg, hblk, by omega, h2, by simp [putCells, h3], by rw [hl]; exact htk⟩⟩

theorem below_sortedK {α : Type} [Inhabited α] (e : Elem α) (w : World) (B g m : Nat) (ys : List α) (os : Array Obj) (hB : B ≤ g) (hg : g < w.heap.size) : Below B w (sortWorldK e.enc e.n w g 0 m ys.toArray os) := by
  unfold sortWorldK putRowK
  refine ⟨rfl, rfl, rfl, by simp [putRow, mapBlock, Sort.ahead], fun k hk => ?_⟩
  have hlt : k < w.heap.size := by omega
  rw [heap_grow_old _ _ (by simpa [putRow, mapBlock, Sort.ahead] using hlt)]
  have : g ≠ k := by omega
  simp [putRow, mapBlock, Sort.ahead, Array.getElem?_modify, this]
end Go.Proofs.YtblbmjpmdmihlaaGreatDoor


/- The comparison by weights and numbers, by the program. -/
namespace Go.Proofs.YtblbmjpmdmihlaaGreatDoor
open Go.RowKit Go.Sort Plain
set_option linter.unusedVariables false

namespace Plain
def cmpZ (a b : Int) : Int := if a < b then -1 else if b < a then 1 else 0
/-- The weight ahead, then the number. -/
def cfW (x y : Int × Int) : Int := if cmpZ y.2 x.2 ≠ 0 then cmpZ y.2 x.2 else cmpZ x.1 y.1
theorem belDrewW {B : Nat} {w w' : World} (h : Below B w w') : Below B w w'.drew := h.drew
theorem bclW {w w' : World} {B : Nat} (h : Below B w w') {g i : Nat} {v : Value} (hg : g < B) (hc : w.cell? ⟨g, i, none⟩ = some v) : w'.cell? ⟨g, i, none⟩ = some v := (h.cell (p := ⟨g, i, none⟩) hg).trans hc
theorem grow3 (w : World) (a b c : Obj) : (((w.alloc a).alloc b).drew).alloc c = grow (w.drewN 1) #[a, b, c] := by
  have : (w.heap.push a |>.push b |>.push c) = w.heap ++ #[a, b, c] := by apply Array.ext'; simp
  show ({ heap := (w.heap.push a |>.push b |>.push c), tape := w.tape, drawn := w.drawn + 1, os := w.os, output := w.output } : World) = { heap := w.heap ++ #[a, b, c], tape := w.tape, drawn := w.drawn + 1, os := w.os, output := w.output }
  rw [this]
end Plain

theorem isNaNu_calls (x : Int) (w : World) : Calls Tryz.prog 57 #[.int .u64 x] w fun e w' => e = .returned (.bool false) ∧ w = w' := by
  go_enter Tryz.func57, Tryz.ntmps57
  go_wp2
  go_ret
  exact ⟨by simp, rfl⟩
theorem isNaNi_calls (x : Int) (w : World) : Calls Tryz.prog 58 #[.int .i64 x] w fun e w' => e = .returned (.bool false) ∧ w = w' := by
  go_enter Tryz.func58, Tryz.ntmps58
  go_wp2
  go_ret
  exact ⟨by simp, rfl⟩

set_option maxRecDepth 10000 in
theorem cmpU_calls (x y : Int) (w : World) : Calls Tryz.prog 42 #[.int .u64 x, .int .u64 y] w fun e w' => e = .returned (.int .i64 (cmpZ x y)) ∧ w = w' := by
  unfold cmpZ
  by_cases h1 : x < y
  · rw [if_pos h1]
    go_enter Tryz.func42, Tryz.ntmps42
    go_wp2_with (go_at_call 57; refine (isNaNu_calls _ _).mono ?_; rintro e w1 ⟨rfl, rfl⟩)
    go_ret
    exact ⟨rfl, rfl⟩
  · rw [if_neg h1]
    by_cases h2 : y < x
    · rw [if_pos h2]
      go_enter Tryz.func42, Tryz.ntmps42
      go_wp2_with (go_at_call 57; refine (isNaNu_calls _ _).mono ?_; rintro e w1 ⟨rfl, rfl⟩)
      go_ret
      exact ⟨rfl, rfl⟩
    · rw [if_neg h2]
      go_enter Tryz.func42, Tryz.ntmps42
      go_wp2_with (go_at_call 57; refine (isNaNu_calls _ _).mono ?_; rintro e w1 ⟨rfl, rfl⟩)
      go_ret
      exact ⟨rfl, rfl⟩

set_option maxRecDepth 10000 in
theorem cmpI_calls (x y : Int) (w : World) : Calls Tryz.prog 43 #[.int .i64 x, .int .i64 y] w fun e w' => e = .returned (.int .i64 (cmpZ x y)) ∧ w = w' := by
  unfold cmpZ
  by_cases h1 : x < y
  · rw [if_pos h1]
    go_enter Tryz.func43, Tryz.ntmps43
    go_wp2_with (go_at_call 58; refine (isNaNi_calls _ _).mono ?_; rintro e w1 ⟨rfl, rfl⟩)
    go_ret
    exact ⟨rfl, rfl⟩
  · rw [if_neg h1]
    by_cases h2 : y < x
    · rw [if_pos h2]
      go_enter Tryz.func43, Tryz.ntmps43
      go_wp2_with (go_at_call 58; refine (isNaNi_calls _ _).mono ?_; rintro e w1 ⟨rfl, rfl⟩)
      go_ret
      exact ⟨rfl, rfl⟩
    · rw [if_neg h2]
      go_enter Tryz.func43, Tryz.ntmps43
      go_wp2_with (go_at_call 58; refine (isNaNi_calls _ _).mono ?_; rintro e w1 ⟨rfl, rfl⟩)
      go_ret
      exact ⟨rfl, rfl⟩

set_option maxRecDepth 10000 in
set_option maxHeartbeats 1000000 in
theorem cmpOr_calls (g : Nat) (c1 c2 : Int) (w : World) (h1 : w.cell? ⟨g, 0, none⟩ = some (.int .i64 c1)) (h2 : w.cell? ⟨g, 1, none⟩ = some (.int .i64 c2)) :
    Calls Tryz.prog 41 #[.slice (some ⟨g, 0, none⟩) 2 2] w fun e w' => e = .returned (.int .i64 (if c1 ≠ 0 then c1 else c2)) ∧ w = w' := by
  obtain ⟨w0, rfl⟩ : ∃ w0, w0 = w := ⟨_, rfl⟩
  by_cases k1 : c1 = 0
  · subst k1
    rw [if_neg (by simp)]
    go_enter Tryz.func41, Tryz.ntmps41
    go_wp2_with fail
    refine wp_loop_rounds 3 ?_
    rw [rounds_succ]
    go_wp2
    rw [rounds_succ]
    by_cases k2 : c2 = 0
    · subst k2
      go_wp2
      rw [rounds_succ]
      go_wp2
      go_ret
      exact ⟨rfl, rfl⟩
    · go_wp2
      go_ret
      exact ⟨rfl, rfl⟩
  · rw [if_pos k1]
    go_enter Tryz.func41, Tryz.ntmps41
    go_wp2_with fail
    refine wp_loop_rounds 3 ?_
    rw [rounds_succ]
    go_wp2
    go_ret
    exact ⟨rfl, rfl⟩

set_option maxRecDepth 10000 in
set_option maxHeartbeats 2000000 in
theorem closW_calls (x y : Int × Int) (W : World) :
    Calls Tryz.prog 40 #[.agg #[.int .i64 x.1, .int .u64 x.2], .agg #[.int .i64 y.1, .int .u64 y.2]] W fun e w' => e = .returned (.int .i64 (cfW x y)) ∧ ∃ q os', w' = grow (W.drewN q) os' := by
  have HU := hide (fun W => cmpU_calls y.2 x.2 W)
  have HI := hide (fun W => cmpI_calls x.1 y.1 W)
  unfold cfW
  generalize cmpZ y.2 x.2 = c1 at HU ⊢
  generalize cmpZ x.1 y.1 = c2 at HI ⊢
  have HO := hide (fun g W h1 h2 => cmpOr_calls g c1 c2 W h1 h2)
  obtain ⟨R, hR⟩ : ∃ R, (if c1 ≠ 0 then c1 else c2) = R := ⟨_, rfl⟩
  rw [hR] at HO ⊢
  clear hR
  obtain ⟨x1, x2⟩ := x
  obtain ⟨y1, y2⟩ := y
  simp only at HU HI ⊢
  obtain ⟨W1, hW1⟩ : ∃ W1, W1 = (W.alloc (.cells #[.int .i64 x1, .int .u64 x2] 71)).alloc (.cells #[.int .i64 y1, .int .u64 y2] 71) := ⟨_, rfl⟩
  have hz : W1.heap.size = W.heap.size + 2 := by rw [hW1]; simp
  have a0 : W1.cell? ⟨W.heap.size, 0, none⟩ = some (.int .i64 x1) := by rw [hW1]; simp [go_sem]
  have a1 : W1.cell? ⟨W.heap.size, 1, none⟩ = some (.int .u64 x2) := by rw [hW1]; simp [go_sem]
  have b0 : W1.cell? ⟨W.heap.size + 1, 0, none⟩ = some (.int .i64 y1) := by rw [hW1]; simp [go_sem]
  have b1 : W1.cell? ⟨W.heap.size + 1, 1, none⟩ = some (.int .u64 y2) := by rw [hW1]; simp [go_sem]
  have l0 : W.heap.size < W1.heap.size := by omega
  have l1 : W.heap.size + 1 < W1.heap.size := by omega
  have A0 := fun (V : World) (hV : Below W1.heap.size W1 V) => bclW hV l0 a0
  have A1 := fun (V : World) (hV : Below W1.heap.size W1 V) => bclW hV l0 a1
  have B0 := fun (V : World) (hV : Below W1.heap.size W1 V) => bclW hV l1 b0
  have B1 := fun (V : World) (hV : Below W1.heap.size W1 V) => bclW hV l1 b1
  have HFIN := hide (fun (C : Obj) => (show ∃ q os', W1.drew.alloc C = grow (W.drewN q) os' from ⟨1, #[_, _, C], by rw [hW1]; exact grow3 W _ _ C⟩))
  have HBR := hide (Below.refl W1.heap.size W1)
  have HW1 := hide hW1.symm
  clear a0 a1 b0 b1 l0 l1 hz hW1
  go_enter Tryz.func40, Tryz.ntmps40
  go_wp2_with fail
  rw [unhide HW1]
  go_region_held3 (fun w' => Below W1.heap.size W1 w') (first | exact belDrewW (unhide HBR) | exact (by assumption) | exact (Below.alloc (by assumption) (Below.size (by assumption)) _)) (first
    | (go_at_call 42; refine (unhide HU _).mono ?_; rintro e w1 ⟨rfl, rfl⟩)
    | (go_at_call 43; refine (unhide HI _).mono ?_; rintro e w1 ⟨rfl, rfl⟩)
    | (go_at_call 41; refine (unhide HO _ _ (by simp [go_sem]) (by simp [go_sem])).mono ?_; rintro e w1 ⟨rfl, rfl⟩))
  all_goals (try go_wp2_with fail)
  all_goals go_ret
  all_goals exact ⟨rfl, unhide HFIN _⟩
end Go.Proofs.YtblbmjpmdmihlaaGreatDoor


/- Ranks as plain mathematics: nodes by falling weights, of the same ones the lesser ahead. -/
namespace Go.Proofs.YtblbmjpmdmihlaaGreatDoor.Plain
open Go
set_option linter.unusedVariables false

/-- a stands ahead of b. -/
def ahd (f : Int → Int) (a b : Int) : Prop := f b < f a ∨ (f a = f b ∧ a < b)
theorem ahd_asymm {f : Int → Int} {a b : Int} (h : ahd f a b) : ¬ ahd f b a := by unfold ahd at *; omega
theorem ahd_total {f : Int → Int} {a b : Int} (h1 : ¬ ahd f a b) (h2 : ¬ ahd f b a) : a = b := by unfold ahd at *; omega
/-- Where a node comes in among the first k. -/
def posK (f : Int → Int) (x : Int) (o : List Int) : Nat → Nat
  | 0 => 0
  | k + 1 => if f (o.getD k 0) < f x then posK f x o k else k + 1
theorem posK_zero (f : Int → Int) (x : Int) (o : List Int) : posK f x o 0 = 0 := rfl
theorem posK_yes {f : Int → Int} {x : Int} {o : List Int} {k : Nat} (h : f (o.getD k 0) < f x) : posK f x o (k + 1) = posK f x o k := by rw [posK, if_pos h]
theorem posK_no {f : Int → Int} {x : Int} {o : List Int} {k : Nat} (h : ¬ f (o.getD k 0) < f x) : posK f x o (k + 1) = k + 1 := by rw [posK, if_neg h]
theorem posK_le (f : Int → Int) (x : Int) (o : List Int) : ∀ k, posK f x o k ≤ k
  | 0 => Nat.le_refl _
  | k + 1 => by
    rw [posK]
    split
    · have := posK_le f x o k; omega
    · exact Nat.le_refl _
theorem posK_hi (f : Int → Int) (x : Int) (o : List Int) : ∀ k j, posK f x o k ≤ j → j < k → f (o.getD j 0) < f x
  | 0, j, _, h => by omega
  | k + 1, j, h, h2 => by
    rw [posK] at h
    split at h
    · rename_i h3
      rcases Nat.lt_or_ge j k with h4 | h4
      · exact posK_hi f x o k j h h4
      · have : j = k := by omega
        rw [this]; exact h3
    · omega
theorem posK_lo (f : Int → Int) (x : Int) (o : List Int) : ∀ k p, posK f x o k = p + 1 → ¬ f (o.getD p 0) < f x
  | 0, p, h => by cases h
  | k + 1, p, h => by
    rw [posK] at h
    split at h
    · exact posK_lo f x o k p h
    · rename_i h3
      have : p = k := by omega
      rw [this]; exact h3
def insAt (x : Int) (o : List Int) (k : Nat) : List Int := o.take k ++ x :: o.drop k
def insK (f : Int → Int) (x : Int) (o : List Int) : List Int := insAt x o (posK f x o o.length)
theorem insAt_length (x : Int) (o : List Int) (k : Nat) : (insAt x o k).length = o.length + 1 := by
  unfold insAt
  rw [List.length_append, List.length_cons, List.length_take, List.length_drop]
  omega
theorem insK_perm (f : Int → Int) (x : Int) (o : List Int) : (insK f x o).Perm (x :: o) := by
  unfold insK insAt
  refine List.perm_middle.trans ?_
  rw [List.take_append_drop]
theorem insK_sorted {f : Int → Int} {x : Int} {o : List Int} (h : o.Pairwise (ahd f)) (hx : ∀ y ∈ o, y < x) : (insK f x o).Pairwise (ahd f) := by
  unfold insK insAt
  obtain ⟨p, hp⟩ : ∃ p, posK f x o o.length = p := ⟨_, rfl⟩
  rw [hp]
  have hle := posK_le f x o o.length
  rw [hp] at hle
  have h2 := h
  rw [← List.take_append_drop p o, List.pairwise_append] at h2
  obtain ⟨ha, hb, hab⟩ := h2
  have hdrop : ∀ y ∈ o.drop p, f y < f x := by
    intro y hy
    obtain ⟨j, hj, rfl⟩ := List.mem_iff_getElem.1 hy
    rw [List.length_drop] at hj
    have := posK_hi f x o o.length (p + j) (by omega) (by omega)
    rw [List.getD_eq_getElem?_getD, List.getElem?_eq_getElem (by omega)] at this
    simpa using this
  have htake : ∀ y ∈ o.take p, ahd f y x := by
    intro y hy
    have hyo := List.mem_of_mem_take hy
    obtain ⟨j, hj, hjy⟩ := List.mem_iff_getElem.1 hy
    rw [List.length_take] at hj
    rw [List.getElem_take] at hjy
    obtain ⟨q, rfl⟩ : ∃ q, p = q + 1 := ⟨p - 1, by omega⟩
    have hlo := posK_lo f x o o.length q hp
    have hq : q < o.length := by omega
    rw [List.getD_eq_getElem?_getD, List.getElem?_eq_getElem hq] at hlo
    simp only [Option.getD_some] at hlo
    have hyx := hx y hyo
    have : f o[q] ≤ f y := by
      rcases Nat.lt_or_ge j q with hjq | hjq
      · have := List.pairwise_iff_getElem.1 h j q (by omega) hq hjq
        rw [hjy] at this
        unfold ahd at this
        omega
      · have e : j = q := by omega
        subst e
        rw [← hjy]
        exact Int.le_refl _
    unfold ahd
    omega
  rw [List.pairwise_append]
  refine ⟨ha, ?_, ?_⟩
  · rw [List.pairwise_cons]
    exact ⟨fun y hy => .inl (hdrop y hy), hb⟩
  · intro a ha1 b hb1
    rcases List.mem_cons.1 hb1 with rfl | hb1
    · exact htake a ha1
    · exact hab a ha1 b hb1

/-- The nodes by their ranks. -/
def rk (f : Int → Int) (l : List Int) : List Int := l.foldl (fun o x => insK f x o) []
theorem rk_take (f : Int → Int) (l : List Int) (k : Nat) (h : k < l.length) : rk f (l.take (k + 1)) = insK f l[k] (rk f (l.take k)) := by
  unfold rk
  rw [List.take_succ_eq_append_getElem h, List.foldl_append]
  rfl
theorem fold_ranks (f : Int → Int) : ∀ (l o : List Int), o.Pairwise (ahd f) → (∀ a ∈ o, ∀ b ∈ l, a < b) → l.Pairwise (· < ·) →
    (l.foldl (fun o x => insK f x o) o).Pairwise (ahd f) ∧ (l.foldl (fun o x => insK f x o) o).Perm (l ++ o)
  | [], o, h1, _, _ => ⟨h1, List.Perm.refl _⟩
  | x :: l, o, h1, h2, h3 => by
    rw [List.pairwise_cons] at h3
    have hi := insK_perm f x o
    obtain ⟨r1, r2⟩ := fold_ranks f l (insK f x o) (insK_sorted h1 fun y hy => h2 y hy x (by simp)) (fun a ha b hb => by
      rcases List.mem_cons.1 (hi.mem_iff.1 ha) with rfl | ha
      · exact h3.1 b hb
      · exact h2 a ha b (by simp [hb])) h3.2
    refine ⟨r1, r2.trans ?_⟩
    refine (List.Perm.append_left l hi).trans ?_
    exact List.perm_middle
theorem rk_sorted (f : Int → Int) (l : List Int) (h : l.Pairwise (· < ·)) : (rk f l).Pairwise (ahd f) := (fold_ranks f l [] List.Pairwise.nil (fun a ha => by cases ha) h).1
theorem rk_perm (f : Int → Int) (l : List Int) (h : l.Pairwise (· < ·)) : (rk f l).Perm l := by
  have := (fold_ranks f l [] List.Pairwise.nil (fun a ha => by cases ha) h).2
  rwa [List.append_nil] at this
/-- There is one such order. -/
theorem rk_unique (f : Int → Int) (l s : List Int) (h : l.Pairwise (· < ·)) (h1 : s.Perm l) (h2 : s.Pairwise fun a b => ¬ ahd f b a) : s = rk f l := by
  refine List.Perm.eq_of_pairwise (le := fun a b => ¬ ahd f b a) (fun a b _ _ x y => ahd_total y x) h2 ?_ (h1.trans (rk_perm f l h).symm)
  exact (rk_sorted f l h).imp fun h => ahd_asymm h
theorem rk_length (f : Int → Int) (l : List Int) (h : l.Pairwise (· < ·)) : (rk f l).length = l.length := (rk_perm f l h).length_eq
theorem insK_length (f : Int → Int) (x : Int) (o : List Int) : (insK f x o).length = o.length + 1 := insAt_length _ _ _
theorem fold_length (f : Int → Int) : ∀ (l o : List Int), (l.foldl (fun o x => insK f x o) o).length = l.length + o.length
  | [], o => by simp
  | x :: l, o => by rw [List.foldl_cons, fold_length f l, insK_length, List.length_cons]; omega
theorem rk_len (f : Int → Int) (l : List Int) : (rk f l).length = l.length := by unfold rk; rw [fold_length]; simp
theorem fold_mem (f : Int → Int) : ∀ (l o : List Int) (y : Int), y ∈ l.foldl (fun o x => insK f x o) o ↔ y ∈ l ∨ y ∈ o
  | [], o, y => by simp
  | x :: l, o, y => by
    rw [List.foldl_cons, fold_mem f l, (insK_perm f x o).mem_iff, List.mem_cons, List.mem_cons]
    exact ⟨fun h => h.elim (fun a => .inl (.inr a)) fun a => a.elim (fun b => .inl (.inl b)) .inr, fun h => h.elim (fun a => a.elim (fun b => .inr (.inl b)) .inl) fun a => .inr (.inr a)⟩
theorem rk_mem (f : Int → Int) (l : List Int) (y : Int) : y ∈ rk f l ↔ y ∈ l := by unfold rk; rw [fold_mem]; simp

/-! One step of the exchange, and the last store. -/
theorem ins_shift (o : List Int) (s : Int) (k : Nat) (h : k < o.length) : (insAt s o (k + 1)).set (k + 1) o[k] = insAt o[k] o k := by
  unfold insAt
  have h1 : (o.take (k + 1)).length = k + 1 := by rw [List.length_take]; omega
  rw [List.set_append_right _ _ (by omega), h1, Nat.sub_self, List.set_cons_zero, List.take_succ_eq_append_getElem h, List.append_assoc, ← List.drop_eq_getElem_cons h]
  rfl
theorem ins_set (o : List Int) (s x : Int) (k : Nat) (h : k ≤ o.length) : (insAt s o k).set k x = insAt x o k := by
  unfold insAt
  have h1 : (o.take k).length = k := by rw [List.length_take]; omega
  rw [List.set_append_right _ _ (by omega), h1, Nat.sub_self, List.set_cons_zero]
theorem ins_get (o : List Int) (s : Int) (k : Nat) (h : k < o.length) : (insAt s o (k + 1))[k]? = some o[k] := by
  unfold insAt
  rw [List.getElem?_append_left (by rw [List.length_take]; omega), List.getElem?_take_of_lt (by omega), List.getElem?_eq_getElem h]
theorem ins_end (o : List Int) (s : Int) : insAt s o o.length = o ++ [s] := by unfold insAt; rw [List.take_length, List.drop_length]
theorem ins_map (f : Int → Int) (o : List Int) (s : Int) (k : Nat) : (insAt s o k).map f = insAt (f s) (o.map f) k := by
  unfold insAt
  rw [List.map_append, List.map_cons, List.map_take, List.map_drop]
end Go.Proofs.YtblbmjpmdmihlaaGreatDoor.Plain

