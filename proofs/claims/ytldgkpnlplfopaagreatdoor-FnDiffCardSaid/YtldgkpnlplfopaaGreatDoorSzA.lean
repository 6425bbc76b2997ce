/- Texts of one kind, put together. -/
import Derived.Test.YtldgkpnlplfopaaGreatDoorShaM
import Derived.Laws.Rows
import Derived.Laws.Tables
import Derived.Test.YtldgkpnlplfopaaGreatDoorRot
import Derived.Deep.RegionHeld3
import Derived.WalkSmall

/- Rows of words in memory, and the schedule as a function of its place. -/
namespace Go.Proofs.YtldgkpnlplfopaaGreatDoor.Plain
open Go Go.RowKit
set_option linter.unusedVariables false

/-- The row arr, of n values, holds f in its first k places. -/
def RowTo (arr : Array Value) (n : Nat) (f : Nat → Int) (k : Nat) : Prop := arr.size = n ∧ arr.all (·.oneCell') = true ∧ ∀ j, j < k → arr[j]? = some (.int .u32 (f j))

theorem RowTo.next {arr : Array Value} {n : Nat} {f : Nat → Int} {k : Nat} (h : RowTo arr n f k) (hk : k < n) (x : Int) (hx : x = f k) : RowTo (arr.setIfInBounds k (.int .u32 x)) n f (k + 1) := by
  subst hx
  obtain ⟨h1, h2, h3⟩ := h
  refine ⟨by simpa using h1, ?_, ?_⟩
  · rw [Array.all_eq_true] at h2 ⊢
    intro i hi
    rw [Array.getElem_setIfInBounds]
    split
    · rfl
    · exact h2 i (by simpa using hi)
  · intro j hj
    rw [Array.getElem?_setIfInBounds]
    by_cases e : k = j
    · subst e; simp [h1, hk]
    · rw [if_neg e]; exact h3 j (by omega)

def wAt (b : List Int) (j : Nat) : Int := (schedTo b (j + 1)).getD j 0

theorem sched_get (b : List Int) (t : Nat) : ∀ j, j < t → (schedTo b t).getD j 0 = wAt b j := by
  induction t with
  | zero => intro j h; omega
  | succ t ih =>
    intro j h
    by_cases e : j = t
    · subst e; rfl
    · rw [← ih j (by omega)]
      rw [schedTo]
      have hl := schedTo_length b t
      simp [List.getD, List.getElem?_append_left (show j < (schedTo b t).length by omega)]

theorem wAt_low (b : List Int) (t : Nat) (h : t < 16) : wAt b t = hiI (b.getD (4 * t) 0) (b.getD (4 * t + 1) 0) (b.getD (4 * t + 2) 0) (b.getD (4 * t + 3) 0) := by
  unfold wAt
  rw [schedTo, if_pos h]
  have hl := schedTo_length b t
  simp [List.getD, hl]

theorem wAt_high (b : List Int) (t : Nat) (h : ¬ t < 16) : wAt b t = (lS1 (wAt b (t - 2)) + wAt b (t - 7) + lS0 (wAt b (t - 15)) + wAt b (t - 16)) % 4294967296 := by
  have e1 := sched_get b t (t - 2) (by omega)
  have e2 := sched_get b t (t - 7) (by omega)
  have e3 := sched_get b t (t - 15) (by omega)
  have e4 := sched_get b t (t - 16) (by omega)
  rw [← e1, ← e2, ← e3, ← e4]
  conv => lhs; unfold wAt
  rw [schedTo, if_neg h]
  have hl := schedTo_length b t
  simp [List.getD, hl]

theorem wAt_word (b : List Int) (t : Nat) : Word (wAt b t) := getD_word (schedTo_word b (t + 1)) t

/-- A row of bytes. -/
def bytesV (b : List Int) : Array Value := (b.map (Value.int .u8)).toArray
theorem bytesV_get (b : List Int) (j : Nat) (h : j < b.length) : (bytesV b)[j]? = some (.int .u8 (b.getD j 0)) := by
  simp [bytesV, List.getD, List.getElem?_eq_getElem h]
def ByteL (b : List Int) : Prop := b.length = 64 ∧ ∀ j, 0 ≤ b.getD j 0 ∧ b.getD j 0 < 256

theorem h_new (w : World) (o : Obj) {n : Nat} (hn : n = w.heap.size) : (w.alloc o).heap[n]? = some o := by subst hn; exact (MapKept.heap_alloc w o).1
theorem h_old (w : World) (o : Obj) {n : Nat} (hn : n < w.heap.size) : (w.alloc o).heap[n]? = w.heap[n]? := Below.heap_alloc w o n hn

end Go.Proofs.YtldgkpnlplfopaaGreatDoor.Plain


/- Eight words in memory: stored one by one. -/
namespace Go.Proofs.YtldgkpnlplfopaaGreatDoor.Plain
open Go Go.RowKit
set_option linter.unusedVariables false

/-- The cells of block g from its head on hold the words v; they may be written. -/
def Words (w : World) (g : Nat) (v : List Int) : Prop := ∀ j, j < v.length → w.cell? ⟨g, j, none⟩ = some (.int .u32 (v.getD j 0)) ∧ w.frozen? ⟨g, j, none⟩ = false

theorem Words.below {w w' : World} {g B : Nat} {v : List Int} (h : Words w g v) (hb : Below B w w') (hg : g < B) : Words w' g v := fun j hj =>
  ⟨(hb.cell (p := ⟨g, j, none⟩) hg).trans (h j hj).1, (hb.frozen (p := ⟨g, j, none⟩) hg).trans (h j hj).2⟩

def wordsV (v : List Int) : Array Value := (v.map (Value.int .u32)).toArray
theorem words_of_block {w : World} {g : Nat} {v : List Int} {t : TypeId} (h : w.heap[g]? = some (.cells (wordsV v) t (0, 0))) : Words w g v := fun j hj =>
  ⟨(cell_of_row w g j _ t _ h).trans (by simp [wordsV, List.getD, List.getElem?_eq_getElem hj]), frozen_of_row w g j _ t h⟩

def put8 (w : World) (g : Nat) (a b c d e f p h : Value) : World :=
  (((((((w.setCell ⟨g, 0, none⟩ a).setCell ⟨g, 1, none⟩ b).setCell ⟨g, 2, none⟩ c).setCell ⟨g, 3, none⟩ d).setCell ⟨g, 4, none⟩ e).setCell ⟨g, 5, none⟩ f).setCell ⟨g, 6, none⟩ p).setCell ⟨g, 7, none⟩ h

theorem list8 {v : List Int} (h : v.length = 8) : ∃ a b c d e f g k, v = [a, b, c, d, e, f, g, k] := by
  match v, h with
  | [a, b, c, d, e, f, g, k], _ => exact ⟨a, b, c, d, e, f, g, k, rfl⟩

theorem put8_words (w : World) (g : Nat) (v : List Int) (hv : v.length = 8) (h : Words w g v) (a b c d e f p k : Int) :
    Words (put8 w g (.int .u32 a) (.int .u32 b) (.int .u32 c) (.int .u32 d) (.int .u32 e) (.int .u32 f) (.int .u32 p) (.int .u32 k)) g [a, b, c, d, e, f, p, k] := by
  have q : ∀ j, j < 8 → (w.cell? ⟨g, j, none⟩).isSome = true := fun j hj => by rw [(h j (by omega)).1]; rfl
  have q0 := q 0 (by omega)
  have q1 := q 1 (by omega)
  have q2 := q 2 (by omega)
  have q3 := q 3 (by omega)
  have q4 := q 4 (by omega)
  have q5 := q 5 (by omega)
  have q6 := q 6 (by omega)
  have q7 := q 7 (by omega)
  intro j hj
  have hf := (h j (by simp at hj; omega)).2
  refine ⟨?_, by simp [put8, hf]⟩
  simp at hj
  have ho : ∀ (W : World) (i i' : Nat) (u : Value), i ≠ i' → (W.setCell ⟨g, i, none⟩ u).cell? ⟨g, i', none⟩ = W.cell? ⟨g, i', none⟩ := fun W i i' u hne => World.cell?_setCell_other W ⟨g, i, none⟩ ⟨g, i', none⟩ u (fun e => hne (congrArg Addr.off e))
  have hs : ∀ (W : World) (i : Nat) (u : Value), (W.cell? ⟨g, i, none⟩).isSome = true → (W.setCell ⟨g, i, none⟩ u).cell? ⟨g, i, none⟩ = some u := fun W i u hh => World.cell?_setCell_same' W _ u hh
  unfold put8
  match j, hj with
  | 0, _ => rw [ho _ 7 0 _ (by decide), ho _ 6 0 _ (by decide), ho _ 5 0 _ (by decide), ho _ 4 0 _ (by decide), ho _ 3 0 _ (by decide), ho _ 2 0 _ (by decide), ho _ 1 0 _ (by decide), hs _ 0 _ q0]; rfl
  | 1, _ => rw [ho _ 7 1 _ (by decide), ho _ 6 1 _ (by decide), ho _ 5 1 _ (by decide), ho _ 4 1 _ (by decide), ho _ 3 1 _ (by decide), ho _ 2 1 _ (by decide), hs _ 1 _ (by rw [ho _ 0 1 _ (by decide)]; exact q1)]; rfl
  | 2, _ => rw [ho _ 7 2 _ (by decide), ho _ 6 2 _ (by decide), ho _ 5 2 _ (by decide), ho _ 4 2 _ (by decide), ho _ 3 2 _ (by decide), hs _ 2 _ (by rw [ho _ 1 2 _ (by decide), ho _ 0 2 _ (by decide)]; exact q2)]; rfl
  | 3, _ => rw [ho _ 7 3 _ (by decide), ho _ 6 3 _ (by decide), ho _ 5 3 _ (by decide), ho _ 4 3 _ (by decide), hs _ 3 _ (by rw [ho _ 2 3 _ (by decide), ho _ 1 3 _ (by decide), ho _ 0 3 _ (by decide)]; exact q3)]; rfl
  | 4, _ => rw [ho _ 7 4 _ (by decide), ho _ 6 4 _ (by decide), ho _ 5 4 _ (by decide), hs _ 4 _ (by rw [ho _ 3 4 _ (by decide), ho _ 2 4 _ (by decide), ho _ 1 4 _ (by decide), ho _ 0 4 _ (by decide)]; exact q4)]; rfl
  | 5, _ => rw [ho _ 7 5 _ (by decide), ho _ 6 5 _ (by decide), hs _ 5 _ (by rw [ho _ 4 5 _ (by decide), ho _ 3 5 _ (by decide), ho _ 2 5 _ (by decide), ho _ 1 5 _ (by decide), ho _ 0 5 _ (by decide)]; exact q5)]; rfl
  | 6, _ => rw [ho _ 7 6 _ (by decide), hs _ 6 _ (by rw [ho _ 5 6 _ (by decide), ho _ 4 6 _ (by decide), ho _ 3 6 _ (by decide), ho _ 2 6 _ (by decide), ho _ 1 6 _ (by decide), ho _ 0 6 _ (by decide)]; exact q6)]; rfl
  | 7, _ => rw [hs _ 7 _ (by rw [ho _ 6 7 _ (by decide), ho _ 5 7 _ (by decide), ho _ 4 7 _ (by decide), ho _ 3 7 _ (by decide), ho _ 2 7 _ (by decide), ho _ 1 7 _ (by decide), ho _ 0 7 _ (by decide)]; exact q7)]; rfl

theorem put8_grown (w : World) (g : Nat) (a b c d e f p h : Value) : w.grownBy (put8 w g a b c d e f p h) (some g) := by
  have s : ∀ (W : World) (i : Nat) (u : Value), W.grownBy (W.setCell ⟨g, i, none⟩ u) (some g) := fun W i u => ⟨rfl, rfl, rfl, by simp, fun k _ hk => Below.heap_setCell W _ u k (fun e => hk (by rw [e]))⟩
  have t : ∀ {A B C : World}, A.grownBy B (some g) → B.grownBy C (some g) → A.grownBy C (some g) := fun h k => ⟨k.os.trans h.os, k.tape.trans h.tape, k.output.trans h.output, Nat.le_trans h.size k.size, fun i hi hn => (k.block i (Nat.lt_of_lt_of_le hi h.size) hn).trans (h.block i hi hn)⟩
  unfold put8
  exact t (t (t (t (t (t (t (s _ _ _) (s _ _ _)) (s _ _ _)) (s _ _ _)) (s _ _ _)) (s _ _ _)) (s _ _ _)) (s _ _ _)

theorem put8_below (w : World) (g : Nat) (a b c d e f p h : Value) (B : Nat) (hB : B ≤ g) (hs : B ≤ w.heap.size) : Below B w (put8 w g a b c d e f p h) :=
  (Below.refl B w).grown (put8_grown w g a b c d e f p h) hs (fun k hk => by simp at hk; omega)

theorem comp_step (b h : List Int) (k : Nat) (hk : k < 64) (v0 v1 v2 v3 v4 v5 v6 v7 : Int) (hv : compTo (schedTo b 64) h k = [v0, v1, v2, v3, v4, v5, v6, v7]) :
    compTo (schedTo b 64) h (k + 1) = [rnd0 v0 v1 v2 v3 v4 v5 v6 v7 ((kL.getD k 0 + wAt b k) % 4294967296), v0, v1, v2, rnd4 v0 v1 v2 v3 v4 v5 v6 v7 ((kL.getD k 0 + wAt b k) % 4294967296), v4, v5, v6] := by
  rw [compTo, hv, sched_get b 64 k hk]
  rfl

theorem below_of_drew {B : Nat} {w w' : World} (h : Below B w.drew w') : Below B w w' := ⟨h.os, h.tape, h.output, h.size, h.block⟩

theorem after8 {w w2 : World} {g : Nat} {v0 v1 v2 v3 v4 v5 v6 v7 : Int} (h : Words w g [v0, v1, v2, v3, v4, v5, v6, v7]) (hb : Below w.drew.heap.size w.drew w2) (hg : g < w.heap.size) :
    w2.cell? ⟨g, 0, none⟩ = some (.int .u32 v0) ∧ w2.cell? ⟨g, 1, none⟩ = some (.int .u32 v1) ∧ w2.cell? ⟨g, 2, none⟩ = some (.int .u32 v2) ∧ w2.cell? ⟨g, 3, none⟩ = some (.int .u32 v3) ∧
    w2.cell? ⟨g, 4, none⟩ = some (.int .u32 v4) ∧ w2.cell? ⟨g, 5, none⟩ = some (.int .u32 v5) ∧ w2.cell? ⟨g, 6, none⟩ = some (.int .u32 v6) ∧ w2.cell? ⟨g, 7, none⟩ = some (.int .u32 v7) ∧
    (∀ j, j < 8 → w2.frozen? ⟨g, j, none⟩ = false) := by
  have h2 := h.below (below_of_drew hb) hg
  exact ⟨(h2 0 (by simp)).1, (h2 1 (by simp)).1, (h2 2 (by simp)).1, (h2 3 (by simp)).1, (h2 4 (by simp)).1, (h2 5 (by simp)).1, (h2 6 (by simp)).1, (h2 7 (by simp)).1, fun j hj => (h2 j (by simpa using hj)).2⟩

/-- What the world is good for behind a call and eight stores into block n + 1. -/
def NextW (w1 w2 : World) (n : Nat) (f : Nat → Int) : Prop := ∀ a b c d e f' p k : Int,
  Words (put8 w2 (n + 1) (.int .u32 a) (.int .u32 b) (.int .u32 c) (.int .u32 d) (.int .u32 e) (.int .u32 f') (.int .u32 p) (.int .u32 k)) (n + 1) [a, b, c, d, e, f', p, k] ∧
  (∀ j, j < 64 → (put8 w2 (n + 1) (.int .u32 a) (.int .u32 b) (.int .u32 c) (.int .u32 d) (.int .u32 e) (.int .u32 f') (.int .u32 p) (.int .u32 k)).cell? ⟨n, j, none⟩ = some (.int .u32 (f j))) ∧
  Below n w1 (put8 w2 (n + 1) (.int .u32 a) (.int .u32 b) (.int .u32 c) (.int .u32 d) (.int .u32 e) (.int .u32 f') (.int .u32 p) (.int .u32 k)) ∧
  n + 1 < (put8 w2 (n + 1) (.int .u32 a) (.int .u32 b) (.int .u32 c) (.int .u32 d) (.int .u32 e) (.int .u32 f') (.int .u32 p) (.int .u32 k)).heap.size

theorem nextW {w1 wr w2 : World} {n : Nat} {f : Nat → Int} {v : List Int} (hv : v.length = 8) (h : Words wr (n + 1) v) (hw : ∀ j, j < 64 → wr.cell? ⟨n, j, none⟩ = some (.int .u32 (f j))) (hb : Below n w1 wr)
    (hb2 : Below wr.drew.heap.size wr.drew w2) (hs : n + 1 < wr.heap.size) : NextW w1 w2 n f := by
  intro a b c d e f' p k
  have hb3 : Below wr.heap.size wr w2 := below_of_drew hb2
  have h2 : Words w2 (n + 1) v := h.below hb3 hs
  have hsz : n + 1 < w2.heap.size := Nat.lt_of_lt_of_le hs hb3.size
  have hput := put8_below w2 (n + 1) (.int .u32 a) (.int .u32 b) (.int .u32 c) (.int .u32 d) (.int .u32 e) (.int .u32 f') (.int .u32 p) (.int .u32 k) (n + 1) (Nat.le_refl _) (by omega)
  refine ⟨put8_words w2 (n + 1) v hv h2 a b c d e f' p k, fun j hj => ?_, ?_, ?_⟩
  · exact (hput.cell (p := ⟨n, j, none⟩) (by simp)).trans ((hb3.cell (p := ⟨n, j, none⟩) (by show n < wr.heap.size; omega)).trans (hw j hj))
  · exact (hb.trans (hb3.mono (by omega))).trans (hput.mono (by omega))
  · exact Nat.lt_of_lt_of_le hsz hput.size

theorem Words.set {w : World} {g : Nat} {v : List Int} (h : Words w g v) (i : Nat) (hi : i < v.length) (x : Int) : Words (w.setCell ⟨g, i, none⟩ (.int .u32 x)) g (v.set i x) := by
  intro j hj
  have hj' : j < v.length := by simpa using hj
  refine ⟨?_, by simp [(h j hj').2]⟩
  by_cases e : i = j
  · subst e
    rw [World.cell?_setCell_same' _ _ _ (by rw [(h i hi).1]; rfl)]
    simp [List.getD, hi]
  · rw [World.cell?_setCell_other w ⟨g, i, none⟩ ⟨g, j, none⟩ _ (fun q => e (congrArg Addr.off q)), (h j hj').1]
    simp [List.getD, e]

theorem Words.other {w : World} {g g' : Nat} {v : List Int} (h : Words w g v) (i : Nat) (x : Value) (hg : g' ≠ g) : Words (w.setCell ⟨g', i, none⟩ x) g v := fun j hj =>
  ⟨(World.cell?_setCell_other w ⟨g', i, none⟩ ⟨g, j, none⟩ x (fun q => hg (congrArg Addr.block q))).trans (h j hj).1, by simp [(h j hj).2]⟩

theorem Words.drew {w : World} {g : Nat} {v : List Int} (h : Words w g v) : Words w.drew g v := h

/-- The eight words while they are added up: the first k are done. -/
def curL (h v : List Int) (k : Nat) : List Int := (List.range 8).map fun j => if j < k then (h.getD j 0 + v.getD j 0) % 4294967296 else h.getD j 0

theorem curL_length (h v : List Int) (k : Nat) : (curL h v k).length = 8 := by simp [curL]
theorem curL_zero (a0 a1 a2 a3 a4 a5 a6 a7 : Int) (v : List Int) : curL [a0, a1, a2, a3, a4, a5, a6, a7] v 0 = [a0, a1, a2, a3, a4, a5, a6, a7] := by
  simp [curL, List.range_succ]
theorem curL_get (h v : List Int) (k j : Nat) (hj : j < 8) : (curL h v k).getD j 0 = if j < k then (h.getD j 0 + v.getD j 0) % 4294967296 else h.getD j 0 := by
  simp [curL, List.getD, hj]
theorem curL_next (h v : List Int) (k : Nat) (hk : k < 8) : (curL h v k).set k ((h.getD k 0 + v.getD k 0) % 4294967296) = curL h v (k + 1) := by
  apply List.ext_getElem
  · simp [curL]
  · intro j h1 h2
    simp [curL] at h1 h2
    rw [List.getElem_set]
    simp only [curL, List.getElem_map, List.getElem_range]
    by_cases e : k = j
    · subst e; simp
    · rw [if_neg e]
      by_cases q : j < k
      · rw [if_pos q, if_pos (by omega)]
      · rw [if_neg q, if_neg (by omega)]
theorem curL_end (h b : List Int) : curL h (compTo (schedTo b 64) h 64) 8 = blockL h b := by
  unfold curL blockL
  apply List.map_congr_left
  intro j hj
  rw [if_pos (List.mem_range.1 hj)]

end Go.Proofs.YtldgkpnlplfopaaGreatDoor.Plain


/- One round, and a word of four bytes, of the program. -/
namespace Go.Proofs.YtldgkpnlplfopaaGreatDoor
open Go.RowKit Plain
set_option linter.unusedVariables false

set_option maxHeartbeats 1000000 in
theorem round_calls (a b c d e f g h x : Int) (w : World) (ha : Word a) (he : Word e) :
    Calls Tryz.prog 105 #[.agg #[.int .u32 a, .int .u32 b, .int .u32 c, .int .u32 d, .int .u32 e, .int .u32 f, .int .u32 g, .int .u32 h], .int .u32 x] w fun r w' =>
      r = .returned (.agg #[.int .u32 (rnd0 a b c d e f g h x), .int .u32 a, .int .u32 b, .int .u32 c, .int .u32 (rnd4 a b c d e f g h x), .int .u32 e, .int .u32 f, .int .u32 g]) ∧ Below w.heap.size w w' := by
  obtain ⟨ha0, ha1⟩ := ha
  obtain ⟨he0, he1⟩ := he
  have hsg : IntKind.u32.signed = false := rfl
  go_enter Tryz.func105, Tryz.ntmps105
  go_wp2
  go_region_held3 (fun w' => w'.cell? ⟨w.heap.size, 0, none⟩ = some (.int .u32 a) ∧ w'.cell? ⟨w.heap.size, 1, none⟩ = some (.int .u32 b) ∧ w'.cell? ⟨w.heap.size, 2, none⟩ = some (.int .u32 c) ∧ w'.cell? ⟨w.heap.size, 3, none⟩ = some (.int .u32 d) ∧ w'.cell? ⟨w.heap.size, 4, none⟩ = some (.int .u32 e) ∧ w'.cell? ⟨w.heap.size, 5, none⟩ = some (.int .u32 f) ∧ w'.cell? ⟨w.heap.size, 6, none⟩ = some (.int .u32 g) ∧ w'.cell? ⟨w.heap.size, 7, none⟩ = some (.int .u32 h)) (go_keep) (fail)
  go_wp2_with (go_at_call 110; refine (impl_Rotate _ _ (by omega) (by omega) _).mono ?_; rintro e w' ⟨rfl, rfl⟩)
  refine bodyPost_ret (v := .agg #[.int .u32 (rnd0 a b c d e f g h x), .int .u32 a, .int .u32 b, .int .u32 c, .int .u32 (rnd4 a b c d e f g h x), .int .u32 e, .int .u32 f, .int .u32 g]) ?_ rfl ⟨rfl, ?_⟩
  · simp [results, Tryz.results105, go_sem, rnd0, rnd4, bS1, bS0, chI, majI]
  · exact below_drewN (((Below.refl _ _).alloc (Nat.le_refl _) _).alloc (by simp) _) 1

theorem highFirst_calls (a b c d : Int) (w : World) (ha : 0 ≤ a ∧ a < 256) (hb : 0 ≤ b ∧ b < 256) (hc : 0 ≤ c ∧ c < 256) (hd : 0 ≤ d ∧ d < 256) :
    Calls Tryz.prog 109 #[.int .u8 a, .int .u8 b, .int .u8 c, .int .u8 d] w fun r w' => r = .returned (.int .u32 (hiI a b c d)) ∧ w = w' := by
  obtain ⟨a0, a1⟩ := ha
  obtain ⟨b0, b1⟩ := hb
  obtain ⟨c0, c1⟩ := hc
  obtain ⟨d0, d1⟩ := hd
  go_enter Tryz.func109, Tryz.ntmps109
  go_wp2
  go_ret
  exact ⟨rfl, rfl⟩
end Go.Proofs.YtldgkpnlplfopaaGreatDoor


/- The program's schedule of a block. -/
namespace Go.Proofs.YtldgkpnlplfopaaGreatDoor
open Go.RowKit Plain
set_option linter.unusedVariables false

theorem info57 : (Tryz.prog.info? 142).map (·.size) = some 64 := by kernel_rfl

theorem rowTo_start {arr : Array Value} {n : Nat} (f : Nat → Int) (h1 : arr.size = n) (h2 : arr.all (·.oneCell') = true) : RowTo arr n f 0 := ⟨h1, h2, fun j h => absurd h (Nat.not_lt_zero j)⟩

theorem other_cell {W : World} {a b i j : Nat} {v : Value} (h : a ≠ b) : (W.setCell ⟨a, i, none⟩ v).cell? ⟨b, j, none⟩ = W.cell? ⟨b, j, none⟩ :=
  World.cell?_setCell_other W ⟨a, i, none⟩ ⟨b, j, none⟩ v (fun e => h (congrArg Addr.block e))

set_option maxRecDepth 10000 in
set_option maxHeartbeats 2000000 in
theorem schedule_calls (b : List Int) (w : World) (hb : ByteL b) :
    Calls Tryz.prog 104 #[.agg (bytesV b)] w fun r w' => ∃ arr, RowTo arr 64 (wAt b) 64 ∧ r = .returned (.agg arr) ∧ Below w.heap.size w w' := by
  have HB := hide hb
  clear hb
  go_enter Tryz.func104, Tryz.ntmps104
  go_wp2_with fail
  go_loopw [4, 10] (fun _ i wr => ∃ (k : Nat) (arr old : Array Value), i = .int .i64 k ∧ k ≤ 16 ∧ Hid (RowTo arr 64 (wAt b) k) ∧ wr.heap[w.heap.size + 2]? = some (.cells arr 142 (0, 0)) ∧
      wr.heap[w.heap.size + 1]? = some (.cells old 142 (0, 0)) ∧ Hid (old.size = 64) ∧ wr.heap[w.heap.size]? = some (.cells (bytesV b) 131 (0, 0)) ∧ Below w.heap.size w wr) (fun _ i _ => 16 - (intOf i).toNat)
  case atStart =>
    refine ⟨0, _, _, rfl, by omega, ?hA, h_new _ _ (by simp), (h_old _ _ (by simp)).trans (h_new _ _ (by simp)), ?hB, (h_old _ _ (by simp; omega)).trans ((h_old _ _ (by simp)).trans (h_new _ _ rfl)), ?hC⟩
    case hA => exact rowTo_start _ rfl (by decide +kernel)
    case hB => exact hide rfl
    case hC => exact (((Below.refl _ _).alloc (Nat.le_refl _) _).alloc (by simp) _).alloc (by simp; omega) _
  case round =>
    obtain ⟨k, arr, old, rfl, hk, HT, hrow, hres, HO, hbox, hbel⟩ := hrel
    by_cases hlt : k < 16
    · have hl := (unhide HB).1
      have hc : ∀ j, j < 64 → wr.cell? ⟨w.heap.size, j, none⟩ = some (.int .u8 (b.getD j 0)) := fun j hj => (cell_of_row wr _ j _ _ _ hbox).trans (bytesV_get b j (by omega))
      have hw := hide (wAt_low b k hlt)
      obtain ⟨p, hp⟩ : ∃ p, 4 * k = p := ⟨_, rfl⟩
      rw [hp] at hw
      have q0 := hc p (by omega)
      have q1 := hc (p + 1) (by omega)
      have q2 := hc (p + 2) (by omega)
      have q3 := hc (p + 3) (by omega)
      have b0 := (unhide HB).2 p
      have b1 := (unhide HB).2 (p + 1)
      have b2 := (unhide HB).2 (p + 2)
      have b3 := (unhide HB).2 (p + 3)
      generalize b.getD p 0 = x0 at q0 b0 hw
      generalize b.getD (p + 1) 0 = x1 at q1 b1 hw
      generalize b.getD (p + 2) 0 = x2 at q2 b2 hw
      generalize b.getD (p + 3) 0 = x3 at q3 b3 hw
      have hpi : 4 * (k : Int) = (p : Int) := by omega
      have hp60 : p ≤ 60 := by omega
      clear hp
      have hsz := (unhide HT).1
      obtain ⟨ov, hcell⟩ : ∃ ov, wr.cell? ⟨w.heap.size + 2, k, none⟩ = some ov := ⟨arr[k], by rw [cell_of_row wr _ k arr _ _ hrow]; simp⟩
      have hfz : wr.frozen? ⟨w.heap.size + 2, k, none⟩ = false := frozen_of_row wr _ k arr _ hrow
      have i0 : (0 : Int) ≤ (k : Int) := by omega
      have i1 : (k : Int) < 16 := by omega
      have j0 : IntKind.i64.wrap (p : Int) = (p : Int) := by rw [IntKind.wrap_i64]; omega
      have j1 : IntKind.i64.wrap ((p : Int) + 1) = (p : Int) + 1 := by rw [IntKind.wrap_i64]; omega
      have j2 : IntKind.i64.wrap ((p : Int) + 2) = (p : Int) + 2 := by rw [IntKind.wrap_i64]; omega
      have j3 : IntKind.i64.wrap ((p : Int) + 3) = (p : Int) + 3 := by rw [IntKind.wrap_i64]; omega
      have l0 : (0 : Int) ≤ (p : Int) := by omega
      have m0 : (p : Int) < 64 := by omega
      have m1 : (p : Int) + 1 < 64 := by omega
      have m2 : (p : Int) + 2 < 64 := by omega
      have m3 : (p : Int) + 3 < 64 := by omega
      have l1 : (0 : Int) ≤ (p : Int) + 1 := by omega
      have l2 : (0 : Int) ≤ (p : Int) + 2 := by omega
      have l3 : (0 : Int) ≤ (p : Int) + 3 := by omega
      have n1 : ((p : Int) + 1).toNat = p + 1 := by omega
      have n2 : ((p : Int) + 2).toNat = p + 2 := by omega
      have n3 : ((p : Int) + 3).toNat = p + 3 := by omega
      have i2 : (k : Int) < 64 := by omega
      have r0 : (wr.setCell ⟨w.heap.size + 1 + 1, k, none⟩ (.int .u32 (hiI x0 x1 x2 x3))).cell? ⟨w.heap.size, p, none⟩ = some (.int .u8 x0) := (other_cell (by omega)).trans q0
      have r1 : (wr.setCell ⟨w.heap.size + 1 + 1, k, none⟩ (.int .u32 (hiI x0 x1 x2 x3))).cell? ⟨w.heap.size, p + 1, none⟩ = some (.int .u8 x1) := (other_cell (by omega)).trans q1
      have r2 : (wr.setCell ⟨w.heap.size + 1 + 1, k, none⟩ (.int .u32 (hiI x0 x1 x2 x3))).cell? ⟨w.heap.size, p + 2, none⟩ = some (.int .u8 x2) := (other_cell (by omega)).trans q2
      have r3 : (wr.setCell ⟨w.heap.size + 1 + 1, k, none⟩ (.int .u32 (hiI x0 x1 x2 x3))).cell? ⟨w.heap.size, p + 3, none⟩ = some (.int .u8 x3) := (other_cell (by omega)).trans q3
      clear hc hl
      go_wp2
      go_region_held3 (fun w' => w'.cell? ⟨w.heap.size, p, none⟩ = some (.int .u8 x0) ∧ w'.cell? ⟨w.heap.size, p + 1, none⟩ = some (.int .u8 x1) ∧ w'.cell? ⟨w.heap.size, p + 2, none⟩ = some (.int .u8 x2) ∧ w'.cell? ⟨w.heap.size, p + 3, none⟩ = some (.int .u8 x3)) (go_keep)
        (first | (go_at_call 109; refine (highFirst_calls _ _ _ _ _ b0 b1 b2 b3).mono ?_; rintro e w' ⟨rfl, rfl⟩))
      go_wp2
      go_roundw
      case rel =>
        refine ⟨k + 1, _, old, by go_num, by omega, (unhide HT).next (by omega) _ (unhide hw).symm, heap_setCell_same wr _ k arr _ _ hrow, ?_, HO, ?_, (hbel.setCell (by simp; omega) _).drew⟩
        · exact (heap_setCell_other wr _ _ _ (by simp)).trans hres
        · exact (heap_setCell_other wr _ _ _ (by simp; omega)).trans hbox
      case measure => simp [intOf]; omega
    · obtain rfl : k = 16 := by omega
      go_wp2_with fail
      go_loopw [5, 6, 7, 8, 9] (fun i _ _ _ _ wr => ∃ (k : Nat) (arr old : Array Value), i = .int .i64 k ∧ 16 ≤ k ∧ k ≤ 64 ∧ Hid (RowTo arr 64 (wAt b) k) ∧ wr.heap[w.heap.size + 2]? = some (.cells arr 142 (0, 0)) ∧
        wr.heap[w.heap.size + 1]? = some (.cells old 142 (0, 0)) ∧ Hid (old.size = 64) ∧ Below w.heap.size w wr) (fun i _ _ _ _ _ => 64 - (intOf i).toNat)
      case atStart => exact ⟨16, arr, old, rfl, by omega, by omega, HT, hrow, hres, HO, hbel⟩
      case round =>
        obtain ⟨wo, hwo⟩ : ∃ wo : World, wo = wr := ⟨_, rfl⟩
        clear hrow hres HO HT hbel hbox
        obtain ⟨k, arr, old, rfl, hk16, hk, HT, hrow, hres, HO, hbel⟩ := hrel
        by_cases hlt2 : k < 64
        · have hg : ∀ j, j < k → wr.cell? ⟨w.heap.size + 1 + 1, j, none⟩ = some (.int .u32 (wAt b j)) := fun j hj => (cell_of_row wr _ j arr _ _ hrow).trans ((unhide HT).2.2 j hj)
          have q15 := hg (k - 15) (by omega)
          have q2 := hg (k - 2) (by omega)
          have q7 := hg (k - 7) (by omega)
          have q16 := hg (k - 16) (by omega)
          have g15 := wAt_word b (k - 15)
          have g2 := wAt_word b (k - 2)
          have hw := hide (wAt_high b k (by omega))
          generalize wAt b (k - 15) = x at q15 g15 hw
          generalize wAt b (k - 2) = y at q2 g2 hw
          generalize wAt b (k - 7) = u at q7 hw
          generalize wAt b (k - 16) = v at q16 hw
          obtain ⟨x0, x1⟩ := g15
          obtain ⟨y0, y1⟩ := g2
          have hsz := (unhide HT).1
          obtain ⟨ov, hcell⟩ : ∃ ov, wr.cell? ⟨w.heap.size + 1 + 1, k, none⟩ = some ov := ⟨arr[k], by rw [cell_of_row wr _ k arr _ _ hrow]; simp⟩
          have hfz : wr.frozen? ⟨w.heap.size + 1 + 1, k, none⟩ = false := frozen_of_row wr _ k arr _ hrow
          have i0 : (16 : Int) ≤ (k : Int) := by omega
          have i1 : (k : Int) < 64 := by omega
          have n15 : ((k : Int) - 15).toNat = k - 15 := by omega
          have n2 : ((k : Int) - 2).toNat = k - 2 := by omega
          have n7 : ((k : Int) - 7).toNat = k - 7 := by omega
          have n16 : ((k : Int) - 16).toNat = k - 16 := by omega
          clear hg
          go_wp2
          go_region
          go_wp2_with (go_at_call 110; refine (impl_Rotate _ _ (by omega) (by omega) _).mono ?_; rintro e w' ⟨rfl, rfl⟩)
          go_region
          all_goals (try go_wp2)
          go_roundw
          case rel =>
            (repeat apply Exists.intro)
            refine ⟨⟨k + 1, _, old, by go_num, by omega, by omega, (unhide HT).next (by omega) _ ?hx, heap_setCell_same wr _ k arr _ _ hrow, ?_, HO, ((hbel.setCell (show w.heap.size ≤ w.heap.size + 1 + 1 by omega) _).drew).drew⟩, rfl⟩
            case hx => rw [unhide hw]; rfl
            · exact (heap_setCell_other wr _ _ _ (by simp)).trans hres
          case measure => simp [intOf]; omega
        · obtain rfl : k = 64 := by omega
          have hsz := (unhide HT).1
          have hi57 : (Tryz.prog.info? 142).map (·.size) = some arr.size := by rw [hsz]; exact info57
          have hzs : old.size = arr.size := by rw [hsz]; exact unhide HO
          have h1 := (unhide HT).2.1
          clear hsz
          go_wp2_with (first | (refine wpList_load_row rfl 142 (.tmp 3) rfl (w.heap.size + 2) rfl 142 arr (0, 0) _ hrow Tryz.underlying142 rfl hi57 ?_) | (refine wpList_store_row rfl 142 (.tmp 2) (.tmp 79) rfl (w.heap.size + 1) arr rfl rfl 142 _ hres hi57 hzs h1 ?_))
          refine bodyPost_ret (v := .agg arr) ?_ rfl ⟨arr, unhide HT, rfl, ?_⟩
          · exact results_cell_row (p := 2) (ty := 142) (by kernel_rfl) _ _ (w.heap.size + 1) 142 arr (0, 0) _ rfl (setRow_heap _ _ _ _ _ _ hres) Tryz.underlying142 rfl hi57
          · exact hbel.trans ⟨rfl, rfl, rfl, by simp, fun k hk => setRow_other _ _ _ _ (by omega)⟩
end Go.Proofs.YtldgkpnlplfopaaGreatDoor

