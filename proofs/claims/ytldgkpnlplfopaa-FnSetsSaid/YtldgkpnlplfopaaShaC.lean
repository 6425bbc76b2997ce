/- Eight words in memory: stored one by one. -/
import Derived.Test.YtldgkpnlplfopaaShaB
namespace Go.Proofs.Ytldgkpnlplfopaa.Plain
open Go Go.RowKit
set_option linter.unusedVariables false

/-- The cells of block g from its head on hold the words v; they may be written. -/
def Words (w : World) (g : Nat) (v : List Int) : Prop := ∀ j, j < v.length → w.cell? ⟨g, j, none⟩ = some (.int .u32 (v.getD j 0)) ∧ w.frozen? ⟨g, j, none⟩ = false

theorem Words.below {w w' : World} {g B : Nat} {v : List Int} (h : Words w g v) (hb : Below B w w') (hg : g < B) : Words w' g v := fun j hj =>
  ⟨(hb.cell (p := ⟨g, j, none⟩) hg).trans (h j hj).1, (hb.frozen (p := ⟨g, j, none⟩) hg).trans (h j hj).2⟩

def wordsV (v : List Int) : Array Value := (v.map (Value.int .u32)).toArray
theorem words_of_block {w : World} {g : Nat} {v : List Int} {t : TypeId} (h : w.heap[g]? = some (.cells (wordsV v) t (0, 0))) : Words w g v := fun j hj =>
  ⟨(cell_of_row w g j _ t _ h).trans (by simp [wordsV, List.getD, List.getElem?_eq_getElem hj]), frozen_of_row w g j _ t h⟩

def put8 (w : World) (g : Nat) (a b c d e f p h : Value) : World :=
  (((((((w.setCell ⟨g, 0, none⟩ a).setCell ⟨g, 1, none⟩ b).setCell ⟨g, 2, none⟩ c).setCell ⟨g, 3, none⟩ d).setCell ⟨g, 4, none⟩ e).setCell ⟨g, 5, none⟩ f).setCell ⟨g, 6, none⟩ p).setCell ⟨g, 7, none⟩ h

theorem list8 {v : List Int} (h : v.length = 8) : ∃ a b c d e f g k, v = [a, b, c, d, e, f, g, k] := by
  match v, h with
  | [a, b, c, d, e, f, g, k], _ => exact ⟨a, b, c, d, e, f, g, k, rfl⟩

theorem put8_words (w : World) (g : Nat) (v : List Int) (hv : v.length = 8) (h : Words w g v) (a b c d e f p k : Int) :
    Words (put8 w g (.int .u32 a) (.int .u32 b) (.int .u32 c) (.int .u32 d) (.int .u32 e) (.int .u32 f) (.int .u32 p) (.int .u32 k)) g [a, b, c, d, e, f, p, k] := by
  have q : ∀ j, j < 8 → (w.cell? ⟨g, j, none⟩).isSome = true := fun j hj => by rw [(h j (by omega)).1]; rfl
  have q0 := q 0 (by omega)
  have q1 := q 1 (by omega)
  have q2 := q 2 (by omega)
  have q3 := q 3 (by omega)
  have q4 := q 4 (by omega)
  have q5 := q 5 (by omega)
  have q6 := q 6 (by omega)
  have q7 := q 7 (by omega)
  intro j hj
  have hf := (h j (by simp at hj; omega)).2
  refine ⟨?_, by simp [put8, hf]⟩
  simp at hj
  have ho : ∀ (W : World) (i i' : Nat) (u : Value), i ≠ i' → (W.setCell ⟨g, i, none⟩ u).cell? ⟨g, i', none⟩ = W.cell? ⟨g, i', none⟩ := fun W i i' u hne => World.cell?_setCell_other W ⟨g, i, none⟩ ⟨g, i', none⟩ u (fun e => hne (congrArg Addr.off e))
  have hs : ∀ (W : World) (i : Nat) (u : Value), (W.cell? ⟨g, i, none⟩).isSome = true → (W.setCell ⟨g, i, none⟩ u).cell? ⟨g, i, none⟩ = some u := fun W i u hh => World.cell?_setCell_same' W _ u hh
  unfold put8
  match j, hj with
  | 0, _ => rw [ho _ 7 0 _ (by decide), ho _ 6 0 _ (by decide), ho _ 5 0 _ (by decide), ho _ 4 0 _ (by decide), ho _ 3 0 _ (by decide), ho _ 2 0 _ (by decide), ho _ 1 0 _ (by decide), hs _ 0 _ q0]; rfl
  | 1, _ => rw [ho _ 7 1 _ (by decide), ho _ 6 1 _ (by decide), ho _ 5 1 _ (by decide), ho _ 4 1 _ (by decide), ho _ 3 1 _ (by decide), ho _ 2 1 _ (by decide), hs _ 1 _ (by rw [ho _ 0 1 _ (by decide)]; exact q1)]; rfl
  | 2, _ => rw [ho _ 7 2 _ (by decide), ho _ 6 2 _ (by decide), ho _ 5 2 _ (by decide), ho _ 4 2 _ (by decide), ho _ 3 2 _ (by decide), hs _ 2 _ (by rw [ho _ 1 2 _ (by decide), ho _ 0 2 _ (by decide)]; exact q2)]; rfl
  | 3, _ => rw [ho _ 7 3 _ (by decide), ho _ 6 3 _ (by decide), ho _ 5 3 _ (by decide), ho _ 4 3 _ (by decide), hs _ 3 _ (by rw [ho _ 2 3 _ (by decide), ho _ 1 3 _ (by decide), ho _ 0 3 _ (by decide)]; exact q3)]; rfl
  | 4, _ => rw [ho _ 7 4 _ (by decide), ho _ 6 4 _ (by decide), ho _ 5 4 _ (by decide), hs _ 4 _ (by rw [ho _ 3 4 _ (by decide), ho _ 2 4 _ (by decide), ho _ 1 4 _ (by decide), ho _ 0 4 _ (by decide)]; exact q4)]; rfl
  | 5, _ => rw [ho _ 7 5 _ (by decide), ho _ 6 5 _ (by decide), hs _ 5 _ (by rw [ho _ 4 5 _ (by decide), ho _ 3 5 _ (by decide), ho _ 2 5 _ (by decide), ho _ 1 5 _ (by decide), ho _ 0 5 _ (by decide)]; exact q5)]; rfl
  | 6, _ => rw [ho _ 7 6 _ (by decide), hs _ 6 _ (by rw [ho _ 5 6 _ (by decide), ho _ 4 6 _ (by decide), ho _ 3 6 _ (by decide), ho _ 2 6 _ (by decide), ho _ 1 6 _ (by decide), ho _ 0 6 _ (by decide)]; exact q6)]; rfl
  | 7, _ => rw [hs _ 7 _ (by rw [ho _ 6 7 _ (by decide), ho _ 5 7 _ (by decide), ho _ 4 7 _ (by decide), ho _ 3 7 _ (by decide), ho _ 2 7 _ (by decide), ho _ 1 7 _ (by decide), ho _ 0 7 _ (by decide)]; exact q7)]; rfl

theorem put8_grown (w : World) (g : Nat) (a b c d e f p h : Value) : w.grownBy (put8 w g a b c d e f p h) (some g) := by
  have s : ∀ (W : World) (i : Nat) (u : Value), W.grownBy (W.setCell ⟨g, i, none⟩ u) (some g) := fun W i u => ⟨rfl, rfl, rfl, by simp, fun k _ hk => Below.heap_setCell W _ u k (fun e => hk (by rw [e]))⟩
  have t : ∀ {A B C : World}, A.grownBy B (some g) → B.grownBy C (some g) → A.grownBy C (some g) := fun h k => ⟨k.os.trans h.os, k.tape.trans h.tape, k.output.trans h.output, Nat.le_trans h.size k.size, fun i hi hn => (k.block i (Nat.lt_of_lt_of_le hi h.size) hn).trans (h.block i hi hn)⟩
  unfold put8
  exact t (t (t (t (t (t (t (s _ _ _) (s _ _ _)) (s _ _ _)) (s _ _ _)) (s _ _ _)) (s _ _ _)) (s _ _ _)) (s _ _ _)

theorem put8_below (w : World) (g : Nat) (a b c d e f p h : Value) (B : Nat) (hB : B ≤ g) (hs : B ≤ w.heap.size) : Below B w (put8 w g a b c d e f p h) :=
  (Below.refl B w).grown (put8_grown w g a b c d e f p h) hs (fun k hk => by simp at hk; omega)

theorem comp_step (b h : List Int) (k : Nat) (hk : k < 64) (v0 v1 v2 v3 v4 v5 v6 v7 : Int) (hv : compTo (schedTo b 64) h k = [v0, v1, v2, v3, v4, v5, v6, v7]) :
    compTo (schedTo b 64) h (k + 1) = [rnd0 v0 v1 v2 v3 v4 v5 v6 v7 ((kL.getD k 0 + wAt b k) % 4294967296), v0, v1, v2, rnd4 v0 v1 v2 v3 v4 v5 v6 v7 ((kL.getD k 0 + wAt b k) % 4294967296), v4, v5, v6] := by
  rw [compTo, hv, sched_get b 64 k hk]
  rfl

theorem below_of_drew {B : Nat} {w w' : World} (h : Below B w.drew w') : Below B w w' := ⟨h.os, h.tape, h.output, h.size, h.block⟩

theorem after8 {w w2 : World} {g : Nat} {v0 v1 v2 v3 v4 v5 v6 v7 : Int} (h : Words w g [v0, v1, v2, v3, v4, v5, v6, v7]) (hb : Below w.drew.heap.size w.drew w2) (hg : g < w.heap.size) :
    w2.cell? ⟨g, 0, none⟩ = some (.int .u32 v0) ∧ w2.cell? ⟨g, 1, none⟩ = some (.int .u32 v1) ∧ w2.cell? ⟨g, 2, none⟩ = some (.int .u32 v2) ∧ w2.cell? ⟨g, 3, none⟩ = some (.int .u32 v3) ∧
    w2.cell? ⟨g, 4, none⟩ = some (.int .u32 v4) ∧ w2.cell? ⟨g, 5, none⟩ = some (.int .u32 v5) ∧ w2.cell? ⟨g, 6, none⟩ = some (.int .u32 v6) ∧ w2.cell? ⟨g, 7, none⟩ = some (.int .u32 v7) ∧
    (∀ j, j < 8 → w2.frozen? ⟨g, j, none⟩ = false) := by
  have h2 := h.below (below_of_drew hb) hg
  exact ⟨(h2 0 (by simp)).1, (h2 1 (by simp)).1, (h2 2 (by simp)).1, (h2 3 (by simp)).1, (h2 4 (by simp)).1, (h2 5 (by simp)).1, (h2 6 (by simp)).1, (h2 7 (by simp)).1, fun j hj => (h2 j (by simpa using hj)).2⟩

/-- What the world is good for behind a call and eight stores into block n + 1. -/
def NextW (w1 w2 : World) (n : Nat) (f : Nat → Int) : Prop := ∀ a b c d e f' p k : Int,
  Words (put8 w2 (n + 1) (.int .u32 a) (.int .u32 b) (.int .u32 c) (.int .u32 d) (.int .u32 e) (.int .u32 f') (.int .u32 p) (.int .u32 k)) (n + 1) [a, b, c, d, e, f', p, k] ∧
  (∀ j, j < 64 → (put8 w2 (n + 1) (.int .u32 a) (.int .u32 b) (.int .u32 c) (.int .u32 d) (.int .u32 e) (.int .u32 f') (.int .u32 p) (.int .u32 k)).cell? ⟨n, j, none⟩ = some (.int .u32 (f j))) ∧
  Below n w1 (put8 w2 (n + 1) (.int .u32 a) (.int .u32 b) (.int .u32 c) (.int .u32 d) (.int .u32 e) (.int .u32 f') (.int .u32 p) (.int .u32 k)) ∧
  n + 1 < (put8 w2 (n + 1) (.int .u32 a) (.int .u32 b) (.int .u32 c) (.int .u32 d) (.int .u32 e) (.int .u32 f') (.int .u32 p) (.int .u32 k)).heap.size

theorem nextW {w1 wr w2 : World} {n : Nat} {f : Nat → Int} {v : List Int} (hv : v.length = 8) (h : Words wr (n + 1) v) (hw : ∀ j, j < 64 → wr.cell? ⟨n, j, none⟩ = some (.int .u32 (f j))) (hb : Below n w1 wr)
    (hb2 : Below wr.drew.heap.size wr.drew w2) (hs : n + 1 < wr.heap.size) : NextW w1 w2 n f := by
  intro a b c d e f' p k
  have hb3 : Below wr.heap.size wr w2 := below_of_drew hb2
  have h2 : Words w2 (n + 1) v := h.below hb3 hs
  have hsz : n + 1 < w2.heap.size := Nat.lt_of_lt_of_le hs hb3.size
  have hput := put8_below w2 (n + 1) (.int .u32 a) (.int .u32 b) (.int .u32 c) (.int .u32 d) (.int .u32 e) (.int .u32 f') (.int .u32 p) (.int .u32 k) (n + 1) (Nat.le_refl _) (by omega)
  refine ⟨put8_words w2 (n + 1) v hv h2 a b c d e f' p k, fun j hj => ?_, ?_, ?_⟩
  · exact (hput.cell (p := ⟨n, j, none⟩) (by simp)).trans ((hb3.cell (p := ⟨n, j, none⟩) (by show n < wr.heap.size; omega)).trans (hw j hj))
  · exact (hb.trans (hb3.mono (by omega))).trans (hput.mono (by omega))
  · exact Nat.lt_of_lt_of_le hsz hput.size

theorem Words.set {w : World} {g : Nat} {v : List Int} (h : Words w g v) (i : Nat) (hi : i < v.length) (x : Int) : Words (w.setCell ⟨g, i, none⟩ (.int .u32 x)) g (v.set i x) := by
  intro j hj
  have hj' : j < v.length := by simpa using hj
  refine ⟨?_, by simp [(h j hj').2]⟩
  by_cases e : i = j
  · subst e
    rw [World.cell?_setCell_same' _ _ _ (by rw [(h i hi).1]; rfl)]
    simp [List.getD, hi]
  · rw [World.cell?_setCell_other w ⟨g, i, none⟩ ⟨g, j, none⟩ _ (fun q => e (congrArg Addr.off q)), (h j hj').1]
    simp [List.getD, e]

theorem Words.other {w : World} {g g' : Nat} {v : List Int} (h : Words w g v) (i : Nat) (x : Value) (hg : g' ≠ g) : Words (w.setCell ⟨g', i, none⟩ x) g v := fun j hj =>
  ⟨(World.cell?_setCell_other w ⟨g', i, none⟩ ⟨g, j, none⟩ x (fun q => hg (congrArg Addr.block q))).trans (h j hj).1, by simp [(h j hj).2]⟩

theorem Words.drew {w : World} {g : Nat} {v : List Int} (h : Words w g v) : Words w.drew g v := h

/-- The eight words while they are added up: the first k are done. -/
def curL (h v : List Int) (k : Nat) : List Int := (List.range 8).map fun j => if j < k then (h.getD j 0 + v.getD j 0) % 4294967296 else h.getD j 0

theorem curL_length (h v : List Int) (k : Nat) : (curL h v k).length = 8 := by simp [curL]
theorem curL_zero (a0 a1 a2 a3 a4 a5 a6 a7 : Int) (v : List Int) : curL [a0, a1, a2, a3, a4, a5, a6, a7] v 0 = [a0, a1, a2, a3, a4, a5, a6, a7] := by
  simp [curL, List.range_succ]
theorem curL_get (h v : List Int) (k j : Nat) (hj : j < 8) : (curL h v k).getD j 0 = if j < k then (h.getD j 0 + v.getD j 0) % 4294967296 else h.getD j 0 := by
  simp [curL, List.getD, hj]
theorem curL_next (h v : List Int) (k : Nat) (hk : k < 8) : (curL h v k).set k ((h.getD k 0 + v.getD k 0) % 4294967296) = curL h v (k + 1) := by
  apply List.ext_getElem
  · simp [curL]
  · intro j h1 h2
    simp [curL] at h1 h2
    rw [List.getElem_set]
    simp only [curL, List.getElem_map, List.getElem_range]
    by_cases e : k = j
    · subst e; simp
    · rw [if_neg e]
      by_cases q : j < k
      · rw [if_pos q, if_pos (by omega)]
      · rw [if_neg q, if_neg (by omega)]
theorem curL_end (h b : List Int) : curL h (compTo (schedTo b 64) h 64) 8 = blockL h b := by
  unfold curL blockL
  apply List.map_congr_left
  intro j hj
  rw [if_pos (List.mem_range.1 hj)]

end Go.Proofs.Ytldgkpnlplfopaa.Plain
