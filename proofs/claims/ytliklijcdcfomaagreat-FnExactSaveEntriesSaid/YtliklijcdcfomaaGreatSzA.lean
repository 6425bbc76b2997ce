/- Texts of one kind, put together. -/
import Derived.Test.YtliklijcdcfomaaGreatPlain
import Derived.Laws.Rows
import Derived.Laws.Tables
import Derived.Laws.CopyRow
import Derived.Laws.CopyOwn

/- SHA-256 as plain functions on words that are numbers below 2 to 32. -/
namespace Go.Proofs.YtliklijcdcfomaaGreat.Plain
open Go Go.RowKit
set_option linter.unusedVariables false

def bS1 (e : Int) : Int := bits .xor .u32 (bits .xor .u32 (rotI e 6) (rotI e 11)) (rotI e 25)
def bS0 (a : Int) : Int := bits .xor .u32 (bits .xor .u32 (rotI a 2) (rotI a 13)) (rotI a 22)
def lS0 (x : Int) : Int := bits .xor .u32 (bits .xor .u32 (rotI x 7) (rotI x 18)) (x / 8)
def lS1 (y : Int) : Int := bits .xor .u32 (bits .xor .u32 (rotI y 17) (rotI y 19)) (y / 1024)
def chI (e f g : Int) : Int := bits .xor .u32 (bits .and .u32 e f) (bits .and .u32 (bits .xor .u32 IntKind.u32.max e) g)
def majI (a b c : Int) : Int := bits .xor .u32 (bits .xor .u32 (bits .and .u32 a b) (bits .and .u32 a c)) (bits .and .u32 b c)

/-- A value that is a word. -/
def U (x : Int) : Value := .int .u32 x
def Word (x : Int) : Prop := 0 ≤ x ∧ x < 4294967296

/-- One round: the eight words behind it. -/
def rnd0 (a b c d e f g h x : Int) : Int := (h + bS1 e + chI e f g + x + (bS0 a + majI a b c)) % 4294967296
def rnd4 (a b c d e f g h x : Int) : Int := (d + (h + bS1 e + chI e f g + x)) % 4294967296

def rndL (v : List Int) (x : Int) : List Int :=
  [rnd0 (v.getD 0 0) (v.getD 1 0) (v.getD 2 0) (v.getD 3 0) (v.getD 4 0) (v.getD 5 0) (v.getD 6 0) (v.getD 7 0) x, v.getD 0 0, v.getD 1 0, v.getD 2 0,
   rnd4 (v.getD 0 0) (v.getD 1 0) (v.getD 2 0) (v.getD 3 0) (v.getD 4 0) (v.getD 5 0) (v.getD 6 0) (v.getD 7 0) x, v.getD 4 0, v.getD 5 0, v.getD 6 0]

/-- The word of four bytes, the first one highest, as both programs put it together. -/
def hiI (a b c d : Int) : Int := bits .or .u32 (bits .or .u32 (bits .or .u32 (a * 16777216) (b * 65536)) (c * 256)) d

/-- The first t words of a block's schedule. -/
def schedTo (b : List Int) : Nat → List Int
  | 0 => []
  | t + 1 => schedTo b t ++ [if t < 16 then hiI (b.getD (4 * t) 0) (b.getD (4 * t + 1) 0) (b.getD (4 * t + 2) 0) (b.getD (4 * t + 3) 0)
      else (lS1 ((schedTo b t).getD (t - 2) 0) + (schedTo b t).getD (t - 7) 0 + lS0 ((schedTo b t).getD (t - 15) 0) + (schedTo b t).getD (t - 16) 0) % 4294967296]

theorem schedTo_length (b : List Int) (t : Nat) : (schedTo b t).length = t := by
  induction t with
  | zero => rfl
  | succ t ih => simp [schedTo, ih]

theorem bits_word (op : BinOp) (x y : Int) : Word (bits op .u32 x y) := by
  unfold Word bits
  simp only
  rw [IntKind.wrap_u32']
  omega

theorem schedTo_word (b : List Int) (t : Nat) : ∀ x ∈ schedTo b t, Word x := by
  induction t with
  | zero => intro x hx; simp [schedTo] at hx
  | succ t ih =>
    intro x hx
    rw [schedTo, List.mem_append] at hx
    rcases hx with hx | hx
    · exact ih x hx
    · rw [List.mem_singleton] at hx
      subst hx
      split
      · exact bits_word _ _ _
      · unfold Word; omega

/-- The words of the rounds' constants. -/
def kL : List Int := [
  0x428a2f98, 0x71374491, 0xb5c0fbcf, 0xe9b5dba5, 0x3956c25b, 0x59f111f1, 0x923f82a4, 0xab1c5ed5,
  0xd807aa98, 0x12835b01, 0x243185be, 0x550c7dc3, 0x72be5d74, 0x80deb1fe, 0x9bdc06a7, 0xc19bf174,
  0xe49b69c1, 0xefbe4786, 0x0fc19dc6, 0x240ca1cc, 0x2de92c6f, 0x4a7484aa, 0x5cb0a9dc, 0x76f988da,
  0x983e5152, 0xa831c66d, 0xb00327c8, 0xbf597fc7, 0xc6e00bf3, 0xd5a79147, 0x06ca6351, 0x14292967,
  0x27b70a85, 0x2e1b2138, 0x4d2c6dfc, 0x53380d13, 0x650a7354, 0x766a0abb, 0x81c2c92e, 0x92722c85,
  0xa2bfe8a1, 0xa81a664b, 0xc24b8b70, 0xc76c51a3, 0xd192e819, 0xd6990624, 0xf40e3585, 0x106aa070,
  0x19a4c116, 0x1e376c08, 0x2748774c, 0x34b0bcb5, 0x391c0cb3, 0x4ed8aa4a, 0x5b9cca4f, 0x682e6ff3,
  0x748f82ee, 0x78a5636f, 0x84c87814, 0x8cc70208, 0x90befffa, 0xa4506ceb, 0xbef9a3f7, 0xc67178f2]

/-- The eight words behind t rounds. -/
def compTo (W v : List Int) : Nat → List Int
  | 0 => v
  | t + 1 => rndL (compTo W v t) ((kL.getD t 0 + W.getD t 0) % 4294967296)

/-- The eight words behind a block. -/
def blockL (h b : List Int) : List Int := (List.range 8).map fun i => (h.getD i 0 + (compTo (schedTo b 64) h 64).getD i 0) % 4294967296

theorem compTo_length (W v : List Int) (t : Nat) (hv : v.length = 8) : (compTo W v t).length = 8 := by
  cases t with
  | zero => exact hv
  | succ t => rfl

theorem word_mod (x : Int) : Word (x % 4294967296) := by unfold Word; omega

theorem getD_word {l : List Int} (h : ∀ x ∈ l, Word x) (i : Nat) : Word (l.getD i 0) := by
  by_cases hi : i < l.length
  · have : l.getD i 0 = l[i] := by simp [List.getD, List.getElem?_eq_getElem hi]
    rw [this]; exact h _ (List.getElem_mem hi)
  · have : l.getD i 0 = 0 := by simp [List.getD, List.getElem?_eq_none (by omega : l.length ≤ i)]
    rw [this]; unfold Word; omega

theorem compTo_word (W v : List Int) (t : Nat) (hv : ∀ x ∈ v, Word x) : ∀ x ∈ compTo W v t, Word x := by
  induction t with
  | zero => exact hv
  | succ t ih =>
    intro x hx
    simp only [compTo, rndL, List.mem_cons, List.not_mem_nil, or_false] at hx
    rcases hx with rfl | rfl | rfl | rfl | rfl | rfl | rfl | rfl
    · exact word_mod _
    · exact getD_word ih 0
    · exact getD_word ih 1
    · exact getD_word ih 2
    · exact word_mod _
    · exact getD_word ih 4
    · exact getD_word ih 5
    · exact getD_word ih 6

theorem blockL_length (h b : List Int) : (blockL h b).length = 8 := by simp [blockL]
theorem blockL_word (h b : List Int) : ∀ x ∈ blockL h b, Word x := by
  intro x hx
  simp only [blockL, List.mem_map] at hx
  obtain ⟨i, _, rfl⟩ := hx
  exact word_mod _

end Go.Proofs.YtliklijcdcfomaaGreat.Plain


/- Rows of words in memory, and the schedule as a function of its place. -/
namespace Go.Proofs.YtliklijcdcfomaaGreat.Plain
open Go Go.RowKit
set_option linter.unusedVariables false

/-- The row arr, of n values, holds f in its first k places. -/
def RowTo (arr : Array Value) (n : Nat) (f : Nat → Int) (k : Nat) : Prop := arr.size = n ∧ arr.all (·.oneCell') = true ∧ ∀ j, j < k → arr[j]? = some (.int .u32 (f j))

theorem RowTo.next {arr : Array Value} {n : Nat} {f : Nat → Int} {k : Nat} (h : RowTo arr n f k) (hk : k < n) (x : Int) (hx : x = f k) : RowTo (arr.setIfInBounds k (.int .u32 x)) n f (k + 1) := by
  subst hx
  obtain ⟨h1, h2, h3⟩ := h
  refine ⟨by simpa using h1, ?_, ?_⟩
  · rw [Array.all_eq_true] at h2 ⊢
    intro i hi
    rw [Array.getElem_setIfInBounds]
    split
    · rfl
    · exact h2 i (by simpa using hi)
  · intro j hj
    rw [Array.getElem?_setIfInBounds]
    by_cases e : k = j
    · subst e; simp [h1, hk]
    · rw [if_neg e]; exact h3 j (by omega)

def wAt (b : List Int) (j : Nat) : Int := (schedTo b (j + 1)).getD j 0

theorem sched_get (b : List Int) (t : Nat) : ∀ j, j < t → (schedTo b t).getD j 0 = wAt b j := by
  induction t with
  | zero => intro j h; omega
  | succ t ih =>
    intro j h
    by_cases e : j = t
    · subst e; rfl
    · rw [← ih j (by omega)]
      rw [schedTo]
      have hl := schedTo_length b t
      simp [List.getD, List.getElem?_append_left (show j < (schedTo b t).length by omega)]

theorem wAt_low (b : List Int) (t : Nat) (h : t < 16) : wAt b t = hiI (b.getD (4 * t) 0) (b.getD (4 * t + 1) 0) (b.getD (4 * t + 2) 0) (b.getD (4 * t + 3) 0) := by
  unfold wAt
  rw [schedTo, if_pos h]
  have hl := schedTo_length b t
  simp [List.getD, hl]

theorem wAt_high (b : List Int) (t : Nat) (h : ¬ t < 16) : wAt b t = (lS1 (wAt b (t - 2)) + wAt b (t - 7) + lS0 (wAt b (t - 15)) + wAt b (t - 16)) % 4294967296 := by
  have e1 := sched_get b t (t - 2) (by omega)
  have e2 := sched_get b t (t - 7) (by omega)
  have e3 := sched_get b t (t - 15) (by omega)
  have e4 := sched_get b t (t - 16) (by omega)
  rw [← e1, ← e2, ← e3, ← e4]
  conv => lhs; unfold wAt
  rw [schedTo, if_neg h]
  have hl := schedTo_length b t
  simp [List.getD, hl]

theorem wAt_word (b : List Int) (t : Nat) : Word (wAt b t) := getD_word (schedTo_word b (t + 1)) t

/-- A row of bytes. -/
def bytesV (b : List Int) : Array Value := (b.map (Value.int .u8)).toArray
theorem bytesV_get (b : List Int) (j : Nat) (h : j < b.length) : (bytesV b)[j]? = some (.int .u8 (b.getD j 0)) := by
  simp [bytesV, List.getD, List.getElem?_eq_getElem h]
def ByteL (b : List Int) : Prop := b.length = 64 ∧ ∀ j, 0 ≤ b.getD j 0 ∧ b.getD j 0 < 256

theorem h_new (w : World) (o : Obj) {n : Nat} (hn : n = w.heap.size) : (w.alloc o).heap[n]? = some o := by subst hn; exact (MapKept.heap_alloc w o).1
theorem h_old (w : World) (o : Obj) {n : Nat} (hn : n < w.heap.size) : (w.alloc o).heap[n]? = w.heap[n]? := Below.heap_alloc w o n hn

end Go.Proofs.YtliklijcdcfomaaGreat.Plain


/- Eight words in memory: stored one by one. -/
namespace Go.Proofs.YtliklijcdcfomaaGreat.Plain
open Go Go.RowKit
set_option linter.unusedVariables false

/-- The cells of block g from its head on hold the words v; they may be written. -/
def Words (w : World) (g : Nat) (v : List Int) : Prop := ∀ j, j < v.length → w.cell? ⟨g, j, none⟩ = some (.int .u32 (v.getD j 0)) ∧ w.frozen? ⟨g, j, none⟩ = false

theorem Words.below {w w' : World} {g B : Nat} {v : List Int} (h : Words w g v) (hb : Below B w w') (hg : g < B) : Words w' g v := fun j hj =>
  ⟨(hb.cell (p := ⟨g, j, none⟩) hg).trans (h j hj).1, (hb.frozen (p := ⟨g, j, none⟩) hg).trans (h j hj).2⟩

def wordsV (v : List Int) : Array Value := (v.map (Value.int .u32)).toArray
theorem words_of_block {w : World} {g : Nat} {v : List Int} {t : TypeId} (h : w.heap[g]? = some (.cells (wordsV v) t (0, 0))) : Words w g v := fun j hj =>
  ⟨(cell_of_row w g j _ t _ h).trans (by simp [wordsV, List.getD, List.getElem?_eq_getElem hj]), frozen_of_row w g j _ t h⟩

def put8 (w : World) (g : Nat) (a b c d e f p h : Value) : World :=
  (((((((w.setCell ⟨g, 0, none⟩ a).setCell ⟨g, 1, none⟩ b).setCell ⟨g, 2, none⟩ c).setCell ⟨g, 3, none⟩ d).setCell ⟨g, 4, none⟩ e).setCell ⟨g, 5, none⟩ f).setCell ⟨g, 6, none⟩ p).setCell ⟨g, 7, none⟩ h

theorem list8 {v : List Int} (h : v.length = 8) : ∃ a b c d e f g k, v = [a, b, c, d, e, f, g, k] := by
  match v, h with
  | [a, b, c, d, e, f, g, k], _ => exact ⟨a, b, c, d, e, f, g, k, rfl⟩

theorem put8_words (w : World) (g : Nat) (v : List Int) (hv : v.length = 8) (h : Words w g v) (a b c d e f p k : Int) :
    Words (put8 w g (.int .u32 a) (.int .u32 b) (.int .u32 c) (.int .u32 d) (.int .u32 e) (.int .u32 f) (.int .u32 p) (.int .u32 k)) g [a, b, c, d, e, f, p, k] := by
  have q : ∀ j, j < 8 → (w.cell? ⟨g, j, none⟩).isSome = true := fun j hj => by rw [(h j (by omega)).1]; rfl
  have q0 := q 0 (by omega)
  have q1 := q 1 (by omega)
  have q2 := q 2 (by omega)
  have q3 := q 3 (by omega)
  have q4 := q 4 (by omega)
  have q5 := q 5 (by omega)
  have q6 := q 6 (by omega)
  have q7 := q 7 (by omega)
  intro j hj
  have hf := (h j (by simp at hj; omega)).2
  refine ⟨?_, by simp [put8, hf]⟩
  simp at hj
  have ho : ∀ (W : World) (i i' : Nat) (u : Value), i ≠ i' → (W.setCell ⟨g, i, none⟩ u).cell? ⟨g, i', none⟩ = W.cell? ⟨g, i', none⟩ := fun W i i' u hne => World.cell?_setCell_other W ⟨g, i, none⟩ ⟨g, i', none⟩ u (fun e => hne (congrArg Addr.off e))
  have hs : ∀ (W : World) (i : Nat) (u : Value), (W.cell? ⟨g, i, none⟩).isSome = true → (W.setCell ⟨g, i, none⟩ u).cell? ⟨g, i, none⟩ = some u := fun W i u hh => World.cell?_setCell_same' W _ u hh
  unfold put8
  match j, hj with
  | 0, _ => rw [ho _ 7 0 _ (by decide), ho _ 6 0 _ (by decide), ho _ 5 0 _ (by decide), ho _ 4 0 _ (by decide), ho _ 3 0 _ (by decide), ho _ 2 0 _ (by decide), ho _ 1 0 _ (by decide), hs _ 0 _ q0]; rfl
  | 1, _ => rw [ho _ 7 1 _ (by decide), ho _ 6 1 _ (by decide), ho _ 5 1 _ (by decide), ho _ 4 1 _ (by decide), ho _ 3 1 _ (by decide), ho _ 2 1 _ (by decide), hs _ 1 _ (by rw [ho _ 0 1 _ (by decide)]; exact q1)]; rfl
  | 2, _ => rw [ho _ 7 2 _ (by decide), ho _ 6 2 _ (by decide), ho _ 5 2 _ (by decide), ho _ 4 2 _ (by decide), ho _ 3 2 _ (by decide), hs _ 2 _ (by rw [ho _ 1 2 _ (by decide), ho _ 0 2 _ (by decide)]; exact q2)]; rfl
  | 3, _ => rw [ho _ 7 3 _ (by decide), ho _ 6 3 _ (by decide), ho _ 5 3 _ (by decide), ho _ 4 3 _ (by decide), hs _ 3 _ (by rw [ho _ 2 3 _ (by decide), ho _ 1 3 _ (by decide), ho _ 0 3 _ (by decide)]; exact q3)]; rfl
  | 4, _ => rw [ho _ 7 4 _ (by decide), ho _ 6 4 _ (by decide), ho _ 5 4 _ (by decide), hs _ 4 _ (by rw [ho _ 3 4 _ (by decide), ho _ 2 4 _ (by decide), ho _ 1 4 _ (by decide), ho _ 0 4 _ (by decide)]; exact q4)]; rfl
  | 5, _ => rw [ho _ 7 5 _ (by decide), ho _ 6 5 _ (by decide), hs _ 5 _ (by rw [ho _ 4 5 _ (by decide), ho _ 3 5 _ (by decide), ho _ 2 5 _ (by decide), ho _ 1 5 _ (by decide), ho _ 0 5 _ (by decide)]; exact q5)]; rfl
  | 6, _ => rw [ho _ 7 6 _ (by decide), hs _ 6 _ (by rw [ho _ 5 6 _ (by decide), ho _ 4 6 _ (by decide), ho _ 3 6 _ (by decide), ho _ 2 6 _ (by decide), ho _ 1 6 _ (by decide), ho _ 0 6 _ (by decide)]; exact q6)]; rfl
  | 7, _ => rw [hs _ 7 _ (by rw [ho _ 6 7 _ (by decide), ho _ 5 7 _ (by decide), ho _ 4 7 _ (by decide), ho _ 3 7 _ (by decide), ho _ 2 7 _ (by decide), ho _ 1 7 _ (by decide), ho _ 0 7 _ (by decide)]; exact q7)]; rfl

theorem put8_grown (w : World) (g : Nat) (a b c d e f p h : Value) : w.grownBy (put8 w g a b c d e f p h) (some g) := by
  have s : ∀ (W : World) (i : Nat) (u : Value), W.grownBy (W.setCell ⟨g, i, none⟩ u) (some g) := fun W i u => ⟨rfl, rfl, rfl, by simp, fun k _ hk => Below.heap_setCell W _ u k (fun e => hk (by rw [e]))⟩
  have t : ∀ {A B C : World}, A.grownBy B (some g) → B.grownBy C (some g) → A.grownBy C (some g) := fun h k => ⟨k.os.trans h.os, k.tape.trans h.tape, k.output.trans h.output, Nat.le_trans h.size k.size, fun i hi hn => (k.block i (Nat.lt_of_lt_of_le hi h.size) hn).trans (h.block i hi hn)⟩
  unfold put8
  exact t (t (t (t (t (t (t (s _ _ _) (s _ _ _)) (s _ _ _)) (s _ _ _)) (s _ _ _)) (s _ _ _)) (s _ _ _)) (s _ _ _)

theorem put8_below (w : World) (g : Nat) (a b c d e f p h : Value) (B : Nat) (hB : B ≤ g) (hs : B ≤ w.heap.size) : Below B w (put8 w g a b c d e f p h) :=
  (Below.refl B w).grown (put8_grown w g a b c d e f p h) hs (fun k hk => by simp at hk; omega)

theorem comp_step (b h : List Int) (k : Nat) (hk : k < 64) (v0 v1 v2 v3 v4 v5 v6 v7 : Int) (hv : compTo (schedTo b 64) h k = [v0, v1, v2, v3, v4, v5, v6, v7]) :
    compTo (schedTo b 64) h (k + 1) = [rnd0 v0 v1 v2 v3 v4 v5 v6 v7 ((kL.getD k 0 + wAt b k) % 4294967296), v0, v1, v2, rnd4 v0 v1 v2 v3 v4 v5 v6 v7 ((kL.getD k 0 + wAt b k) % 4294967296), v4, v5, v6] := by
  rw [compTo, hv, sched_get b 64 k hk]
  rfl

theorem below_of_drew {B : Nat} {w w' : World} (h : Below B w.drew w') : Below B w w' := ⟨h.os, h.tape, h.output, h.size, h.block⟩

theorem after8 {w w2 : World} {g : Nat} {v0 v1 v2 v3 v4 v5 v6 v7 : Int} (h : Words w g [v0, v1, v2, v3, v4, v5, v6, v7]) (hb : Below w.drew.heap.size w.drew w2) (hg : g < w.heap.size) :
    w2.cell? ⟨g, 0, none⟩ = some (.int .u32 v0) ∧ w2.cell? ⟨g, 1, none⟩ = some (.int .u32 v1) ∧ w2.cell? ⟨g, 2, none⟩ = some (.int .u32 v2) ∧ w2.cell? ⟨g, 3, none⟩ = some (.int .u32 v3) ∧
    w2.cell? ⟨g, 4, none⟩ = some (.int .u32 v4) ∧ w2.cell? ⟨g, 5, none⟩ = some (.int .u32 v5) ∧ w2.cell? ⟨g, 6, none⟩ = some (.int .u32 v6) ∧ w2.cell? ⟨g, 7, none⟩ = some (.int .u32 v7) ∧
    (∀ j, j < 8 → w2.frozen? ⟨g, j, none⟩ = false) := by
  have h2 := h.below (below_of_drew hb) hg
  exact ⟨(h2 0 (by simp)).1, (h2 1 (by simp)).1, (h2 2 (by simp)).1, (h2 3 (by simp)).1, (h2 4 (by simp)).1, (h2 5 (by simp)).1, (h2 6 (by simp)).1, (h2 7 (by simp)).1, fun j hj => (h2 j (by simpa using hj)).2⟩

/-- What the world is good for behind a call and eight stores into block n + 1. -/
def NextW (w1 w2 : World) (n : Nat) (f : Nat → Int) : Prop := ∀ a b c d e f' p k : Int,
  Words (put8 w2 (n + 1) (.int .u32 a) (.int .u32 b) (.int .u32 c) (.int .u32 d) (.int .u32 e) (.int .u32 f') (.int .u32 p) (.int .u32 k)) (n + 1) [a, b, c, d, e, f', p, k] ∧
  (∀ j, j < 64 → (put8 w2 (n + 1) (.int .u32 a) (.int .u32 b) (.int .u32 c) (.int .u32 d) (.int .u32 e) (.int .u32 f') (.int .u32 p) (.int .u32 k)).cell? ⟨n, j, none⟩ = some (.int .u32 (f j))) ∧
  Below n w1 (put8 w2 (n + 1) (.int .u32 a) (.int .u32 b) (.int .u32 c) (.int .u32 d) (.int .u32 e) (.int .u32 f') (.int .u32 p) (.int .u32 k)) ∧
  n + 1 < (put8 w2 (n + 1) (.int .u32 a) (.int .u32 b) (.int .u32 c) (.int .u32 d) (.int .u32 e) (.int .u32 f') (.int .u32 p) (.int .u32 k)).heap.size

theorem nextW {w1 wr w2 : World} {n : Nat} {f : Nat → Int} {v : List Int} (hv : v.length = 8) (h : Words wr (n + 1) v) (hw : ∀ j, j < 64 → wr.cell? ⟨n, j, none⟩ = some (.int .u32 (f j))) (hb : Below n w1 wr)
    (hb2 : Below wr.drew.heap.size wr.drew w2) (hs : n + 1 < wr.heap.size) : NextW w1 w2 n f := by
  intro a b c d e f' p k
  have hb3 : Below wr.heap.size wr w2 := below_of_drew hb2
  have h2 : Words w2 (n + 1) v := h.below hb3 hs
  have hsz : n + 1 < w2.heap.size := Nat.lt_of_lt_of_le hs hb3.size
  have hput := put8_below w2 (n + 1) (.int .u32 a) (.int .u32 b) (.int .u32 c) (.int .u32 d) (.int .u32 e) (.int .u32 f') (.int .u32 p) (.int .u32 k) (n + 1) (Nat.le_refl _) (by omega)
  refine ⟨put8_words w2 (n + 1) v hv h2 a b c d e f' p k, fun j hj => ?_, ?_, ?_⟩
  · exact (hput.cell (p := ⟨n, j, none⟩) (by simp)).trans ((hb3.cell (p := ⟨n, j, none⟩) (by show n < wr.heap.size; omega)).trans (hw j hj))
  · exact (hb.trans (hb3.mono (by omega))).trans (hput.mono (by omega))
  · exact Nat.lt_of_lt_of_le hsz hput.size

theorem Words.set {w : World} {g : Nat} {v : List Int} (h : Words w g v) (i : Nat) (hi : i < v.length) (x : Int) : Words (w.setCell ⟨g, i, none⟩ (.int .u32 x)) g (v.set i x) := by
  intro j hj
  have hj' : j < v.length := by simpa using hj
  refine ⟨?_, by simp [(h j hj').2]⟩
  by_cases e : i = j
  · subst e
    rw [World.cell?_setCell_same' _ _ _ (by rw [(h i hi).1]; rfl)]
    simp [List.getD, hi]
  · rw [World.cell?_setCell_other w ⟨g, i, none⟩ ⟨g, j, none⟩ _ (fun q => e (congrArg Addr.off q)), (h j hj').1]
    simp [List.getD, e]

theorem Words.other {w : World} {g g' : Nat} {v : List Int} (h : Words w g v) (i : Nat) (x : Value) (hg : g' ≠ g) : Words (w.setCell ⟨g', i, none⟩ x) g v := fun j hj =>
  ⟨(World.cell?_setCell_other w ⟨g', i, none⟩ ⟨g, j, none⟩ x (fun q => hg (congrArg Addr.block q))).trans (h j hj).1, by simp [(h j hj).2]⟩

theorem Words.drew {w : World} {g : Nat} {v : List Int} (h : Words w g v) : Words w.drew g v := h

/-- The eight words while they are added up: the first k are done. -/
def curL (h v : List Int) (k : Nat) : List Int := (List.range 8).map fun j => if j < k then (h.getD j 0 + v.getD j 0) % 4294967296 else h.getD j 0

theorem curL_length (h v : List Int) (k : Nat) : (curL h v k).length = 8 := by simp [curL]
theorem curL_zero (a0 a1 a2 a3 a4 a5 a6 a7 : Int) (v : List Int) : curL [a0, a1, a2, a3, a4, a5, a6, a7] v 0 = [a0, a1, a2, a3, a4, a5, a6, a7] := by
  simp [curL, List.range_succ]
theorem curL_get (h v : List Int) (k j : Nat) (hj : j < 8) : (curL h v k).getD j 0 = if j < k then (h.getD j 0 + v.getD j 0) % 4294967296 else h.getD j 0 := by
  simp [curL, List.getD, hj]
theorem curL_next (h v : List Int) (k : Nat) (hk : k < 8) : (curL h v k).set k ((h.getD k 0 + v.getD k 0) % 4294967296) = curL h v (k + 1) := by
  apply List.ext_getElem
  · simp [curL]
  · intro j h1 h2
    simp [curL] at h1 h2
    rw [List.getElem_set]
    simp only [curL, List.getElem_map, List.getElem_range]
    by_cases e : k = j
    · subst e; simp
    · rw [if_neg e]
      by_cases q : j < k
      · rw [if_pos q, if_pos (by omega)]
      · rw [if_neg q, if_neg (by omega)]
theorem curL_end (h b : List Int) : curL h (compTo (schedTo b 64) h 64) 8 = blockL h b := by
  unfold curL blockL
  apply List.map_congr_left
  intro j hj
  rw [if_pos (List.mem_range.1 hj)]

end Go.Proofs.YtliklijcdcfomaaGreat.Plain


/- A text's bytes as numbers, and copy from a text. -/
namespace Go.Proofs.YtliklijcdcfomaaGreat.Plain
open Go Go.RowKit
set_option linter.unusedVariables false

def bL (s : ByteArray) : List Int := s.data.toList.map fun b => ((b.toNat : Nat) : Int)
theorem bL_length (s : ByteArray) : (bL s).length = s.size := by simp [bL]
theorem bL_byte (s : ByteArray) : ∀ j, 0 ≤ (bL s).getD j 0 ∧ (bL s).getD j 0 < 256 := by
  intro j
  unfold bL
  by_cases h : j < s.data.toList.length
  · have := (s.data.toList[j]).toNat_lt
    simp only [List.getD, List.getElem?_map, List.getElem?_eq_getElem h, Option.map_some, Option.getD_some]
    omega
  · simp only [List.getD, List.getElem?_map, List.getElem?_eq_none (by omega : s.data.toList.length ≤ j), Option.map_none, Option.getD_none]
    omega

theorem run_copy_string {P : Program} (w : World) (dT sT ty elem : TypeId) (g o dLen dCap : Nat) (s : ByteArray) (cur : Array Value) (t : TypeId)
    (hu : P.underlying dT = some (.slice elem)) (hs : (P.info? elem).map (·.size) = some 1) (hg : w.heap[g]? = some (.cells cur t (0, 0))) (n : Nat) (hm : Nat.min s.size dLen = n) (hfit : o + n ≤ cur.size) :
    (Builtin.copy_ #[dT, sT] ty #[.slice (some ⟨g, o, none⟩) dLen dCap, .string s]).run P w =
      .ok (goInt n) (w.setRow g (splice cur.toList o (((bL s).take n).map (Value.int .u8))).toArray) := by
  have hns : n ≤ s.size := by rw [← hm]; exact Nat.min_le_left _ _
  have hst := run_storeCells_at P g o t (((bL s).take n).map (Value.int .u8)) 0 cur w hg (by simp [bL_length]; omega) (fun v hv => by obtain ⟨x, _, rfl⟩ := List.mem_map.1 hv; rfl)
  cases hq : P.info? elem with
  | none => simp [hq] at hs
  | some i =>
    have hi : i.size = 1 := by simpa [hq] using hs
    simp only [Builtin.copy_]
    simp [run_underlying hu, Builtin.lenOf, Builtin.firstCells, sizeOf, typeInfo, hq, hm, Sem.run_pure]
    have e2 : List.take n (List.map (fun b : UInt8 => Value.int .u8 ((b.toNat : Nat) : Int)) s.data.toList) = ((bL s).take n).map (Value.int .u8) := by
      unfold bL
      rw [List.map_take, List.map_map]
      rfl
    rw [e2, hst]
    simp [splice]

theorem splice_grown {w : World} {g : Nat} (cs : Array Value) : w.grownBy (w.setRow g cs) (some g) :=
  ⟨rfl, rfl, rfl, by simp, fun k _ hk => setRow_other w g k cs (fun e => hk (by rw [e]))⟩

theorem wpList_copy_string {P : Program} {w : World} {ops : Array Oper} {rest : List Oper} {o : Oper} {a : Act} {Q : Exit → Act → World → Prop} (hgd : o.guard = none) (d x : Operand) (dT sT : TypeId)
    (ho : o.op = .call { callee := .builtin .copy, args := #[d, x], argTypes := #[dT, sT] }) (elem : TypeId) (hu : P.underlying dT = some (.slice elem)) (hsz : (P.info? elem).map (·.size) = some 1)
    (g off dLen dCap : Nat) (s : ByteArray) (hd : a.eval d = .slice (some ⟨g, off, none⟩) dLen dCap) (hs : a.eval x = .string s)
    (cur : Array Value) (t : TypeId) (hg : w.heap[g]? = some (.cells cur t (0, 0))) (n : Nat) (hm : Nat.min s.size dLen = n) (hfit : off + n ≤ cur.size)
    (h : ∀ w', w'.heap[g]? = some (.cells (splice cur.toList off (((bL s).take n).map (Value.int .u8))).toArray t (0, 0)) → w.grownBy w' (some g) → w'.heap.size = w.heap.size → wpList P ops Q rest (a.put o.dst (goInt n)) w') : wpList P ops Q (o :: rest) a w := by
  refine wpList_plain hgd fun K hK => ?_
  have hrun := run_copy_string (P := P) w dT sT o.type elem g off dLen dCap s cur t hu hsz hg n hm hfit
  unfold Oper.wp
  simp only [execOp, ho]
  simp [resolve, invoke, builtin, hd, hs, hrun, Result.andThen, -List.map_take]
  exact hK _ _ (h _ (setRow_heap w g _ _ t _ hg) (splice_grown _) (by simp))

end Go.Proofs.YtliklijcdcfomaaGreat.Plain

