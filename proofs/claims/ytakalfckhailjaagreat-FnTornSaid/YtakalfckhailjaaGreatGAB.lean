/- Texts of one kind, put together. -/
import Derived.Test.YtakalfckhailjaaGreatGAA
import Derived.Laws.Rows
import Derived.Laws.Tables
import Derived.Laws.CopyRow
import Derived.Laws.CopyOwn
import Derived.Deep.AppendLies
import Derived.Laws.OwnMore
import Derived.Laws.MakeOwn
import Derived.Lib.SmallJoins
import Derived.ChangeSame

/- Rows of words in memory, and the schedule as a function of its place. -/
namespace Go.Proofs.YtakalfckhailjaaGreat.Plain
open Go Go.RowKit
set_option linter.unusedVariables false

/-- The row arr, of n values, holds f in its first k places. -/
def RowTo (arr : Array Value) (n : Nat) (f : Nat → Int) (k : Nat) : Prop := arr.size = n ∧ arr.all (·.oneCell') = true ∧ ∀ j, j < k → arr[j]? = some (.int .u32 (f j))

theorem RowTo.next {arr : Array Value} {n : Nat} {f : Nat → Int} {k : Nat} (h : RowTo arr n f k) (hk : k < n) (x : Int) (hx : x = f k) : RowTo (arr.setIfInBounds k (.int .u32 x)) n f (k + 1) := by
  subst hx
  obtain ⟨h1, h2, h3⟩ := h
  refine ⟨by simpa using h1, ?_, ?_⟩
  · rw [Array.all_eq_true] at h2 ⊢
    intro i hi
    rw [Array.getElem_setIfInBounds]
    split
    · rfl
    · exact h2 i (by simpa using hi)
  · intro j hj
    rw [Array.getElem?_setIfInBounds]
    by_cases e : k = j
    · subst e; simp [h1, hk]
    · rw [if_neg e]; exact h3 j (by omega)

theorem h_new (w : World) (o : Obj) {n : Nat} (hn : n = w.heap.size) : (w.alloc o).heap[n]? = some o := by subst hn; exact (MapKept.heap_alloc w o).1
theorem h_old (w : World) (o : Obj) {n : Nat} (hn : n < w.heap.size) : (w.alloc o).heap[n]? = w.heap[n]? := Below.heap_alloc w o n hn

end Go.Proofs.YtakalfckhailjaaGreat.Plain


/- Eight words in memory: stored one by one. -/
namespace Go.Proofs.YtakalfckhailjaaGreat.Plain
open Go Go.RowKit
set_option linter.unusedVariables false

/-- The cells of block g from its head on hold the words v; they may be written. -/
def Words (w : World) (g : Nat) (v : List Int) : Prop := ∀ j, j < v.length → w.cell? ⟨g, j, none⟩ = some (.int .u32 (v.getD j 0)) ∧ w.frozen? ⟨g, j, none⟩ = false

theorem Words.below {w w' : World} {g B : Nat} {v : List Int} (h : Words w g v) (hb : Below B w w') (hg : g < B) : Words w' g v := fun j hj =>
  ⟨(hb.cell (p := ⟨g, j, none⟩) hg).trans (h j hj).1, (hb.frozen (p := ⟨g, j, none⟩) hg).trans (h j hj).2⟩

theorem Words.set {w : World} {g : Nat} {v : List Int} (h : Words w g v) (i : Nat) (hi : i < v.length) (x : Int) : Words (w.setCell ⟨g, i, none⟩ (.int .u32 x)) g (v.set i x) := by
  intro j hj
  have hj' : j < v.length := by simpa using hj
  refine ⟨?_, by simp [(h j hj').2]⟩
  by_cases e : i = j
  · subst e
    rw [World.cell?_setCell_same' _ _ _ (by rw [(h i hi).1]; rfl)]
    simp [List.getD, hi]
  · rw [World.cell?_setCell_other w ⟨g, i, none⟩ ⟨g, j, none⟩ _ (fun q => e (congrArg Addr.off q)), (h j hj').1]
    simp [List.getD, e]

theorem Words.other {w : World} {g g' : Nat} {v : List Int} (h : Words w g v) (i : Nat) (x : Value) (hg : g' ≠ g) : Words (w.setCell ⟨g', i, none⟩ x) g v := fun j hj =>
  ⟨(World.cell?_setCell_other w ⟨g', i, none⟩ ⟨g, j, none⟩ x (fun q => hg (congrArg Addr.block q))).trans (h j hj).1, by simp [(h j hj).2]⟩

theorem Words.drew {w : World} {g : Nat} {v : List Int} (h : Words w g v) : Words w.drew g v := h

end Go.Proofs.YtakalfckhailjaaGreat.Plain


/- A text's bytes as numbers, and copy from a text. -/
namespace Go.Proofs.YtakalfckhailjaaGreat.Plain
open Go Go.RowKit
set_option linter.unusedVariables false

def bL (s : ByteArray) : List Int := s.data.toList.map fun b => ((b.toNat : Nat) : Int)
theorem bL_length (s : ByteArray) : (bL s).length = s.size := by simp [bL]
theorem splice_grown {w : World} {g : Nat} (cs : Array Value) : w.grownBy (w.setRow g cs) (some g) :=
  ⟨rfl, rfl, rfl, by simp, fun k _ hk => setRow_other w g k cs (fun e => hk (by rw [e]))⟩

end Go.Proofs.YtakalfckhailjaaGreat.Plain


/- Rows of the call's own, whatever their elements: made, appended to, read. -/
namespace Go.Proofs.YtakalfckhailjaaGreat
open Go.RowKit Plain
set_option linter.unusedVariables false

/-- How values of a type lie in a row's cells, over this program's types. -/
structure Elem (α : Type) where
  E : TypeId
  S : TypeId
  n : Nat
  bytes : Nat
  zero : Value
  enc : α → List Value
  hund : Tryz.prog.underlying S = some (.slice E)
  hinfo : (Tryz.prog.info? E).map (fun i => (i.zero, i.size, i.bytes)) = some (some zero, n, bytes)
  hz : zero.cells.size = n
  hn : 0 < n
  hb : bytes ≤ 1000
  hlen : ∀ x, (enc x).length = n
  hone : ∀ x, ∀ u ∈ enc x, u.oneCell' = true

namespace Plain
theorem flat_len {α β : Type} (f : α → List β) (n : Nat) (h : ∀ x, (f x).length = n) (xs : List α) : (xs.flatMap f).length = xs.length * n := by
  induction xs with
  | nil => simp
  | cons x l ih => rw [List.flatMap_cons, List.length_append, ih, h, List.length_cons, Nat.add_mul, Nat.one_mul, Nat.add_comm]
theorem flat_get {α β : Type} (f : α → List β) (n : Nat) (h : ∀ x, (f x).length = n) (xs : List α) (i j : Nat) (hi : i < xs.length) (hj : j < n) : (xs.flatMap f)[i * n + j]? = (f xs[i])[j]? := by
  induction xs generalizing i with
  | nil => simp at hi
  | cons x l ih =>
    cases i with
    | zero => rw [List.flatMap_cons, List.getElem?_append_left (by rw [h]; omega)]; simp
    | succ i =>
      rw [List.flatMap_cons, List.getElem?_append_right (by rw [h, Nat.succ_mul]; omega), h, show (i + 1) * n + j - n = i * n + j from by rw [Nat.succ_mul]; omega]
      simpa using ih i (by simpa using hi)
end Plain

/-- The value v is a slice which the call owns (from block B on), holding xs. -/
def OwnR {α : Type} (e : Elem α) (W : World) (B : Nat) (v : Value) (xs : List α) : Prop := W.ownsRow B e.E e.n v xs.length (xs.flatMap e.enc)

section
variable {α : Type} {e : Elem α} {W w' : World} {B : Nat} {v : Value} {xs : List α}

theorem ownR_nil (e : Elem α) (W : World) (B : Nat) : OwnR e W B (.slice none 0 0) [] := World.ownsRow_nil _ _ _ _
theorem ownR_empty (e : Elem α) (W : World) (B : Nat) (hB : B ≤ W.heap.size) : OwnR e (W.alloc (.cells #[] e.E)) B (.slice (some ⟨W.heap.size, 0, none⟩) 0 0) [] :=
  World.ownsRow_made W #[] 0 hB (by unfold maxLen; omega) (by simp)

theorem OwnR.le (h : OwnR e W B v xs) {B' : Nat} (hB : B' ≤ B) : OwnR e W B' v xs := by
  refine ⟨h.1, ?_⟩
  rcases h.2 with ⟨a, b⟩ | ⟨g, cap, cur, a, b, c⟩
  · exact .inl ⟨a, b⟩
  · exact .inr ⟨g, cap, cur, a, Nat.le_trans hB b, c⟩
theorem OwnR.below {b : Nat} (h : OwnR e W B v xs) (hb : Below b W w') (hbs : ∀ g, v.ownBlock = some g → g < b) : OwnR e w' B v xs := by
  refine ⟨h.1, ?_⟩
  rcases h.2 with ⟨a, c⟩ | ⟨g, cap, cur, rfl, c, d, r⟩
  · exact .inl ⟨a, c⟩
  · exact .inr ⟨g, cap, cur, rfl, c, (hb.block g (hbs g rfl)).trans d, r⟩
theorem OwnR.lt (h : OwnR e W B v xs) : ∀ g, v.ownBlock = some g → g < W.heap.size := fun g hg => (World.ownsRow.lt h g hg).2
theorem OwnR.keep (h : OwnR e W B v xs) (hb : Below W.heap.size W w') : OwnR e w' B v xs := h.below hb h.lt
theorem OwnR.form (h : OwnR e W B v xs) : ∃ a cap, v = .slice a xs.length cap := by
  rcases h.2 with ⟨a, c⟩ | ⟨g, cap, cur, rfl, c, d, r⟩
  · exact ⟨none, 0, by rw [a, c]⟩
  · exact ⟨_, cap, rfl⟩
theorem OwnR.drewN (h : OwnR e W B v xs) (k : Nat) : OwnR e (W.drewN k) B v xs := h
end

theorem appR {α : Type} {e : Elem α} {ops : Array Oper} {rest : List Oper} {o : Oper} {a : Act} {Q : Exit → Act → World → Prop} (hgd : o.guard = none) (s x : Operand)
    (ho : o.op = .call { callee := .builtin .append, args := #[s, x], argTypes := #[e.S, e.S] })
    {w : World} {B : Nat} {v : Value} {xs : List α} (hown : OwnR e w B v xs) (hs : a.eval s = v) (y : α) {cs : Array Value} (hcs : cs.toList = e.enc y)
    (gx : Nat) (hx : a.eval x = .slice (some ⟨gx, 0, none⟩) 1 1) (hgx : gx = w.heap.size) (hlen : xs.length < 100000000) (hB : B ≤ w.heap.size)
    (h : ∀ v' w', OwnR e w' B v' (xs ++ [y]) → Below B w w' → (w.alloc (.cells cs e.E)).grownBy w' v.ownBlock → wpList Tryz.prog ops Q rest (a.put o.dst v') w') :
    wpList Tryz.prog ops Q (o :: rest) a (w.alloc (.cells cs e.E)) := by
  subst hgx
  obtain ⟨i0, hi, hz0, hz1, hz2⟩ := info_parts e.hinfo
  have ha := World.ownsRow.alloc hown (.cells cs e.E)
  have hnew : (w.alloc (.cells cs e.E)).heap[w.heap.size]? = some (.cells cs e.E) := (MapKept.heap_alloc w _).1
  have hby := e.hb
  refine wpList_append_own _ hgd s x e.S ho B e.E i0 e.zero e.n e.bytes e.hund hi hz0 hz1 hz2 e.hz e.hn v xs.length (xs.flatMap e.enc) hs ha
    ⟨w.heap.size, 0, none⟩ 1 1 (e.enc y) hx (by rw [e.hlen, Nat.one_mul]) (by rw [← hcs]; exact World.news_of_block hnew) (e.hone y) (by unfold maxLen; omega) ?_ (by simp; omega) ?_
  · exact Nat.le_trans (Nat.mul_le_mul_left _ hby) (by omega)
  · intro v' w' h1 h2 _
    refine h v' w' ?_ (((Below.refl B w).alloc hB _).trans (own_below ha h2 (by simp; omega))) h2
    unfold OwnR
    rw [List.flatMap_append, List.length_append]
    simpa using h1

/-- The slice at a holds xs, in a block that may be written. -/
def RowAt {α : Type} (e : Elem α) (W : World) (a : Option Addr) (xs : List α) : Prop := ∀ i (h : i < xs.length), ∃ g, a = some ⟨g, 0, none⟩ ∧ g < W.heap.size ∧
  ∀ j, j < e.n → W.cell? ⟨g, i * e.n + j, none⟩ = (e.enc xs[i])[j]? ∧ W.frozen? ⟨g, i * e.n + j, none⟩ = false
theorem RowAt.below {α : Type} {e : Elem α} {W W' : World} {a : Option Addr} {xs : List α} (h : RowAt e W a xs) (hb : Below W.heap.size W W') : RowAt e W' a xs := fun i hi => by
  obtain ⟨g, e1, hl, h1⟩ := h i hi
  exact ⟨g, e1, Nat.lt_of_lt_of_le hl hb.size, fun j hj => ⟨(hb.cell (p := ⟨g, i * e.n + j, none⟩) hl).trans (h1 j hj).1, (hb.frozen (p := ⟨g, i * e.n + j, none⟩) hl).trans (h1 j hj).2⟩⟩
theorem OwnR.at {α : Type} {e : Elem α} {W : World} {B : Nat} {a : Option Addr} {n c : Nat} {xs : List α} (h : OwnR e W B (.slice a n c) xs) : RowAt e W a xs := by
  intro i hi
  obtain ⟨a', cap', he⟩ := h.form
  obtain ⟨rfl, rfl, rfl⟩ : a = a' ∧ n = xs.length ∧ c = cap' := by simpa using he
  rcases h.2 with ⟨e1, h0⟩ | ⟨g, cap, cur, e1, hg, hc, _⟩
  · omega
  · obtain ⟨rfl, _, rfl⟩ : a = some ⟨g, 0, none⟩ ∧ xs.length = xs.length ∧ c = cap := by simpa using e1
    have hlt : g < W.heap.size := by
      rcases Nat.lt_or_ge g W.heap.size with h | h
      · exact h
      · rw [Array.getElem?_eq_none h] at hc; cases hc
    refine ⟨g, rfl, hlt, fun j hj => ⟨?_, World.ownsRow.frozenAt h _⟩⟩
    have hin : i * e.n + j < xs.length * e.n := by
      have : (i + 1) * e.n ≤ xs.length * e.n := Nat.mul_le_mul_right _ hi
      rw [Nat.succ_mul] at this
      omega
    rw [World.ownsRow.cellAt h _ hin, flat_get e.enc e.n e.hlen xs i j hi hj]

end Go.Proofs.YtakalfckhailjaaGreat


/- References as plain mathematics: where the first of two signs stands, what is read of a text, what is written. -/
namespace Go.Proofs.YtakalfckhailjaaGreat
open Go.RowKit Plain
set_option linter.unusedVariables false
namespace Plain
/-- The place of the first byte that is a or b; the length: there is none. -/
def fd (a b : Nat) : List UInt8 → Nat
  | [] => 0
  | c :: l => if c.toNat = a ∨ c.toNat = b then 0 else fd a b l + 1
end Plain
end Go.Proofs.YtakalfckhailjaaGreat


/- A text cut at a sign: the specification's l3Cut by its contract. -/
namespace Go.Proofs.YtakalfckhailjaaGreat
open Go.RowKit Plain
set_option linter.unusedVariables false

namespace Plain
def toB (l : List UInt8) : ByteArray := ⟨l.toArray⟩
def emp (t : ByteArray) : Bool := t.toList.isEmpty
end Plain

end Go.Proofs.YtakalfckhailjaaGreat


/- Rows of texts, as the exact laws copy, measure and compare them. -/
namespace Go.Proofs.YtakalfckhailjaaGreat
open Go.RowKit Plain
set_option linter.unusedVariables false

namespace Plain
/-- The slice at a holds the texts ls. -/
def StrsAt (W : World) (a : Option Addr) (ls : List ByteArray) : Prop := ∀ i (h : i < ls.length), ∃ g o, a = some ⟨g, o, none⟩ ∧ g < W.heap.size ∧ W.cell? ⟨g, o + i, none⟩ = some (.string ls[i])
theorem StrsAt.below {W W' : World} {a : Option Addr} {ls : List ByteArray} (h : StrsAt W a ls) (hb : Below W.heap.size W W') : StrsAt W' a ls := fun i hi => by
  obtain ⟨g, o, e, hl, hc⟩ := h i hi
  exact ⟨g, o, e, Nat.lt_of_lt_of_le hl hb.size, (hb.cell (p := ⟨g, o + i, none⟩) hl).trans hc⟩
theorem StrsAt.nil (W : World) (a : Option Addr) : StrsAt W a [] := fun i h => by simp at h
end Plain
namespace Plain
end Plain



end Go.Proofs.YtakalfckhailjaaGreat


/- Rows that are arguments: read anywhere in their block. -/
namespace Go.Proofs.YtakalfckhailjaaGreat
open Go.RowKit Plain
set_option linter.unusedVariables false

/-- The slice at a holds xs, each in n cells. -/
def Plain.ArgAt {α : Type} (n : Nat) (en : α → List Value) (W : World) (a : Option Addr) (xs : List α) : Prop := ∀ i (h : i < xs.length), ∃ g o, a = some ⟨g, o, none⟩ ∧ g < W.heap.size ∧ ∀ j, j < n → W.cell? ⟨g, o + i * n + j, none⟩ = (en xs[i])[j]?
theorem Plain.ArgAt.below {α : Type} {n : Nat} {en : α → List Value} {W W' : World} {a : Option Addr} {xs : List α} (h : ArgAt n en W a xs) (hb : Below W.heap.size W W') : ArgAt n en W' a xs := fun i hi => by
  obtain ⟨g, o, e, hl, hc⟩ := h i hi
  exact ⟨g, o, e, Nat.lt_of_lt_of_le hl hb.size, fun j hj => (hb.cell (p := ⟨g, o + i * n + j, none⟩) hl).trans (hc j hj)⟩
/-- An argument that is a slice. -/
structure Plain.ArgRow {α : Type} (n : Nat) (en : α → List Value) (good : α → Prop) (W : World) (a : Option Addr) (k c : Nat) (xs : List α) : Prop where
  len : xs.length = k
  le : k ≤ maxLen
  good : ∀ z ∈ xs, good z
  row : ArgAt n en W a xs

namespace Plain
def fileL (f : ByteArray × ByteArray) : List Value := [.string f.1, .string f.2]
def goodF (f : ByteArray × ByteArray) : Prop := f.1.size ≤ maxLen ∧ f.2.size ≤ maxLen
end Plain



namespace Plain
/-- An op of a disk. -/
structure Dop where
  kind : Int
  name : ByteArray
  to : ByteArray
  data : ByteArray
/-- An entry of a journal. -/
structure Ent where
  term : Int
  kind : Int
  body : ByteArray
def dopL (o : Dop) : List Value := [.int .i64 o.kind, .string o.name, .string o.to, .string o.data]
def goodO (o : Dop) : Prop := (Lit.int .i64 o.kind).wf = true ∧ o.name.size ≤ maxLen ∧ o.to.size ≤ maxLen ∧ o.data.size ≤ maxLen
def entL (e : Ent) : List Value := [.int .i64 e.term, .int .i64 e.kind, .string e.body]
end Plain



end Go.Proofs.YtakalfckhailjaaGreat


/- The end of the data: the last blocks as lists of bytes. -/
namespace Go.Proofs.YtakalfckhailjaaGreat.Plain
open Go Go.RowKit
set_option linter.unusedVariables false

end Go.Proofs.YtakalfckhailjaaGreat.Plain


/- The whole sum as a plain function of the data's bytes: in blocks of 64. -/
namespace Go.Proofs.YtakalfckhailjaaGreat.Plain
open Go Go.RowKit
set_option linter.unusedVariables false
set_option linter.unusedSimpArgs false

def h0L : List Int := [1779033703, 3144134277, 1013904242, 2773480762, 1359893119, 2600822924, 528734635, 1541459225]
def chunk (b : List Int) (k : Nat) : List Int := (b.drop (64 * k)).take 64
def hN (b : List Int) : Nat → List Int
  | 0 => h0L
  | k + 1 => blockL (hN b k) (chunk b k)

end Go.Proofs.YtakalfckhailjaaGreat.Plain


/- The laws' own test of a code's length. -/
namespace Go.Proofs.YtakalfckhailjaaGreat
open Go.RowKit Plain
set_option linter.unusedVariables false

theorem big_calls (a : Option Addr) (len cap : Nat) (w : World) (h : len ≤ maxLen) :
    Calls Tryz.prog 5 #[.slice a len cap] w fun e w' => e = .returned (.bool (decide (1048576 < (len : Int)))) ∧ w = w' := by
  unfold maxLen at h
  go_enter Tryz.func5, Tryz.ntmps5
  go_wp2
  go_ret
  exact ⟨rfl, rfl⟩

namespace Plain
theorem IsRow.len {w : World} {k : IntKind} {a : Option Addr} {len cap : Nat} {zs : List Int} (h : IsRow k w a len cap zs) : len ≤ maxLen := by
  rcases h with ⟨_, h, _⟩ | ⟨x, _, h1, h2, _⟩
  · omega
  · omega
end Plain
end Go.Proofs.YtakalfckhailjaaGreat

