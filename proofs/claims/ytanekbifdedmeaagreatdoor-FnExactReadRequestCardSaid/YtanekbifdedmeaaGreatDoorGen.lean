/- Rows of the call's own, whatever their elements: made, appended to, read. -/
import Derived.Test.YtanekbifdedmeaaGreatDoorGAA
import Derived.Deep.AppendLies
namespace Go.Proofs.YtanekbifdedmeaaGreatDoor
open Go.RowKit Plain
set_option linter.unusedVariables false

/-- How values of a type lie in a row's cells, over this program's types. -/
structure Elem (α : Type) where
  E : TypeId
  S : TypeId
  n : Nat
  bytes : Nat
  zero : Value
  enc : α → List Value
  hund : Tryz.prog.underlying S = some (.slice E)
  hinfo : (Tryz.prog.info? E).map (fun i => (i.zero, i.size, i.bytes)) = some (some zero, n, bytes)
  hz : zero.cells.size = n
  hn : 0 < n
  hb : bytes ≤ 1000
  hlen : ∀ x, (enc x).length = n
  hone : ∀ x, ∀ u ∈ enc x, u.oneCell' = true

namespace Plain
theorem flat_get {α β : Type} (f : α → List β) (n : Nat) (h : ∀ x, (f x).length = n) (xs : List α) (i j : Nat) (hi : i < xs.length) (hj : j < n) : (xs.flatMap f)[i * n + j]? = (f xs[i])[j]? := by
  induction xs generalizing i with
  | nil => simp at hi
  | cons x l ih =>
    cases i with
    | zero => rw [List.flatMap_cons, List.getElem?_append_left (by rw [h]; omega)]; simp
    | succ i =>
      rw [List.flatMap_cons, List.getElem?_append_right (by rw [h, Nat.succ_mul]; omega), h, show (i + 1) * n + j - n = i * n + j from by rw [Nat.succ_mul]; omega]
      simpa using ih i (by simpa using hi)
end Plain

/-- The value v is a slice which the call owns (from block B on), holding xs. -/
def OwnR {α : Type} (e : Elem α) (W : World) (B : Nat) (v : Value) (xs : List α) : Prop := W.ownsRow B e.E e.n v xs.length (xs.flatMap e.enc)

section
variable {α : Type} {e : Elem α} {W w' : World} {B : Nat} {v : Value} {xs : List α}

theorem ownR_nil (e : Elem α) (W : World) (B : Nat) : OwnR e W B (.slice none 0 0) [] := World.ownsRow_nil _ _ _ _
theorem ownR_empty (e : Elem α) (W : World) (B : Nat) (hB : B ≤ W.heap.size) : OwnR e (W.alloc (.cells #[] e.E)) B (.slice (some ⟨W.heap.size, 0, none⟩) 0 0) [] :=
  World.ownsRow_made W #[] 0 hB (by unfold maxLen; omega) (by simp)

theorem OwnR.le (h : OwnR e W B v xs) {B' : Nat} (hB : B' ≤ B) : OwnR e W B' v xs := by
  refine ⟨h.1, ?_⟩
  rcases h.2 with ⟨a, b⟩ | ⟨g, cap, cur, a, b, c⟩
  · exact .inl ⟨a, b⟩
  · exact .inr ⟨g, cap, cur, a, Nat.le_trans hB b, c⟩
theorem OwnR.below {b : Nat} (h : OwnR e W B v xs) (hb : Below b W w') (hbs : ∀ g, v.ownBlock = some g → g < b) : OwnR e w' B v xs := by
  refine ⟨h.1, ?_⟩
  rcases h.2 with ⟨a, c⟩ | ⟨g, cap, cur, rfl, c, d, r⟩
  · exact .inl ⟨a, c⟩
  · exact .inr ⟨g, cap, cur, rfl, c, (hb.block g (hbs g rfl)).trans d, r⟩
theorem OwnR.lt (h : OwnR e W B v xs) : ∀ g, v.ownBlock = some g → g < W.heap.size := fun g hg => (World.ownsRow.lt h g hg).2
theorem OwnR.keep (h : OwnR e W B v xs) (hb : Below W.heap.size W w') : OwnR e w' B v xs := h.below hb h.lt
theorem OwnR.form (h : OwnR e W B v xs) : ∃ a cap, v = .slice a xs.length cap := by
  rcases h.2 with ⟨a, c⟩ | ⟨g, cap, cur, rfl, c, d, r⟩
  · exact ⟨none, 0, by rw [a, c]⟩
  · exact ⟨_, cap, rfl⟩
theorem OwnR.drewN (h : OwnR e W B v xs) (k : Nat) : OwnR e (W.drewN k) B v xs := h
end

theorem appR {α : Type} {e : Elem α} {ops : Array Oper} {rest : List Oper} {o : Oper} {a : Act} {Q : Exit → Act → World → Prop} (hgd : o.guard = none) (s x : Operand)
    (ho : o.op = .call { callee := .builtin .append, args := #[s, x], argTypes := #[e.S, e.S] })
    {w : World} {B : Nat} {v : Value} {xs : List α} (hown : OwnR e w B v xs) (hs : a.eval s = v) (y : α) {cs : Array Value} (hcs : cs.toList = e.enc y)
    (gx : Nat) (hx : a.eval x = .slice (some ⟨gx, 0, none⟩) 1 1) (hgx : gx = w.heap.size) (hlen : xs.length < 100000000) (hB : B ≤ w.heap.size)
    (h : ∀ v' w', OwnR e w' B v' (xs ++ [y]) → Below B w w' → (w.alloc (.cells cs e.E)).grownBy w' v.ownBlock → wpList Tryz.prog ops Q rest (a.put o.dst v') w') :
    wpList Tryz.prog ops Q (o :: rest) a (w.alloc (.cells cs e.E)) := by
  subst hgx
  obtain ⟨i0, hi, hz0, hz1, hz2⟩ := info_parts e.hinfo
  have ha := World.ownsRow.alloc hown (.cells cs e.E)
  have hnew : (w.alloc (.cells cs e.E)).heap[w.heap.size]? = some (.cells cs e.E) := (MapKept.heap_alloc w _).1
  have hby := e.hb
  refine wpList_append_own _ hgd s x e.S ho B e.E i0 e.zero e.n e.bytes e.hund hi hz0 hz1 hz2 e.hz e.hn v xs.length (xs.flatMap e.enc) hs ha
    ⟨w.heap.size, 0, none⟩ 1 1 (e.enc y) hx (by rw [e.hlen, Nat.one_mul]) (by rw [← hcs]; exact World.news_of_block hnew) (e.hone y) (by unfold maxLen; omega) ?_ (by simp; omega) ?_
  · exact Nat.le_trans (Nat.mul_le_mul_left _ hby) (by omega)
  · intro v' w' h1 h2 _
    refine h v' w' ?_ (((Below.refl B w).alloc hB _).trans (own_below ha h2 (by simp; omega))) h2
    unfold OwnR
    rw [List.flatMap_append, List.length_append]
    simpa using h1

/-- The slice at a holds xs, in a block that may be written. -/
def RowAt {α : Type} (e : Elem α) (W : World) (a : Option Addr) (xs : List α) : Prop := ∀ i (h : i < xs.length), ∃ g, a = some ⟨g, 0, none⟩ ∧ g < W.heap.size ∧
  ∀ j, j < e.n → W.cell? ⟨g, i * e.n + j, none⟩ = (e.enc xs[i])[j]? ∧ W.frozen? ⟨g, i * e.n + j, none⟩ = false
theorem RowAt.below {α : Type} {e : Elem α} {W W' : World} {a : Option Addr} {xs : List α} (h : RowAt e W a xs) (hb : Below W.heap.size W W') : RowAt e W' a xs := fun i hi => by
  obtain ⟨g, e1, hl, h1⟩ := h i hi
  exact ⟨g, e1, Nat.lt_of_lt_of_le hl hb.size, fun j hj => ⟨(hb.cell (p := ⟨g, i * e.n + j, none⟩) hl).trans (h1 j hj).1, (hb.frozen (p := ⟨g, i * e.n + j, none⟩) hl).trans (h1 j hj).2⟩⟩
theorem OwnR.at {α : Type} {e : Elem α} {W : World} {B : Nat} {a : Option Addr} {n c : Nat} {xs : List α} (h : OwnR e W B (.slice a n c) xs) : RowAt e W a xs := by
  intro i hi
  obtain ⟨a', cap', he⟩ := h.form
  obtain ⟨rfl, rfl, rfl⟩ : a = a' ∧ n = xs.length ∧ c = cap' := by simpa using he
  rcases h.2 with ⟨e1, h0⟩ | ⟨g, cap, cur, e1, hg, hc, _⟩
  · omega
  · obtain ⟨rfl, _, rfl⟩ : a = some ⟨g, 0, none⟩ ∧ xs.length = xs.length ∧ c = cap := by simpa using e1
    have hlt : g < W.heap.size := by
      rcases Nat.lt_or_ge g W.heap.size with h | h
      · exact h
      · rw [Array.getElem?_eq_none h] at hc; cases hc
    refine ⟨g, rfl, hlt, fun j hj => ⟨?_, World.ownsRow.frozenAt h _⟩⟩
    have hin : i * e.n + j < xs.length * e.n := by
      have : (i + 1) * e.n ≤ xs.length * e.n := Nat.mul_le_mul_right _ hi
      rw [Nat.succ_mul] at this
      omega
    rw [World.ownsRow.cellAt h _ hin, flat_get e.enc e.n e.hlen xs i j hi hj]

/-- Texts as elements. -/
def strE : Elem ByteArray where
  E := 9
  S := 51
  n := 1
  bytes := 16
  zero := .string ⟨#[]⟩
  enc := fun s => [.string s]
  hund := Tryz.underlying51
  hinfo := by kernel_rfl
  hz := rfl
  hn := by decide
  hb := by decide
  hlen := fun _ => rfl
  hone := fun x u hu => by simp at hu; subst hu; rfl
theorem RowAt.str {W : World} {a : Option Addr} {xs : List ByteArray} (h : RowAt strE W a xs) (i : Nat) (hi : i < xs.length) : ∃ g, a = some ⟨g, 0, none⟩ ∧ g < W.heap.size ∧ W.cell? ⟨g, i, none⟩ = some (.string xs[i]) ∧ W.frozen? ⟨g, i, none⟩ = false := by
  obtain ⟨g, e1, hl, h1⟩ := h i hi
  have := h1 0 (by decide)
  rw [show i * strE.n + 0 = i from Nat.mul_one i] at this
  exact ⟨g, e1, hl, this⟩
end Go.Proofs.YtanekbifdedmeaaGreatDoor
