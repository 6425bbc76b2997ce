/- Texts of one kind, put together. -/
import Derived.Test.YtknpccpfjclngaaGAB
import Derived.Test.YtknpccpfjclngaaGen

/- Rows of any element: made of zero values, one cell of one element set. -/
namespace Go.Proofs.Ytknpccpfjclngaa
open Go.RowKit Plain
set_option linter.unusedVariables false

namespace Plain
theorem flat_setJ {α β : Type} (f : α → List β) (n : Nat) (h : ∀ x, (f x).length = n) (u : β) (j : Nat) (hj : j < n) : ∀ (xs : List α) (k : Nat) (hk : k < xs.length) (y : α), f y = (f xs[k]).set j u → (xs.set k y).flatMap f = (xs.flatMap f).set (k * n + j) u
  | [], k, hk, y, hy => by simp at hk
  | x :: l, 0, hk, y, hy => by
    rw [List.set_cons_zero, List.flatMap_cons, List.flatMap_cons, Nat.zero_mul, Nat.zero_add, List.set_append_left _ _ (by rw [h]; exact hj), hy]
    rfl
  | x :: l, k + 1, hk, y, hy => by
    rw [List.set_cons_succ, List.flatMap_cons, List.flatMap_cons, flat_setJ f n h u j hj l k (by simpa using hk) y (by simpa using hy), List.set_append_right _ _ (by rw [h, Nat.succ_mul]; omega), h, show (k + 1) * n + j - n = k * n + j from by rw [Nat.succ_mul]; omega]
end Plain
theorem OwnR.setJ {α : Type} {e : Elem α} {W : World} {B g n cap : Nat} {xs : List α} (h : OwnR e W B (.slice (some ⟨g, 0, none⟩) n cap) xs) (hn : xs.length = n) (k : Nat) (hk : k < xs.length) (j : Nat) (hj : j < e.n) (u : Value) (y : α) (hy : e.enc y = (e.enc xs[k]).set j u) :
    OwnR e (W.setCell ⟨g, k * e.n + j, none⟩ u) B (.slice (some ⟨g, 0, none⟩) n cap) (xs.set k y) := by
  unfold OwnR at h ⊢
  rw [List.length_set, flat_setJ e.enc e.n e.hlen u j hj xs k hk y hy]
  subst hn
  exact (World.ownsRow.stored h (k * e.n + j) u).1
theorem RowAt.setJ {α : Type} {e : Elem α} {W : World} {g : Nat} {L : List α} (h : RowAt e W (some ⟨g, 0, none⟩) L) (k : Nat) (hk : k < L.length) (j : Nat) (hj : j < e.n) (u : Value) (y : α) (hy : e.enc y = (e.enc L[k]).set j u) :
    RowAt e (W.setCell ⟨g, k * e.n + j, none⟩ u) (some ⟨g, 0, none⟩) (L.set k y) := by
  intro i hi
  rw [List.length_set] at hi
  obtain ⟨g', e1, hl, hc⟩ := h i hi
  cases e1
  refine ⟨g, rfl, by simpa using hl, fun m hm => ⟨?_, by rw [World.frozen?_setCell]; exact (hc m hm).2⟩⟩
  have hdist : i * e.n + m = k * e.n + j ↔ i = k ∧ m = j := by
    constructor
    · intro q
      have h1 : (i * e.n + m) / e.n = (k * e.n + j) / e.n := by rw [q]
      have h2 : (i * e.n + m) % e.n = (k * e.n + j) % e.n := by rw [q]
      have hp := e.hn
      rw [Nat.mul_comm i, Nat.mul_comm k, Nat.mul_add_div hp, Nat.mul_add_div hp, Nat.div_eq_of_lt hm, Nat.div_eq_of_lt hj] at h1
      rw [Nat.mul_add_mod_self_right, Nat.mul_add_mod_self_right, Nat.mod_eq_of_lt hm, Nat.mod_eq_of_lt hj] at h2
      exact ⟨by omega, h2⟩
    · rintro ⟨rfl, rfl⟩; rfl
  by_cases hik : i = k
  · subst hik
    rw [List.getElem_set_self, hy]
    by_cases hmj : m = j
    · subst hmj
      rw [World.cell?_setCell_same' _ _ _ (by rw [(hc m hm).1, List.getElem?_eq_getElem (by rw [e.hlen]; exact hm)]; rfl), List.getElem?_set_self (by rw [e.hlen]; exact hm)]
    · rw [World.cell?_setCell_other _ ⟨g, i * e.n + j, none⟩ ⟨g, i * e.n + m, none⟩ _ (fun q => hmj (hdist.1 (by have := congrArg Addr.off q; simpa using this.symm)).2), (hc m hm).1, List.getElem?_set_ne (fun q => hmj q.symm)]
  · rw [World.cell?_setCell_other _ ⟨g, k * e.n + j, none⟩ ⟨g, i * e.n + m, none⟩ _ (fun q => hik (hdist.1 (by have := congrArg Addr.off q; simpa using this.symm)).1), (hc m hm).1, List.getElem_set_ne (fun q => hik q.symm)]
end Go.Proofs.Ytknpccpfjclngaa


/- Worlds that differ in some blocks alone; rows that lie elsewhere. -/
namespace Go.Proofs.Ytknpccpfjclngaa
open Go.RowKit Plain
set_option linter.unusedVariables false

namespace Plain
/-- Nothing has changed but blocks of which p is so, and new blocks. -/
structure OnlyP (p : Nat → Prop) (w w' : World) : Prop where
  os : w'.os = w.os
  tape : w'.tape = w.tape
  output : w'.output = w.output
  size : w.heap.size ≤ w'.heap.size
  block : ∀ k, k < w.heap.size → ¬ p k → w'.heap[k]? = w.heap[k]?
theorem OnlyP.of {p : Nat → Prop} {w w' : World} (h : Below w.heap.size w w') : OnlyP p w w' := ⟨h.os, h.tape, h.output, h.size, fun k hk _ => h.block k hk⟩
theorem OnlyP.row {p : Nat → Prop} {a : Option Addr} {w w' : World} (h : OnlyRow a w w') (hp : ∀ g o, a = some ⟨g, o, none⟩ → p g) : OnlyP p w w' := ⟨h.os, h.tape, h.output, h.size, fun k hk hn => h.block k hk fun o e => hn (hp k o e)⟩
theorem OnlyP.trans {p : Nat → Prop} {u v w : World} (h : OnlyP p u v) (h2 : OnlyP p v w) : OnlyP p u w :=
  ⟨h2.os.trans h.os, h2.tape.trans h.tape, h2.output.trans h.output, Nat.le_trans h.size h2.size, fun k hk hne => (h2.block k (Nat.lt_of_lt_of_le hk h.size) hne).trans (h.block k hk hne)⟩
theorem OnlyP.below {p : Nat → Prop} {w w' : World} {B : Nat} (h : OnlyP p w w') (hB : ∀ g, p g → B ≤ g) (hBw : B ≤ w.heap.size) : Below B w w' :=
  ⟨h.os, h.tape, h.output, h.size, fun k hk => h.block k (Nat.lt_of_lt_of_le hk hBw) (fun e => by have := hB k e; omega)⟩
/-- The block that a slice lies in. -/
def inB (a : Option Addr) (g : Nat) : Prop := ∃ o, a = some ⟨g, o, none⟩
end Plain
theorem RowAt.offP {α : Type} {e : Elem α} {p : Nat → Prop} {w w' : World} {a : Option Addr} {xs : List α} (h : RowAt e w a xs) (ho : OnlyP p w w') (hne : ∀ g, inB a g → ¬ p g) : RowAt e w' a xs := fun i hi => by
  obtain ⟨g, e1, hl, hc⟩ := h i hi
  have hb := ho.block g hl (hne g ⟨0, e1⟩)
  exact ⟨g, e1, Nat.lt_of_lt_of_le hl ho.size, fun j hj => ⟨(World.cell?_of_block (a := ⟨g, i * e.n + j, none⟩) hb).trans (hc j hj).1, (World.frozen?_of_block (a := ⟨g, i * e.n + j, none⟩) hb).trans (hc j hj).2⟩⟩
theorem RowAt.offR {α : Type} {e : Elem α} {w w' : World} {a b : Option Addr} {xs : List α} (h : RowAt e w a xs) (ho : OnlyRow b w w') (hne : ∀ g, inB a g → ¬ inB b g) : RowAt e w' a xs := h.offP (OnlyP.row (p := inB b) ho fun g o e => ⟨o, e⟩) hne
theorem OwnR.bl {α : Type} {e : Elem α} {w : World} {B n c : Nat} {a : Option Addr} {ls : List α} (h : OwnR e w B (.slice a n c) ls) : ∀ g, inB a g → B ≤ g ∧ g < w.heap.size := by
  rintro g ⟨o, rfl⟩
  exact World.ownsRow.lt h g rfl
end Go.Proofs.Ytknpccpfjclngaa

