/- Texts of one kind, put together. -/
import Derived.Test.YtknpccpfjclngaaGAB
import Derived.Test.YtknpccpfjclngaaGAD

/- Rows of any element: made of zero values, one cell of one element set. -/
namespace Go.Proofs.Ytknpccpfjclngaa
open Go.RowKit Plain
set_option linter.unusedVariables false

namespace Plain
theorem flat_setJ {α β : Type} (f : α → List β) (n : Nat) (h : ∀ x, (f x).length = n) (u : β) (j : Nat) (hj : j < n) : ∀ (xs : List α) (k : Nat) (hk : k < xs.length) (y : α), f y = (f xs[k]).set j u → (xs.set k y).flatMap f = (xs.flatMap f).set (k * n + j) u
  | [], k, hk, y, hy => by simp at hk
  | x :: l, 0, hk, y, hy => by
    rw [List.set_cons_zero, List.flatMap_cons, List.flatMap_cons, Nat.zero_mul, Nat.zero_add, List.set_append_left _ _ (by rw [h]; exact hj), hy]
    rfl
  | x :: l, k + 1, hk, y, hy => by
    rw [List.set_cons_succ, List.flatMap_cons, List.flatMap_cons, flat_setJ f n h u j hj l k (by simpa using hk) y (by simpa using hy), List.set_append_right _ _ (by rw [h, Nat.succ_mul]; omega), h, show (k + 1) * n + j - n = k * n + j from by rw [Nat.succ_mul]; omega]
end Plain
theorem OwnR.setJ {α : Type} {e : Elem α} {W : World} {B g n cap : Nat} {xs : List α} (h : OwnR e W B (.slice (some ⟨g, 0, none⟩) n cap) xs) (hn : xs.length = n) (k : Nat) (hk : k < xs.length) (j : Nat) (hj : j < e.n) (u : Value) (y : α) (hy : e.enc y = (e.enc xs[k]).set j u) :
    OwnR e (W.setCell ⟨g, k * e.n + j, none⟩ u) B (.slice (some ⟨g, 0, none⟩) n cap) (xs.set k y) := by
  unfold OwnR at h ⊢
  rw [List.length_set, flat_setJ e.enc e.n e.hlen u j hj xs k hk y hy]
  subst hn
  exact (World.ownsRow.stored h (k * e.n + j) u).1
theorem RowAt.setJ {α : Type} {e : Elem α} {W : World} {g : Nat} {L : List α} (h : RowAt e W (some ⟨g, 0, none⟩) L) (k : Nat) (hk : k < L.length) (j : Nat) (hj : j < e.n) (u : Value) (y : α) (hy : e.enc y = (e.enc L[k]).set j u) :
    RowAt e (W.setCell ⟨g, k * e.n + j, none⟩ u) (some ⟨g, 0, none⟩) (L.set k y) := by
  intro i hi
  rw [List.length_set] at hi
  obtain ⟨g', e1, hl, hc⟩ := h i hi
  cases e1
  refine ⟨g, rfl, by simpa using hl, fun m hm => ⟨?_, by rw [World.frozen?_setCell]; exact (hc m hm).2⟩⟩
  have hdist : i * e.n + m = k * e.n + j ↔ i = k ∧ m = j := by
    constructor
    · intro q
      have h1 : (i * e.n + m) / e.n = (k * e.n + j) / e.n := by rw [q]
      have h2 : (i * e.n + m) % e.n = (k * e.n + j) % e.n := by rw [q]
      have hp := e.hn
      rw [Nat.mul_comm i, Nat.mul_comm k, Nat.mul_add_div hp, Nat.mul_add_div hp, Nat.div_eq_of_lt hm, Nat.div_eq_of_lt hj] at h1
      rw [Nat.mul_add_mod_self_right, Nat.mul_add_mod_self_right, Nat.mod_eq_of_lt hm, Nat.mod_eq_of_lt hj] at h2
      exact ⟨by omega, h2⟩
    · rintro ⟨rfl, rfl⟩; rfl
  by_cases hik : i = k
  · subst hik
    rw [List.getElem_set_self, hy]
    by_cases hmj : m = j
    · subst hmj
      rw [World.cell?_setCell_same' _ _ _ (by rw [(hc m hm).1, List.getElem?_eq_getElem (by rw [e.hlen]; exact hm)]; rfl), List.getElem?_set_self (by rw [e.hlen]; exact hm)]
    · rw [World.cell?_setCell_other _ ⟨g, i * e.n + j, none⟩ ⟨g, i * e.n + m, none⟩ _ (fun q => hmj (hdist.1 (by have := congrArg Addr.off q; simpa using this.symm)).2), (hc m hm).1, List.getElem?_set_ne (fun q => hmj q.symm)]
  · rw [World.cell?_setCell_other _ ⟨g, k * e.n + j, none⟩ ⟨g, i * e.n + m, none⟩ _ (fun q => hik (hdist.1 (by have := congrArg Addr.off q; simpa using this.symm)).1), (hc m hm).1, List.getElem_set_ne (fun q => hik q.symm)]
end Go.Proofs.Ytknpccpfjclngaa


/- How far a drawing has come. -/
namespace Go.Proofs.Ytknpccpfjclngaa
open Go.RowKit Plain
set_option linter.unusedVariables false

namespace Plain
theorem OnlyAt.c {R b i : Nat} {W W' : World} {v : Value} (ho : OnlyAt ⟨R, 1, none⟩ W W') (hc : W.cell? ⟨b, i, none⟩ = some v) (hb : b ≠ R) : W'.cell? ⟨b, i, none⟩ = some v :=
  (ho.cell ⟨b, i, none⟩ (lt_of_cell hc) (fun e => hb (congrArg Addr.block e))).trans hc
theorem OnlyAt.z {R b i : Nat} {W W' : World} (ho : OnlyAt ⟨R, 1, none⟩ W W') (hb : b < W.heap.size) (hf : W.frozen? ⟨b, i, none⟩ = false) : W'.frozen? ⟨b, i, none⟩ = false := (ho.frozen ⟨b, i, none⟩ hb).trans hf
theorem OnlyAt.setNew2 {a : Addr} {u v : World} (h : OnlyAt a u v) {q : Addr} (hq : u.heap.size ≤ q.block) (x : Value) : OnlyAt a u (v.setCell q x) :=
  ⟨h.os, h.tape, h.output, by simpa using h.size, fun k hk hne => (Below.heap_setCell _ _ _ _ (by omega)).trans (h.block k hk hne), fun c hc hne => (World.cell?_setCell_other v q c x (fun e => by subst e; omega)).trans (h.cell c hc hne), fun c hc => by simpa using h.frozen c hc⟩
/-- From w the drawing has come to W. -/
structure DS (w : World) (R : Nat) (a : Option Addr) (len cap : Nat) (zs : List Int) (W : World) : Prop where
  rd : Rd W R a len cap zs
  only : OnlyAt ⟨R, 1, none⟩ w W
theorem DS.call {w W W' : World} {R : Nat} {a : Option Addr} {len cap : Nat} {zs : List Int} (h : DS w R a len cap zs W) (h1 : Rd W' R a len cap zs) (h2 : OnlyAt ⟨R, 1, none⟩ W W') : DS w R a len cap zs W' := ⟨h1, h.only.trans h2⟩
theorem DS.below {w W W' : World} {R : Nat} {a : Option Addr} {len cap : Nat} {zs : List Int} (h : DS w R a len cap zs W) (h2 : Below W.heap.size W W') : DS w R a len cap zs W' := ⟨h.rd.below h2, h.only.trans (OnlyAt.of_below h2)⟩
theorem DS.alloc {w W : World} {R : Nat} {a : Option Addr} {len cap : Nat} {zs : List Int} (h : DS w R a len cap zs W) (o : Obj) : DS w R a len cap zs (W.alloc o) := h.below ((Below.refl _ _).alloc (Nat.le_refl _) _)
theorem DS.set {w W : World} {R : Nat} {a : Option Addr} {len cap : Nat} {zs : List Int} (h : DS w R a len cap zs W) {b i : Nat} (hR : R < w.heap.size) (hb : w.heap.size ≤ b) (v : Value) : DS w R a len cap zs (W.setCell ⟨b, i, none⟩ v) :=
  ⟨h.rd.onlyB (B := b) ((Below.refl b W).setCell (Nat.le_refl _) _) (by omega), h.only.setNew2 (q := ⟨b, i, none⟩) hb v⟩
theorem DS.drewN {w W : World} {R : Nat} {a : Option Addr} {len cap : Nat} {zs : List Int} (h : DS w R a len cap zs W) (k : Nat) : DS w R a len cap zs (W.drewN k) :=
  ⟨by obtain ⟨p, hp⟩ := h.rd; exact ⟨p, hp.only ((OnlyAt.refl _ _).drewN k) hp.c1 hp.le⟩, h.only.drewN k⟩
theorem OnlyAt.thenBelow {a : Addr} {u v w : World} {B : Nat} (h : OnlyAt a u v) (hb : Below B v w) (hB : u.heap.size ≤ B) : OnlyAt a u w :=
  ⟨hb.os.trans h.os, hb.tape.trans h.tape, hb.output.trans h.output, Nat.le_trans h.size hb.size, fun k hk hne => (hb.block k (by omega)).trans (h.block k hk hne), fun c hc hne => (hb.cell (by omega)).trans (h.cell c hc hne), fun c hc => (hb.frozen (by omega)).trans (h.frozen c hc)⟩
theorem DS.drew {w W : World} {R : Nat} {a : Option Addr} {len cap : Nat} {zs : List Int} (h : DS w R a len cap zs W) : DS w R a len cap zs W.drew := h.drewN 1
end Plain
end Go.Proofs.Ytknpccpfjclngaa

