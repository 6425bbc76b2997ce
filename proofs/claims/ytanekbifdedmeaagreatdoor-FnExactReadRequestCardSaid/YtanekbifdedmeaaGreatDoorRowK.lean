/- Rows of any element: made of zero values, one cell of one element set. -/
import Derived.Test.YtanekbifdedmeaaGreatDoorGAC
namespace Go.Proofs.YtanekbifdedmeaaGreatDoor
open Go.RowKit Plain
set_option linter.unusedVariables false

namespace Plain
theorem flat_setJ {α β : Type} (f : α → List β) (n : Nat) (h : ∀ x, (f x).length = n) (u : β) (j : Nat) (hj : j < n) : ∀ (xs : List α) (k : Nat) (hk : k < xs.length) (y : α), f y = (f xs[k]).set j u → (xs.set k y).flatMap f = (xs.flatMap f).set (k * n + j) u
  | [], k, hk, y, hy => by simp at hk
  | x :: l, 0, hk, y, hy => by
    rw [List.set_cons_zero, List.flatMap_cons, List.flatMap_cons, Nat.zero_mul, Nat.zero_add, List.set_append_left _ _ (by rw [h]; exact hj), hy]
    rfl
  | x :: l, k + 1, hk, y, hy => by
    rw [List.set_cons_succ, List.flatMap_cons, List.flatMap_cons, flat_setJ f n h u j hj l k (by simpa using hk) y (by simpa using hy), List.set_append_right _ _ (by rw [h, Nat.succ_mul]; omega), h, show (k + 1) * n + j - n = k * n + j from by rw [Nat.succ_mul]; omega]
end Plain
theorem OwnR.setJ {α : Type} {e : Elem α} {W : World} {B g n cap : Nat} {xs : List α} (h : OwnR e W B (.slice (some ⟨g, 0, none⟩) n cap) xs) (hn : xs.length = n) (k : Nat) (hk : k < xs.length) (j : Nat) (hj : j < e.n) (u : Value) (y : α) (hy : e.enc y = (e.enc xs[k]).set j u) :
    OwnR e (W.setCell ⟨g, k * e.n + j, none⟩ u) B (.slice (some ⟨g, 0, none⟩) n cap) (xs.set k y) := by
  unfold OwnR at h ⊢
  rw [List.length_set, flat_setJ e.enc e.n e.hlen u j hj xs k hk y hy]
  subst hn
  exact (World.ownsRow.stored h (k * e.n + j) u).1
theorem RowAt.setJ {α : Type} {e : Elem α} {W : World} {g : Nat} {L : List α} (h : RowAt e W (some ⟨g, 0, none⟩) L) (k : Nat) (hk : k < L.length) (j : Nat) (hj : j < e.n) (u : Value) (y : α) (hy : e.enc y = (e.enc L[k]).set j u) :
    RowAt e (W.setCell ⟨g, k * e.n + j, none⟩ u) (some ⟨g, 0, none⟩) (L.set k y) := by
  intro i hi
  rw [List.length_set] at hi
  obtain ⟨g', e1, hl, hc⟩ := h i hi
  cases e1
  refine ⟨g, rfl, by simpa using hl, fun m hm => ⟨?_, by rw [World.frozen?_setCell]; exact (hc m hm).2⟩⟩
  have hdist : i * e.n + m = k * e.n + j ↔ i = k ∧ m = j := by
    constructor
    · intro q
      have h1 : (i * e.n + m) / e.n = (k * e.n + j) / e.n := by rw [q]
      have h2 : (i * e.n + m) % e.n = (k * e.n + j) % e.n := by rw [q]
      have hp := e.hn
      rw [Nat.mul_comm i, Nat.mul_comm k, Nat.mul_add_div hp, Nat.mul_add_div hp, Nat.div_eq_of_lt hm, Nat.div_eq_of_lt hj] at h1
      rw [Nat.mul_add_mod_self_right, Nat.mul_add_mod_self_right, Nat.mod_eq_of_lt hm, Nat.mod_eq_of_lt hj] at h2
      exact ⟨by omega, h2⟩
    · rintro ⟨rfl, rfl⟩; rfl
  by_cases hik : i = k
  · subst hik
    rw [List.getElem_set_self, hy]
    by_cases hmj : m = j
    · subst hmj
      rw [World.cell?_setCell_same' _ _ _ (by rw [(hc m hm).1, List.getElem?_eq_getElem (by rw [e.hlen]; exact hm)]; rfl), List.getElem?_set_self (by rw [e.hlen]; exact hm)]
    · rw [World.cell?_setCell_other _ ⟨g, i * e.n + j, none⟩ ⟨g, i * e.n + m, none⟩ _ (fun q => hmj (hdist.1 (by have := congrArg Addr.off q; simpa using this.symm)).2), (hc m hm).1, List.getElem?_set_ne (fun q => hmj q.symm)]
  · rw [World.cell?_setCell_other _ ⟨g, k * e.n + j, none⟩ ⟨g, i * e.n + m, none⟩ _ (fun q => hik (hdist.1 (by have := congrArg Addr.off q; simpa using this.symm)).1), (hc m hm).1, List.getElem_set_ne (fun q => hik q.symm)]
end Go.Proofs.YtanekbifdedmeaaGreatDoor
