/- Texts rising, each once: the specification's l1Rising by its contract. -/
import Derived.Test.YtmgjkomgpkoenaaGreatStrQ
import Derived.Sort.Walk0
namespace Go.Proofs.YtmgjkomgpkoenaaGreat
open Go.RowKit Plain
set_option linter.unusedVariables false

namespace Plain
def ltB (a b : ByteArray) : Prop := a.data.toList < b.data.toList
theorem ltB_irrefl (a : ByteArray) : ¬ ltB a a := List.lt_irrefl _
theorem ltB_trans {a b c : ByteArray} (h : ltB a b) (h2 : ltB b c) : ltB a c := List.lt_trans h h2
theorem ltB_tri {a b : ByteArray} (h : ¬ ltB a b) (h2 : a ≠ b) : ltB b a := by
  rcases Classical.em (ltB b a) with h3 | h3
  · exact h3
  · exact absurd (ByteArray.ext (Array.toList_inj.1 (List.le_antisymm h3 h))) h2
theorem less_ltB (a b : ByteArray) : Op.bytesLess a.toList b.toList = true ↔ ltB a b := by
  rw [bytesLess_eq, ByteArray.toList_eq, ByteArray.toList_eq, decide_eq_true_iff]; rfl
theorem beq_bytes (a b : ByteArray) : (a.toList == b.toList) = true ↔ a = b := by
  rw [beq_iff_eq, ByteArray.toList_eq, ByteArray.toList_eq]
  exact ⟨fun h => ByteArray.ext (Array.toList_inj.1 h), fun h => by rw [h]⟩
def Strict (l : List ByteArray) : Prop := l.Pairwise ltB
theorem strict_ext {l1 l2 : List ByteArray} (h1 : Strict l1) (h2 : Strict l2) (h : ∀ x, x ∈ l1 ↔ x ∈ l2) : l1 = l2 := by
  induction l1 generalizing l2 with
  | nil =>
    cases l2 with
    | nil => rfl
    | cons b t => have := (h b).2 (by simp); simp at this
  | cons a t ih =>
    cases l2 with
    | nil => have := (h a).1 (by simp); simp at this
    | cons b t2 =>
      unfold Strict at h1 h2
      rw [List.pairwise_cons] at h1 h2
      have e : a = b := by
        rcases List.mem_cons.1 ((h a).1 (by simp)) with e | e
        · exact e
        · rcases List.mem_cons.1 ((h b).2 (by simp)) with e2 | e2
          · exact e2.symm
          · exact absurd (ltB_trans (h1.1 b e2) (h2.1 a e)) (ltB_irrefl a)
      subst e
      rw [ih h1.2 h2.2 (fun x => ?_)]
      constructor
      · intro hx
        rcases List.mem_cons.1 ((h x).1 (by simp [hx])) with e | e
        · subst e; exact absurd (h1.1 x hx) (ltB_irrefl x)
        · exact e
      · intro hx
        rcases List.mem_cons.1 ((h x).2 (by simp [hx])) with e | e
        · subst e; exact absurd (h2.1 x hx) (ltB_irrefl x)
        · exact e
theorem strict_ins {acc : List ByteArray} {x : ByteArray} {k : Nat} (h : Strict acc) (hlo : ∀ y ∈ acc.take k, ltB y x) (hhi : ∀ y ∈ acc.drop k, ltB x y) : Strict (acc.take k ++ x :: acc.drop k) := by
  unfold Strict at h ⊢
  rw [← List.take_append_drop k acc, List.pairwise_append] at h
  rw [List.pairwise_append, List.pairwise_cons]
  refine ⟨h.1, ⟨hhi, h.2.1⟩, fun a ha b hb => ?_⟩
  rcases List.mem_cons.1 hb with rfl | hb
  · exact hlo a ha
  · exact h.2.2 a ha b hb
theorem mem_ins {acc : List ByteArray} {x y : ByteArray} {k : Nat} : y ∈ acc.take k ++ x :: acc.drop k ↔ y ∈ acc ∨ y = x := by
  rw [List.mem_append, List.mem_cons]
  constructor
  · rintro (h | h | h)
    · exact .inl (List.mem_of_mem_take h)
    · exact .inr h
    · exact .inl (List.mem_of_mem_drop h)
  · rintro (h | h)
    · rw [← List.take_append_drop k acc, List.mem_append] at h
      rcases h with h | h
      · exact .inl h
      · exact .inr (.inr h)
    · exact .inr (.inl h)
theorem take_low {acc : List ByteArray} {x : ByteArray} {k : Nat} (h : Strict acc) (hk : k < acc.length) (hx : ltB acc[k] x) : ∀ y ∈ acc.take (k + 1), ltB y x := by
  intro y hy
  rw [List.take_succ_eq_append_getElem hk, List.mem_append, List.mem_singleton] at hy
  rcases hy with hy | rfl
  · have hm : acc[k] ∈ acc.drop k := List.mem_drop_iff_getElem.2 ⟨0, by omega, by simp⟩
    unfold Strict at h
    rw [← List.take_append_drop k acc, List.pairwise_append] at h
    exact ltB_trans (h.2.2 y hy acc[k] hm) hx
  · exact hx
theorem drop_high {acc : List ByteArray} {x : ByteArray} {k : Nat} (hk : k < acc.length) (hx : ltB x acc[k]) (h : ∀ y ∈ acc.drop (k + 1), ltB x y) : ∀ y ∈ acc.drop k, ltB x y := by
  intro y hy
  rw [List.drop_eq_getElem_cons hk, List.mem_cons] at hy
  rcases hy with rfl | hy
  · exact hx
  · exact h y hy
theorem shift_row (acc : List ByteArray) (y : ByteArray) (k : Nat) (hk : k < acc.length) : (acc.take (k + 1) ++ y :: acc.drop (k + 1)).set (k + 1) acc[k] = acc.take k ++ acc[k] :: acc.drop k := by
  rw [List.set_append_right _ _ (by rw [List.length_take]; omega), List.length_take, show k + 1 - min (k + 1) acc.length = 0 from by omega, List.set_cons_zero, List.take_succ_eq_append_getElem hk, List.append_assoc]
  conv => rhs; rw [List.drop_eq_getElem_cons hk]
  rfl
theorem put_row (acc : List ByteArray) (x y : ByteArray) (k : Nat) (hk : k ≤ acc.length) : (acc.take k ++ y :: acc.drop k).set k x = acc.take k ++ x :: acc.drop k := by
  rw [List.set_append_right _ _ (by rw [List.length_take]; omega), List.length_take, show k - min k acc.length = 0 from by omega, List.set_cons_zero]
def anyB (ls : List ByteArray) (s : ByteArray) : Bool := ls.any fun x => x.toList == s.toList
theorem anyB_mem (ls : List ByteArray) (s : ByteArray) : anyB ls s = true ↔ s ∈ ls := by
  unfold anyB
  rw [List.any_eq_true]
  constructor
  · rintro ⟨x, hx, h⟩
    rw [beq_bytes] at h
    rw [← h]; exact hx
  · intro h
    exact ⟨s, h, (beq_bytes s s).2 rfl⟩
theorem any_step {α : Type} (p : α → Bool) (l : List α) (k : Nat) (h : k < l.length) : (l.drop k).any p = (p l[k] || (l.drop (k + 1)).any p) := by
  rw [List.drop_eq_getElem_cons h, List.any_cons]
end Plain



end Go.Proofs.YtmgjkomgpkoenaaGreat