/- How two trees are asked, one prefix behind another: the mathematics. -/
import Derived.Test.YtldgkpnlplfopaaGreatDoorNzA
namespace Go.Proofs.YtldgkpnlplfopaaGreatDoor
open Go.RowKit Go.Maps Plain
set_option linter.unusedVariables false

namespace Plain
/-- The sixteen behind a branch. -/
def sxB (q : Nat × Nat) : List (Nat × Nat) := (List.range 16).map fun c => (q.1 + 1, q.2 * 16 + c)
theorem sxB_len (q : Nat × Nat) : (sxB q).length = 16 := by simp [sxB]
def gdB (q : Nat × Nat) : Prop := q.1 ≤ 2 ∧ q.2 < 16 ^ q.1
theorem gdB_lt {q : Nat × Nat} (h : gdB q) : q.2 < 256 := by
  obtain ⟨h1, h2⟩ := h
  have : 16 ^ q.1 ≤ 16 ^ 2 := Nat.pow_le_pow_right (by omega) h1
  omega
theorem gdB_lt16 {q : Nat × Nat} (h : gdB q) (h1 : q.1 < 2) : q.2 < 16 := by
  have h2 := h.2
  have : 16 ^ q.1 ≤ 16 ^ 1 := Nat.pow_le_pow_right (by omega) (by omega)
  omega
theorem gdB_next {q : Nat × Nat} (h : gdB q) (h1 : q.1 < 2) : ∀ x ∈ sxB q, gdB x ∧ x.1 = q.1 + 1 := by
  intro x hx
  obtain ⟨c, hc, rfl⟩ := List.mem_map.1 hx
  have := List.mem_range.1 hc
  have h2 := h.2
  refine ⟨⟨by simp; omega, ?_⟩, rfl⟩
  simp only [Nat.pow_succ]
  omega
/-- What is asked, and which leaves are unlike, behind i steps. -/
def stB (d : Nat × Nat → Bool) : Nat → List (Nat × Nat) × List (Nat × Nat)
  | 0 => ([(0, 0)], [])
  | i + 1 => match (stB d i).1[i]? with
    | none => stB d i
    | some q => if d q then (if q.1 = 2 then ((stB d i).1, (stB d i).2 ++ [q]) else ((stB d i).1 ++ sxB q, (stB d i).2)) else stB d i
theorem stB_end (d : Nat × Nat → Bool) (i : Nat) (h : (stB d i).1.length ≤ i) : ∀ j, i ≤ j → stB d j = stB d i
  | 0, hj => by
    obtain rfl : i = 0 := by omega
    rfl
  | j + 1, hj => by
    by_cases e : i = j + 1
    · rw [e]
    · have ih := stB_end d i h j (by omega)
      have hn : (stB d j).1[j]? = none := List.getElem?_eq_none (by rw [ih]; omega)
      rw [stB, hn]
      exact ih
theorem stB_same (d : Nat × Nat → Bool) (i : Nat) (q : Nat × Nat) (hq : (stB d i).1[i]? = some q) (hd : d q = false) : stB d (i + 1) = stB d i := by
  rw [stB, hq]
  simp [hd]
theorem stB_leaf (d : Nat × Nat → Bool) (i : Nat) (q : Nat × Nat) (hq : (stB d i).1[i]? = some q) (hd : d q = true) (h2 : q.1 = 2) : stB d (i + 1) = ((stB d i).1, (stB d i).2 ++ [q]) := by
  rw [stB, hq]
  simp [hd, h2]
theorem stB_more (d : Nat × Nat → Bool) (i : Nat) (q : Nat × Nat) (hq : (stB d i).1[i]? = some q) (hd : d q = true) (h2 : ¬ q.1 = 2) : stB d (i + 1) = ((stB d i).1 ++ sxB q, (stB d i).2) := by
  rw [stB, hq]
  simp [hd, h2]
/-- How many steps a branch may cost. -/
def wtB (q : Nat × Nat) : Nat := if q.1 = 0 then 273 else if q.1 = 1 then 17 else 1
def potB (l : List (Nat × Nat)) : Nat := (l.map wtB).sum
theorem potB_app (l m : List (Nat × Nat)) : potB (l ++ m) = potB l + potB m := by simp [potB]
theorem potB_len (l : List (Nat × Nat)) : l.length ≤ potB l := by
  induction l with
  | nil => simp
  | cons x l ih =>
    have : 1 ≤ wtB x := by unfold wtB; split <;> (try split) <;> omega
    simp only [potB, List.map_cons, List.sum_cons, List.length_cons] at ih ⊢
    omega
theorem potB_sx (q : Nat × Nat) (h : q.1 < 2) : potB (sxB q) + 1 = wtB q := by
  have e : (sxB q).map wtB = List.replicate 16 (if q.1 = 0 then 17 else 1) := by
    unfold sxB
    rw [List.map_map]
    refine List.eq_replicate_iff.2 ⟨by simp, fun x hx => ?_⟩
    obtain ⟨c, _, rfl⟩ := List.mem_map.1 hx
    simp [wtB]
  unfold potB
  rw [e, List.sum_replicate_nat]
  unfold wtB
  split
  · omega
  · rename_i h0
    have : q.1 = 1 := by omega
    simp [this]
structure InvB (s : List (Nat × Nat) × List (Nat × Nat)) (i : Nat) : Prop where
  good : ∀ q ∈ s.1, gdB q
  pot : i + potB (s.1.drop i) ≤ 273
  unl : ∀ q ∈ s.2, gdB q ∧ q.1 = 2
  few : s.2.length ≤ i
theorem InvB.len {s : List (Nat × Nat) × List (Nat × Nat)} {i : Nat} (h : InvB s i) (hi : i ≤ s.1.length) : s.1.length ≤ 273 := by
  have h1 := h.pot
  have h2 := potB_len (s.1.drop i)
  rw [List.length_drop] at h2
  omega
theorem drop_pot {l : List (Nat × Nat)} {i : Nat} {q : Nat × Nat} (h : l[i]? = some q) : potB (l.drop i) = wtB q + potB (l.drop (i + 1)) := by
  obtain ⟨h1, h2⟩ := List.getElem?_eq_some_iff.1 h
  rw [List.drop_eq_getElem_cons h1, h2]
  simp [potB]
theorem stB_inv (d : Nat × Nat → Bool) : ∀ i, i ≤ (stB d i).1.length → InvB (stB d i) i
  | 0, _ => ⟨fun q hq => by simp [stB] at hq; subst hq; exact ⟨by simp, by simp⟩, by simp [stB, potB, wtB], fun q hq => by simp [stB] at hq, by simp [stB]⟩
  | i + 1, hi => by
    cases hq : (stB d i).1[i]? with
    | none =>
      have e : stB d (i + 1) = stB d i := by rw [stB, hq]
      rw [e] at hi
      have := List.getElem?_eq_none_iff.1 hq
      omega
    | some q =>
      obtain ⟨h1, h2⟩ := List.getElem?_eq_some_iff.1 hq
      have ih := stB_inv d i (by omega)
      have hg : gdB q := ih.good q (by rw [← h2]; exact List.getElem_mem _)
      have hp := drop_pot hq
      have hw : 1 ≤ wtB q := by unfold wtB; split <;> (try split) <;> omega
      have ip := ih.pot
      have fw := ih.few
      cases hd : d q with
      | false =>
        rw [stB_same d i q hq hd]
        exact ⟨ih.good, by omega, ih.unl, by omega⟩
      | true =>
        by_cases h2 : q.1 = 2
        · rw [stB_leaf d i q hq hd h2]
          refine ⟨ih.good, by simp only; omega, fun x hx => ?_, by simp only [List.length_append, List.length_singleton]; omega⟩
          rcases List.mem_append.1 hx with e | e
          · exact ih.unl x e
          · rw [List.mem_singleton] at e
            subst e
            exact ⟨hg, h2⟩
        · rw [stB_more d i q hq hd h2]
          have hlt : q.1 < 2 := by have := hg.1; omega
          refine ⟨fun x hx => ?_, ?_, ih.unl, by simp only; omega⟩
          · rcases List.mem_append.1 hx with e | e
            · exact ih.good x e
            · exact (gdB_next hg hlt x e).1
          · simp only
            rw [List.drop_append_of_le_length (by omega), potB_app]
            have := potB_sx q hlt
            omega
/-- What is asked in all, and the leaves that are unlike. -/
def askB (d : Nat × Nat → Bool) : List (Nat × Nat) := (stB d 273).1
def unlB (d : Nat × Nat → Bool) : List (Nat × Nat) := (stB d 273).2
theorem stB_fin (d : Nat × Nat → Bool) (i : Nat) (h : (stB d i).1.length = i) : stB d i = (askB d, unlB d) := by
  have h1 := (stB_inv d i (by omega)).len (by omega)
  have := stB_end d i (by omega) 273 (by omega)
  unfold askB unlB
  rw [this]
theorem stB_congr {d d' : Nat × Nat → Bool} (h : ∀ q, gdB q → d q = d' q) : ∀ i, i ≤ (stB d i).1.length → stB d i = stB d' i
  | 0, _ => rfl
  | i + 1, hi => by
    cases hq : (stB d i).1[i]? with
    | none =>
      have e : stB d (i + 1) = stB d i := by rw [stB, hq]
      rw [e] at hi
      have := List.getElem?_eq_none_iff.1 hq
      omega
    | some q =>
      obtain ⟨h1, h2⟩ := List.getElem?_eq_some_iff.1 hq
      have ih := stB_congr h i (by omega)
      have hg : gdB q := (stB_inv d i (by omega)).good q (by rw [← h2]; exact List.getElem_mem _)
      rw [stB, hq, stB, ← ih, hq]
      simp only [h q hg]
/-- A branch as a prefix. -/
def prT (q : Nat × Nat) : ByteArray := match q.1 with
  | 0 => ByteArray.empty
  | 1 => dgC q.2
  | _ => dgC (q.2 / 16) ++ dgC (q.2 % 16)
theorem prT_next {q : Nat × Nat} (h : gdB q) (h1 : q.1 < 2) (c : Nat) (hc : c < 16) : prT (q.1 + 1, q.2 * 16 + c) = prT q ++ dgC c := by
  obtain ⟨n, v⟩ := q
  simp only at h1 ⊢
  match n, h1 with
  | 0, _ =>
    have : v = 0 := by have := h.2; simpa using this
    subst this
    simp [prT]
  | 1, _ =>
    have : (v * 16 + c) / 16 = v := by omega
    have h3 : (v * 16 + c) % 16 = c := by omega
    simp [prT, this, h3]
theorem prT_size {q : Nat × Nat} (h : gdB q) : (prT q).size = q.1 := by
  obtain ⟨n, v⟩ := q
  match n, h.1 with
  | 0, _ => rfl
  | 1, _ => rfl
  | 2, _ => rfl
theorem prT_ok {q : Nat × Nat} (h : gdB q) : prB (prT q) = true := by
  obtain ⟨n, v⟩ := q
  have h0 : prB ByteArray.empty = true := by decide +kernel
  match n, h with
  | 0, _ => exact h0
  | 1, h =>
    have := gdB_lt16 h (by simp)
    have e := pr_next h0 (by decide) this
    rw [ByteArray.empty_append] at e
    exact e
  | 2, h =>
    have h3 := gdB_lt h
    simp only at h3
    have e := pr_next h0 (by decide) (c := v / 16) (by omega)
    rw [ByteArray.empty_append] at e
    exact pr_next e (by rw [dgC_size]; omega) (by omega)
  | n + 3, h => have := h.1; simp at this
theorem prT_br {q : Nat × Nat} (h : gdB q) : brN (prT q).data.toList = q.2 := by
  obtain ⟨n, v⟩ := q
  match n, h with
  | 0, h => have : v = 0 := by have := h.2; simpa using this
            subst this; rfl
  | 1, h =>
    have := gdB_lt16 h (by simp)
    have e := br_next ByteArray.empty this
    rw [ByteArray.empty_append] at e
    simp only [prT]
    rw [e]
    simp [brN]
  | 2, h =>
    have h3 := gdB_lt h
    simp only at h3
    have e := br_next ByteArray.empty (c := v / 16) (by omega)
    rw [ByteArray.empty_append] at e
    simp only [prT]
    rw [br_next _ (by omega), e]
    simp [brN]
    omega
  | n + 3, h => have := h.1; simp at this
/-- The node of a set at a branch; whether two sets are unlike there. -/
def ndB (ls : List ByteArray) (q : Nat × Nat) : ByteArray := nodeU (2 - q.1) ls (prT q)
def dfB (a b : List ByteArray) (q : Nat × Nat) : Bool := decide (ndB a q ≠ ndB b q)
theorem tN_nd {ls : List ByteArray} (h : ∀ s ∈ ls, digB s = true) {q : Nat × Nat} (hq : gdB q) : tN (ls.map kyL) q.1 q.2 = kyL (ndB ls q) := by
  have := nodeK_U (2 - q.1) ls (prT q) h (prT_ok hq) (by rw [prT_size hq]; have := hq.1; omega)
  rw [prT_size hq, prT_br hq] at this
  exact this
end Plain
end Go.Proofs.YtldgkpnlplfopaaGreatDoor
