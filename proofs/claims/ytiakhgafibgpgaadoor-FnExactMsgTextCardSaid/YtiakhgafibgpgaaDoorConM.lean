/- Members as plain mathematics: rising lists of nodes, sets as words, quorums. -/
import Derived.Test.YtiakhgafibgpgaaDoorPopI
namespace Go.Proofs.YtiakhgafibgpgaaDoor.Plain
open Go
set_option linter.unusedVariables false

/-- Rising behind p, each at most 50. -/
def okIds : Int → List Int → Bool
  | _, [] => true
  | p, a :: l => (decide (p < a) && decide (a ≤ 50)) && okIds a l
def prevZ (l : List Int) : Nat → Int
  | 0 => 0
  | k + 1 => (l[k]?).getD 0
theorem okIds_step (l : List Int) (k : Nat) (h : k < l.length) : okIds (prevZ l k) (l.drop k) = ((decide (prevZ l k < l[k]) && decide (l[k] ≤ 50)) && okIds (prevZ l (k + 1)) (l.drop (k + 1))) := by
  rw [List.drop_eq_getElem_cons h, okIds]
  congr 2
  rw [prevZ, List.getElem?_eq_getElem h]
  rfl
/-- The nodes of a list as the bits of a word. -/
def setF : List Int → Nat → Nat
  | [], s => s
  | a :: l, s => setF l (if 1 ≤ a ∧ a ≤ 50 then s ||| 2 ^ a.toNat else s)
def setN (l : List Int) : Nat := setF l 0
theorem setF_append (l m : List Int) : ∀ s, setF (l ++ m) s = setF m (setF l s) := by
  induction l with
  | nil => intro s; rfl
  | cons a l ih => intro s; rw [List.cons_append, setF, ih, setF]
theorem setN_take (l : List Int) (k : Nat) (h : k < l.length) : setN (l.take (k + 1)) = if 1 ≤ l[k] ∧ l[k] ≤ 50 then setN (l.take k) ||| 2 ^ l[k].toNat else setN (l.take k) := by
  unfold setN
  rw [List.take_succ_eq_append_getElem h, setF_append]
  rfl
theorem setF_bit (l : List Int) : ∀ s i, (setF l s).testBit i = (s.testBit i || (decide (1 ≤ i) && decide (i ≤ 50) && decide ((i : Int) ∈ l))) := by
  induction l with
  | nil => intro s i; simp [setF]
  | cons a l ih =>
    intro s i
    rw [setF, ih]
    by_cases ha : 1 ≤ a ∧ a ≤ 50
    · rw [if_pos ha, Nat.testBit_or, Nat.testBit_two_pow]
      by_cases hia : (i : Int) = a
      · have : a.toNat = i := by omega
        have h1 : 1 ≤ i := by omega
        have h2 : i ≤ 50 := by omega
        simp [this, hia, h1, h2]
      · have : ¬ a.toNat = i := by omega
        simp [this, hia]
    · rw [if_neg ha]
      by_cases hia : (i : Int) = a
      · have h3 : (decide (1 ≤ i) && decide (i ≤ 50)) = false := by
          rw [Bool.eq_false_iff]; intro h; simp at h; omega
        rw [h3]
        simp
      · simp [hia]
theorem setN_bit (l : List Int) (i : Nat) : (setN l).testBit i = (decide (1 ≤ i) && decide (i ≤ 50) && decide ((i : Int) ∈ l)) := by
  unfold setN
  rw [setF_bit]
  simp
theorem setN_lt (l : List Int) : setN l < 2251799813685248 := by
  have h : setN l < 2 ^ 51 := Nat.lt_pow_two_of_testBit _ fun i hi => by
    rw [setN_bit]
    have : decide (i ≤ 50) = false := decide_eq_false (by omega)
    rw [this]
    simp
  exact h

theorem okIds_facts : ∀ (l : List Int) (p : Int), 0 ≤ p → okIds p l = true → l.Nodup ∧ ∀ a ∈ l, p < a ∧ a ≤ 50 := by
  intro l
  induction l with
  | nil => intro p _ _; exact ⟨List.nodup_nil, fun a ha => by simp at ha⟩
  | cons b l ih =>
    intro p hp h
    rw [okIds, Bool.and_eq_true, Bool.and_eq_true, decide_eq_true_iff, decide_eq_true_iff] at h
    obtain ⟨⟨h1, h2⟩, h3⟩ := h
    obtain ⟨hn, ha⟩ := ih b (by omega) h3
    refine ⟨?_, ?_⟩
    · rw [List.nodup_cons]
      exact ⟨fun hm => by have := ha b hm; omega, hn⟩
    · intro a hm
      rcases List.mem_cons.1 hm with rfl | hm
      · exact ⟨h1, h2⟩
      · have := ha a hm; omega

/-- The greatest of a set is p. -/
def TopIs (s : Nat) (p : Int) : Prop := s < 2 ^ (p.toNat + 1) ∧ ((s = 0 ∧ p = 0) ∨ (2 ^ p.toNat ≤ s ∧ 1 ≤ p)) ∧ p ≤ 50
theorem topIs_zero : TopIs 0 0 := ⟨by decide, .inl ⟨rfl, rfl⟩, by decide⟩
theorem topIs_no {s : Nat} {p a : Int} (h : TopIs s p) (h1 : 1 ≤ a) (h2 : a ≤ p) : 2 ^ a.toNat ≤ s := by
  obtain ⟨_, h3, _⟩ := h
  rcases h3 with ⟨_, h3⟩ | ⟨h3, _⟩
  · omega
  · exact Nat.le_trans (Nat.pow_le_pow_right (by decide) (by omega)) h3
theorem topIs_lt {s : Nat} {p a : Int} (h : TopIs s p) (h2 : p < a) : s < 2 ^ a.toNat := by
  obtain ⟨h1, h3, _⟩ := h
  have h0 : 0 ≤ p := by rcases h3 with ⟨_, h3⟩ | ⟨_, h3⟩ <;> omega
  exact Nat.lt_of_lt_of_le h1 (Nat.pow_le_pow_right (by decide) (by omega))
theorem topIs_next {s : Nat} {p a : Int} (h : TopIs s p) (h1 : 1 ≤ a) (h2 : p < a) (h3 : a ≤ 50) : TopIs (s ||| 2 ^ a.toNat) a := by
  have hl := topIs_lt h h2
  refine ⟨?_, .inr ⟨?_, h1⟩, h3⟩
  · exact Nat.or_lt_two_pow (Nat.lt_of_lt_of_le hl (Nat.pow_le_pow_right (by decide) (by omega))) (Nat.pow_lt_pow_right (by decide) (by omega))
  · exact Nat.right_le_or

/-- Which members are right. -/
def disjB (v l : List Int) : Bool := l.all fun x => !decide (x ∈ v)
def confB (v l : List Int) : Bool := (okIds 0 v && okIds 0 l) && ((decide (1 ≤ v.length) && disjB v l) && (decide (v.length ≤ 7) && decide (l.length ≤ 7)))
theorem pop_and (v ids : List Int) (h : okIds 0 v = true) : popN 64 (setN v &&& setN ids) = (v.filter fun x => decide (x ∈ ids)).length := by
  obtain ⟨hn, ha⟩ := okIds_facts v 0 (by decide) h
  rw [popN_pc, ← pc_list (fun x => decide (x ∈ ids)) 64 v hn (fun a hm => by have := ha a hm; omega)]
  apply pc_congr
  intro i hi
  rw [Nat.testBit_and, setN_bit, setN_bit]
  by_cases hm : (i : Int) ∈ v
  · have := ha _ hm
    have h1 : 1 ≤ i := by omega
    have h2 : i ≤ 50 := by omega
    simp [h1, h2, hm]
  · simp [hm]
theorem pop_set (v : List Int) (h : okIds 0 v = true) : popN 64 (setN v) = v.length := by
  have := pop_and v v h
  rw [Nat.and_self] at this
  rw [this, List.filter_eq_self.2 (fun a ha => by simpa using ha)]
theorem set_zero (v : List Int) (h : okIds 0 v = true) : setN v = 0 ↔ v.length = 0 := by
  constructor
  · intro e
    have := pop_set v h
    rw [e] at this
    rw [← this]
    decide
  · intro e
    rw [List.length_eq_zero_iff.1 e]
    rfl
theorem set_disj (v l : List Int) (h : okIds 0 v = true) (hl : okIds 0 l = true) : setN v &&& setN l = 0 ↔ disjB v l = true := by
  obtain ⟨_, ha⟩ := okIds_facts v 0 (by decide) h
  constructor
  · intro e
    rw [disjB, List.all_eq_true]
    intro x hx
    rw [Bool.not_eq_true']
    apply decide_eq_false
    intro hv
    have hb := ha x hv
    obtain ⟨i, rfl⟩ := Int.eq_ofNat_of_zero_le (show 0 ≤ x by omega)
    have h1 : 1 ≤ i := by omega
    have h2 : i ≤ 50 := by omega
    have hbit : (setN v &&& setN l).testBit i = true := by
      rw [Nat.testBit_and, setN_bit, setN_bit]
      simp [h1, h2, hv, hx]
    rw [e] at hbit
    simp at hbit
  · intro e
    rw [disjB, List.all_eq_true] at e
    apply Nat.eq_of_testBit_eq
    intro i
    rw [Nat.testBit_and, setN_bit, setN_bit, Nat.zero_testBit]
    by_cases hx : (i : Int) ∈ l
    · have := e _ hx
      have hv : ¬ (i : Int) ∈ v := by simpa using this
      simp [hv]
    · simp [hx]
theorem pop_or (v u : List Int) (hv : okIds 0 v = true) (hu : okIds 0 u = true) : popN 64 (setN v ||| setN u) + (v.filter fun x => decide (x ∈ u)).length = v.length + u.length := by
  rw [← pop_and v u hv, ← pop_set v hv, ← pop_set u hu, popN_pc, popN_pc, popN_pc, popN_pc]
  have := pc_or (fun i => (setN v).testBit i) (fun i => (setN u).testBit i) 64
  simp only [← Nat.testBit_and, ← Nat.testBit_or] at this
  exact this
end Go.Proofs.YtiakhgafibgpgaaDoor.Plain
