/- A manifest comes back from its text, and what is read has just that text: as mathematics. -/
import Derived.Test.YtkeindhefiaghaaManJ
namespace Go.Proofs.Ytkeindhefiaghaa
open Go.RowKit Plain
set_option linter.unusedVariables false
namespace Plain
theorem b_eqq {a b : ByteArray} (h : a.data.toList = b.data.toList) : a = b := ByteArray.ext (Array.toList_inj.1 h)
theorem dig_no10 {s : ByteArray} (h : digB s = true) : ∀ x ∈ s.data.toList, x.toNat ≠ 10 := by
  unfold digB at h
  rw [Bool.and_eq_true, Bool.and_eq_true] at h
  obtain ⟨⟨h1, h2⟩, h3⟩ := h
  have e : (s.extract 0 7).data.toList = shaL := by rw [← ByteArray.toList_eq]; exact eq_of_beq h2
  have e2 : s.data.toList.take 7 = shaL := by rw [← e, ext_mid]; simp [toB_list]
  intro x hx
  rw [← List.take_append_drop 7 s.data.toList, List.mem_append] at hx
  rcases hx with hx | hx
  · rw [e2] at hx
    unfold shaL at hx
    simp at hx
    rcases hx with rfl | rfl | rfl | rfl | rfl | rfl | rfl <;> decide
  · unfold hexFrom at h3
    have := List.all_eq_true.1 h3 x hx
    intro e10
    rw [e10] at this
    revert this
    decide
def cfgL : List UInt8 := [99, 111, 110, 102, 105, 103, 32]
def layL : List UInt8 := [108, 97, 121, 101, 114, 32]
def linesL : List (List UInt8) → List UInt8
  | [] => []
  | l :: ls => layL ++ l ++ 10 :: linesL ls
theorem laysS_list (acc : ByteArray) (ls : List ByteArray) : (laysS acc ls).data.toList = acc.data.toList ++ linesL (ls.map fun l => l.data.toList) := by
  induction ls generalizing acc with
  | nil => simp [laysS, linesL]
  | cons l ls ih =>
    rw [laysS, ih, List.map_cons, linesL]
    simp only [ByteArray.data_append, Array.toList_append, List.append_assoc]
    rfl
theorem splt_lines (ls : List (List UInt8)) (h : ∀ l ∈ ls, ∀ x ∈ l, x.toNat ≠ 10) : splt 10 (linesL ls) = ls.map (fun l => layL ++ l) ++ [[]] := by
  induction ls with
  | nil => rfl
  | cons l ls ih =>
    rw [linesL, splt_at 10 (layL ++ l) (linesL ls) 10 rfl (fun x hx => by
      rw [List.mem_append] at hx
      rcases hx with hx | hx
      · unfold layL at hx; simp at hx; rcases hx with rfl | rfl | rfl | rfl | rfl | rfl <;> decide
      · exact h l (by simp) x hx), ih (fun l hl => h l (by simp [hl]))]
    rfl
theorem toB_ext (h : List UInt8) (l : ByteArray) : (toB (h ++ l.data.toList)).extract h.length (toB (h ++ l.data.toList)).size = l := by
  apply b_eqq
  rw [ext_mid, toB_list, toB_list, List.drop_left, ← len_data, toB_list, List.length_append, Nat.add_sub_cancel_left, List.take_length]
theorem okL_mk (hd : ByteArray) (h : List UInt8) (hh : hd.data.toList = h) (l : ByteArray) (hl : digB l = true) : okL hd (toB (h ++ l.data.toList)) = true := by
  have hz : hd.size = h.length := by rw [← hh, len_data]
  have hs : (toB (h ++ l.data.toList)).size = h.length + l.size := by rw [← len_data, toB_list, List.length_append, len_data]
  unfold okL
  rw [Bool.and_eq_true, Bool.and_eq_true]
  refine ⟨⟨decide_eq_true (by omega), ?_⟩, ?_⟩
  · rw [beq_iff_eq, ByteArray.toList_eq, ByteArray.toList_eq, hh, hz, ext_mid, toB_list, toB_list]
    simp
  · rw [hz, toB_ext]; exact hl
theorem laysOk_mk (ls : List ByteArray) (h : ∀ l ∈ ls, digB l = true) : laysOk (ls.map (fun l => toB (layL ++ l.data.toList)) ++ [⟨#[]⟩]) = true ∧ laysOf (ls.map (fun l => toB (layL ++ l.data.toList)) ++ [⟨#[]⟩]) = ls := by
  induction ls with
  | nil => exact ⟨by show emp ⟨#[]⟩ = true; rw [emp_size]; rfl, rfl⟩
  | cons l ls ih =>
    obtain ⟨h1, h2⟩ := ih (fun l hl => h l (by simp [hl]))
    rw [List.map_cons, List.cons_append, laysOk_cons _ _ (by simp), laysOf_cons _ _ (by simp), h1, h2, okL_mk layH layL rfl l (h l (by simp))]
    refine ⟨rfl, ?_⟩
    rw [show (6 : Nat) = layL.length from rfl, toB_ext]
theorem man_cut {cf : ByteArray} {ls : List ByteArray} (h : manB cf ls = true) : cutB 10 (manS cf ls) = toB (cfgL ++ cf.data.toList) :: (ls.map (fun l => toB (layL ++ l.data.toList)) ++ [⟨#[]⟩]) := by
  obtain ⟨h1, h2, h3, h4⟩ := manB_lays h
  have hl : (manS cf ls).data.toList = (cfgL ++ cf.data.toList) ++ 10 :: linesL (ls.map fun l => l.data.toList) := by
    unfold manS
    rw [if_pos h, laysS_list]
    simp only [ByteArray.data_append, Array.toList_append, List.append_assoc]
    rfl
  unfold cutB
  rw [hl, splt_at 10 _ _ 10 rfl (fun x hx => by
    rw [List.mem_append] at hx
    rcases hx with hx | hx
    · unfold cfgL at hx; simp at hx; rcases hx with rfl | rfl | rfl | rfl | rfl | rfl | rfl <;> decide
    · exact dig_no10 h1 x hx), splt_lines _ (fun l hl x hx => by
      obtain ⟨y, hy, rfl⟩ := List.mem_map.1 hl
      exact dig_no10 (h4 y hy) x hx)]
  rw [List.map_cons, List.map_append, List.map_map, List.map_map]
  rfl
theorem man_lines (cf : ByteArray) (ls : List ByteArray) : (cutB 10 (manS cf ls)).length ≤ ls.length + 2 := by
  cases h : manB cf ls with
  | true => rw [man_cut h]; simp
  | false =>
    have : manS cf ls = ⟨#[]⟩ := by unfold manS; rw [h]; rfl
    rw [this, cutB_emp _ (by rw [emp_size]; rfl)]
    simp
/-- What is written comes back. -/
theorem man_back {cf : ByteArray} {ls : List ByteArray} (h : manB cf ls = true) : rmV (cutB 10 (manS cf ls)) = (cf, ls, 0) := by
  obtain ⟨h1, h2, h3, h4⟩ := manB_lays h
  have hc := man_cut h
  obtain ⟨k1, k2⟩ := laysOk_mk ls h4
  rw [hc, rm_good _ _ (okL_mk cfgH cfgL rfl cf h1) k1 (by rw [k2]; exact ⟨h2, h3⟩), k2]
  rw [show (7 : Nat) = cfgL.length from rfl, toB_ext]
theorem manS_ne {cf : ByteArray} {ls : List ByteArray} (h : manB cf ls = true) : (manS cf ls).toList.isEmpty = false := by
  have hl : (manS cf ls).data.toList = 99 :: ((([111, 110, 102, 105, 103, 32] : List UInt8) ++ cf.data.toList) ++ 10 :: linesL (ls.map fun l => l.data.toList)) := by
    unfold manS
    rw [if_pos h, laysS_list]
    simp only [ByteArray.data_append, Array.toList_append, List.append_assoc]
    rfl
  rw [ByteArray.toList_eq, hl]
  rfl
def joinL : List (List UInt8) → List UInt8
  | [] => []
  | [h] => h
  | h :: a :: t => h ++ 10 :: joinL (a :: t)
theorem join_cons (h : List UInt8) (t : List (List UInt8)) (ht : t ≠ []) : joinL (h :: t) = h ++ 10 :: joinL t := by
  cases t with
  | nil => exact absurd rfl ht
  | cons a b => rfl
theorem join_splt (l : List UInt8) : joinL (splt 10 l) = l := by
  induction l with
  | nil => rfl
  | cons c l ih =>
    obtain ⟨h, t, e⟩ := splt_ne 10 l
    rw [splt]
    split
    · next hc =>
      rw [join_cons _ _ (by rw [e]; simp), ih, List.nil_append]
      congr 1
      exact (UInt8.toNat_inj.1 (hc.trans (show (10 : Nat) = (10 : UInt8).toNat from rfl))).symm
    · rw [e] at ih ⊢
      cases t with
      | nil => simp only [joinL] at ih ⊢; rw [ih]
      | cons a b => simp only [joinL] at ih ⊢; rw [← ih]; rfl
theorem okL_list {hd : ByteArray} {p : ByteArray} (h : okL hd p = true) : p.data.toList = hd.data.toList ++ (p.extract hd.size p.size).data.toList := by
  obtain ⟨h1, h2, h3⟩ := okL_parts h
  rw [beq_iff_eq, ByteArray.toList_eq, ByteArray.toList_eq] at h2
  rw [← h2, ext_mid, ext_mid, toB_list, toB_list]
  simp only [List.drop_zero, Nat.sub_zero]
  rw [List.take_of_length_le (show (p.data.toList.drop hd.size).length ≤ p.size - hd.size from by rw [List.length_drop, len_data]; exact Nat.le_refl _)]
  exact (List.take_append_drop _ _).symm
theorem lays_join (qs : List ByteArray) (h : laysOk qs = true) : joinL (qs.map fun q => q.data.toList) = linesL ((laysOf qs).map fun l => l.data.toList) := by
  induction qs with
  | nil => simp [laysOk] at h
  | cons q qs ih =>
    by_cases hq : qs = []
    · subst hq
      have : q = ⟨#[]⟩ := emp_eq h
      subst this
      rfl
    · rw [laysOk_cons q qs hq, Bool.and_eq_true] at h
      rw [List.map_cons, join_cons _ _ (by simpa using hq), ih h.2, laysOf_cons q qs hq, List.map_cons, linesL, okL_list h.1]
      simp only [List.append_assoc]
      rfl
/-- What is read has just the text that it was read from. -/
theorem man_read {s : ByteArray} {c : ByteArray} {ls : List ByteArray} {k : Int} (h : rmV (cutB 10 s) = (c, ls, k)) : (k = 0 ∧ manS c ls = s) ∨ ((k = 1 ∨ k = 2) ∧ c = ⟨#[]⟩ ∧ ls = []) := by
  cases hp : cutB 10 s with
  | nil => exact absurd hp (cutB_ne s)
  | cons p qs =>
    rw [hp] at h
    by_cases h1 : okL cfgH p = true
    · by_cases h2 : laysOk qs = true
      · by_cases h3 : 1 ≤ (laysOf qs).length ∧ (laysOf qs).length ≤ 40
        · rw [rm_good p qs h1 h2 h3] at h
          simp only [Prod.mk.injEq] at h
          obtain ⟨rfl, rfl, rfl⟩ := h
          refine .inl ⟨rfl, ?_⟩
          have hB : manB (p.extract 7 p.size) (laysOf qs) = true := manB_mk (okL_parts h1).2.2 h3.1 h3.2 (laysOf_dig qs h2)
          apply b_eqq
          unfold manS
          rw [if_pos hB, laysS_list]
          have e : s.data.toList = joinL ((p :: qs).map fun q => q.data.toList) := by
            rw [← hp]
            unfold cutB
            rw [List.map_map]
            have : (splt 10 s.data.toList).map ((fun q : ByteArray => q.data.toList) ∘ toB) = splt 10 s.data.toList := by
              rw [show ((fun q : ByteArray => q.data.toList) ∘ toB) = id from rfl, List.map_id]
            rw [this, join_splt]
          have hq : qs ≠ [] := fun e => by subst e; simp [laysOk] at h2
          rw [e, List.map_cons, join_cons _ _ (by simpa using hq), lays_join qs h2, okL_list h1]
          simp only [ByteArray.data_append, Array.toList_append, List.append_assoc]
          rfl
        · rw [rm_many p qs h1 h2 h3] at h
          simp only [Prod.mk.injEq] at h
          exact .inr ⟨.inr h.2.2.symm, h.1.symm, h.2.1.symm⟩
      · rw [rm_bad p qs (.inr (by simpa using h2))] at h
        simp only [Prod.mk.injEq] at h
        exact .inr ⟨.inl h.2.2.symm, h.1.symm, h.2.1.symm⟩
    · rw [rm_bad p qs (.inl (by simpa using h1))] at h
      simp only [Prod.mk.injEq] at h
      exact .inr ⟨.inl h.2.2.symm, h.1.symm, h.2.1.symm⟩
end Plain
end Go.Proofs.Ytkeindhefiaghaa
