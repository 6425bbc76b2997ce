/- References as plain mathematics: what is written is read back, and what is read is written as it was. -/
import Derived.Test.YtkeindhefiaghaaDoorRRefT
namespace Go.Proofs.YtkeindhefiaghaaDoor
open Go.RowKit Plain
set_option linter.unusedVariables false

namespace Plain
theorem fd_app (p q : Nat) (a b : List UInt8) (h : ∀ x ∈ a, ¬ (x.toNat = p ∨ x.toNat = q)) : fd p q (a ++ b) = a.length + fd p q b := by
  induction a with
  | nil => simp
  | cons c a ih =>
    rw [List.cons_append, fd, if_neg (h c (by simp)), ih (fun x hx => h x (by simp [hx])), List.length_cons]
    omega
theorem lowB_bad {c : Nat} (h : c = 58 ∨ c = 64) : lowB c = false := by rcases h with rfl | rfl <;> rfl
theorem rep_chars (l : List UInt8) : ∀ q, rep q l = true → ∀ x ∈ l, ¬ (x.toNat = 58 ∨ x.toNat = 64) := by
  induction l with
  | nil => intro q _ x hx; simp at hx
  | cons c l ih =>
    intro q h x hx
    rw [rep] at h
    have hc : ¬ (c.toNat = 58 ∨ c.toNat = 64) := by
      intro e
      have h1 := lowB_bad e
      rw [h1] at h
      have e1 : ¬ c.toNat = 46 := by omega
      have e2 : ¬ c.toNat = 95 := by omega
      have e3 : ¬ c.toNat = 45 := by omega
      have e4 : ¬ c.toNat = 47 := by omega
      simp [e1, e2, e3, e4] at h
    rcases List.mem_cons.1 hx with rfl | hx
    · exact hc
    · repeat' split at h
      all_goals first | exact ih _ h x hx | cases h
theorem repoB_chars {r : ByteArray} (h : repoB r = true) : ∀ x ∈ r.data.toList, ¬ (x.toNat = 58 ∨ x.toNat = 64) := by
  unfold repoB at h
  have : rep 0 r.data.toList = true := by simp at h; exact h.2
  exact rep_chars _ _ this
theorem tagB_chars {t : ByteArray} (h : tagB t = true) : ∀ x ∈ t.data.toList, ¬ (x.toNat = 64 ∨ x.toNat = 64) := by
  have h2 : tagFrom t 0 = true := by unfold tagB at h; simp at h; exact h.2
  unfold tagFrom at h2
  rw [List.drop_zero, List.all_eq_true] at h2
  intro x hx e
  have := h2 x hx
  rw [show x.toNat = 64 from by omega] at this
  cases this
theorem repoB_pos {r : ByteArray} (h : repoB r = true) : 0 < r.size := by
  have h2 : rep 0 r.data.toList = true := by unfold repoB at h; simp at h; exact h.2
  rw [← len_data]
  cases e : r.data.toList with
  | nil => rw [e] at h2; cases h2
  | cons => simp
theorem tagB_pos {t : ByteArray} (h : tagB t = true) : 0 < t.size := by
  rcases Nat.lt_or_ge 0 t.size with h2 | h2
  · exact h2
  · rw [tagB_size (.inl (by omega))] at h; cases h
def headS (c : UInt8) (t : ByteArray) : List UInt8 := if emp t then [] else c :: t.data.toList
theorem addS_list (c : UInt8) (r t : ByteArray) : (addS c r t).data.toList = r.data.toList ++ headS c t := by
  unfold addS headS
  split
  · simp
  · rw [ByteArray.data_append, ByteArray.data_append]
    simp
theorem wref_list {r t d : ByteArray} (h : refB r t d = true) : (wrefS r t d).data.toList = r.data.toList ++ (headS 58 t ++ headS 64 d) := by
  unfold wrefS
  rw [if_pos h, addS_list, addS_list, List.append_assoc]
theorem head_no {t : ByteArray} (h : emp t = true ∨ tagB t = true) : ∀ x ∈ headS 58 t, ¬ (x.toNat = 64 ∨ x.toNat = 64) := by
  unfold headS
  split
  · intro x hx; simp at hx
  · rename_i he
    intro x hx
    rcases List.mem_cons.1 hx with rfl | hx
    · decide
    · rcases h with h | h
      · exact absurd h he
      · exact tagB_chars h x hx
theorem fd_head (d : ByteArray) : fd 64 64 (headS 64 d) = 0 := by
  unfold headS
  split
  · rfl
  · rfl
theorem fd_head2 (t d : ByteArray) : fd 58 64 (headS 58 t ++ headS 64 d) = 0 := by
  unfold headS
  split
  · split
    · rfl
    · rfl
  · rfl
theorem head_len (c : UInt8) (t : ByteArray) : (headS c t).length = if emp t then 0 else t.size + 1 := by
  unfold headS
  split
  · rfl
  · rw [List.length_cons, len_data]

theorem wref_back {r t d : ByteArray} (h : refB r t d = true) : rrV (wrefS r t d) = refV r t d 0 := by
  have hr : repoB r = true := by unfold refB at h; simp at h; exact h.1.1
  have ht : emp t = true ∨ tagB t = true := by unfold refB at h; simp at h; exact h.1.2
  have hd : emp d = true ∨ digB d = true := by unfold refB at h; simp at h; exact h.2
  have hl := wref_list h
  generalize wrefS r t d = s at hl
  have hsz : s.size = r.size + (headS 58 t).length + (headS 64 d).length := by
    rw [← len_data, hl, List.length_append, List.length_append, len_data]; omega
  have hI : rI s = r.size := by
    unfold rI
    rw [hl, fd_app 58 64 _ _ (repoB_chars hr), fd_head2, len_data]; rfl
  have hJ : rJ s = r.size + (headS 58 t).length := by
    unfold rJ
    rw [hl, fd_app 64 64 _ _ (fun x hx => fun e => repoB_chars hr x hx (by omega)), fd_app 64 64 _ _ (head_no ht), fd_head, len_data]; omega
  have hT : (headS 58 t).length = if emp t then 0 else t.size + 1 := head_len _ _
  have hDl : (headS 64 d).length = if emp d then 0 else d.size + 1 := head_len _ _
  have hr0 : s.extract 0 (rI s) = r := by
    apply b_eq
    rw [ext_mid, hI]
    show ((s.data.toList.drop 0).take (r.size - 0)) = _
    rw [List.drop_zero, Nat.sub_zero, hl, ← len_data, List.take_left']
    rfl
  have ht0 : rTag s = t := by
    unfold rTag
    rw [hI, hJ]
    cases he : emp t with
    | true =>
      have hT2 : (headS 58 t).length = 0 := by rw [hT, he]; rfl
      rw [if_neg (by omega), emp_eq he]
      rfl
    | false =>
      rw [he] at hT
      simp at hT
      rw [if_pos (by omega)]
      apply b_eq
      rw [ext_mid]
      show ((s.data.toList.drop (r.size + 1)).take (r.size + (headS 58 t).length - (r.size + 1))) = _
      have e1 : headS 58 t = 58 :: t.data.toList := by unfold headS; rw [if_neg (by simp [he])]
      rw [hl, hT, show r.size + (t.size + 1) - (r.size + 1) = t.size from by omega, e1, ← len_data r, ← List.drop_drop, List.drop_left', List.cons_append, List.drop_succ_cons, List.drop_zero, ← len_data t, List.take_left']
      · rfl
      · rfl
  have hd0 : rDig s = d := by
    unfold rDig
    rw [hJ, hsz]
    cases he : emp d with
    | true =>
      have hD2 : (headS 64 d).length = 0 := by rw [hDl, he]; rfl
      rw [if_neg (by omega), emp_eq he]
      rfl
    | false =>
      rw [he] at hDl
      simp at hDl
      rw [if_pos (by omega)]
      apply b_eq
      have e1 : headS 64 d = 64 :: d.data.toList := by unfold headS; rw [if_neg (by simp [he])]
      rw [← hsz, ext_list, hl, ← List.append_assoc, e1, show r.size + (headS 58 t).length + 1 = (r.data.toList ++ headS 58 t).length + 1 from by rw [List.length_append, len_data], ← List.drop_drop, List.drop_left', List.drop_succ_cons, List.drop_zero]
      rfl
  unfold rrV
  rw [hr0, ht0, hd0]
  have c1 : (decide (rI s < rJ s) && !tagB t) = false := by
    rw [hI, hJ]
    rcases ht with ht | ht
    · have hT2 : (headS 58 t).length = 0 := by rw [hT, ht]; rfl
      simp; omega
    · rw [ht]; simp
  have c2 : (decide (rJ s < s.size) && !digB d) = false := by
    rw [hJ, hsz]
    rcases hd with hd | hd
    · have hD2 : (headS 64 d).length = 0 := by rw [hDl, hd]; rfl
      simp; omega
    · rw [hd]; simp
  unfold finV
  rw [hr, c1, c2]
  rfl

theorem pos_emp {t : ByteArray} (h : 0 < t.size) : emp t = false := by rw [emp_size]; exact decide_eq_false (by omega)
theorem digB_pos {t : ByteArray} (h : digB t = true) : 0 < t.size := by
  unfold digB at h
  simp at h
  omega
theorem emp_e0 : emp e0 = true := by rw [emp_size]; rfl
theorem tag_part (s : ByteArray) (ht : rI s < rJ s → tagB (rTag s) = true) : s.data.toList.take (rI s) ++ headS 58 (rTag s) = s.data.toList.take (rJ s) := by
  have hIJ := rIJ s
  have hJ := rJs s
  by_cases h : rI s < rJ s
  · have hlt : fd 58 64 s.data.toList < s.data.toList.length := by rw [len_data]; unfold rI at h; omega
    have hs1 := (fd_sign 58 64 (by decide) s.data.toList hlt).2 h
    have e1 : headS 58 (rTag s) = 58 :: (rTag s).data.toList := by unfold headS; rw [if_neg (by rw [pos_emp (tagB_pos (ht h))]; simp)]
    have e2 : (rTag s).data.toList = (s.data.toList.drop (rI s + 1)).take (rJ s - (rI s + 1)) := by
      unfold rTag; rw [if_pos h, ext_mid]; rfl
    have e3 : s.data.toList.drop (rI s) = 58 :: s.data.toList.drop (rI s + 1) := by
      rw [List.drop_eq_getElem_cons (show rI s < s.data.toList.length from hlt)]
      congr 1
      exact u8 (n := 58) (by omega) hs1
    rw [e1, e2]
    have e4 := (List.take_append_drop (rI s) (s.data.toList.take (rJ s))).symm
    rw [List.take_take, Nat.min_eq_left hIJ, List.drop_take, e3] at e4
    rw [e4, show rJ s - rI s = (rJ s - (rI s + 1)) + 1 from by omega, List.take_succ_cons]
  · have e : rI s = rJ s := by omega
    have eT : rTag s = e0 := by unfold rTag; rw [if_neg h]
    rw [eT, e]
    unfold headS
    rw [if_pos emp_e0, List.append_nil]
theorem dig_part (s : ByteArray) (hd : rJ s < s.size → digB (rDig s) = true) : headS 64 (rDig s) = s.data.toList.drop (rJ s) := by
  have hJ := rJs s
  by_cases h : rJ s < s.size
  · have hlt : fd 64 64 s.data.toList < s.data.toList.length := by rw [len_data]; exact h
    have hs1 := fd_at 64 64 s.data.toList hlt
    have e1 : headS 64 (rDig s) = 64 :: (rDig s).data.toList := by unfold headS; rw [if_neg (by rw [pos_emp (digB_pos (hd h))]; simp)]
    have e2 : (rDig s).data.toList = s.data.toList.drop (rJ s + 1) := by unfold rDig; rw [if_pos h, ext_list]
    rw [e1, e2, List.drop_eq_getElem_cons (show rJ s < s.data.toList.length from hlt)]
    congr 1
    exact (u8 (by omega) (show (s.data.toList[fd 64 64 s.data.toList]).toNat = 64 by omega)).symm
  · have eT : rDig s = e0 := by unfold rDig; rw [if_neg h]
    rw [eT, List.drop_of_length_le (by rw [len_data]; omega)]
    unfold headS
    rw [if_pos emp_e0]
theorem read_back {s : ByteArray} (hr : repoB (s.extract 0 (rI s)) = true) (ht : rI s < rJ s → tagB (rTag s) = true) (hd : rJ s < s.size → digB (rDig s) = true) : wrefS (s.extract 0 (rI s)) (rTag s) (rDig s) = s := by
  have hB : refB (s.extract 0 (rI s)) (rTag s) (rDig s) = true := by
    unfold refB
    rw [hr]
    have h1 : (emp (rTag s) || tagB (rTag s)) = true := by
      by_cases h : rI s < rJ s
      · rw [ht h]; simp
      · rw [show rTag s = e0 from by unfold rTag; rw [if_neg h], emp_e0]; rfl
    have h2 : (emp (rDig s) || digB (rDig s)) = true := by
      by_cases h : rJ s < s.size
      · rw [hd h]; simp
      · rw [show rDig s = e0 from by unfold rDig; rw [if_neg h], emp_e0]; rfl
    rw [h1, h2]; rfl
  apply b_eq
  rw [wref_list hB, ext_take, ← List.append_assoc, tag_part s ht, dig_part s hd, List.take_append_drop]
end Plain
end Go.Proofs.YtkeindhefiaghaaDoor
