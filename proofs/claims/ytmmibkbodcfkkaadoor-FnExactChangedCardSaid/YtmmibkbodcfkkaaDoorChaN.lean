/- Changes of members: the specification's ways. -/
import Derived.Test.YtmmibkbodcfkkaaDoorChaC
namespace Go.Proofs.YtmmibkbodcfkkaaDoor
open Go.RowKit Plain
set_option linter.unusedVariables false
namespace Plain
theorem cutZ_off (x : Int) (l : List Int) (h : x ∉ l) : cutZ x l = l := by
  unfold cutZ
  rw [List.filter_eq_self]
  intro a ha
  simp only [decide_eq_true_iff]
  rintro rfl
  exact h ha
theorem cf_facts (v l : List Int) (h : confB v l = true) : okIds 0 v = true ∧ okIds 0 l = true ∧ 1 ≤ v.length ∧ disjB v l = true ∧ v.length ≤ 7 ∧ l.length ≤ 7 := by
  unfold confB at h
  simp only [Bool.and_eq_true, decide_eq_true_iff] at h
  exact ⟨h.1.1, h.1.2, h.2.1.1, h.2.1.2, h.2.2.1, h.2.2.2⟩
theorem disj_not {v l : List Int} (h : disjB v l = true) (x : Int) (hx : x ∈ l) : x ∉ v := by
  unfold disjB at h
  rw [List.all_eq_true] at h
  simpa using h x hx
theorem nxt_disj (kind id : Int) (v l : List Int) (h : disjB v l = true) : disjB (nxtV kind id v) (nxtL kind id l) = true := by
  unfold disjB
  rw [List.all_eq_true]
  intro y hy
  have hv : y ∉ nxtV kind id v := by
    intro hv
    unfold nxtL at hy
    unfold nxtV at hv
    have a1 : (y = id ∧ kind = 1) ∨ (y ≠ id ∧ y ∈ l) := by
      split at hy
      · rw [mem_putZ, mem_cutZ] at hy
        rcases hy with q | q
        · exact .inl ⟨q, by assumption⟩
        · exact .inr ⟨q.2, q.1⟩
      · rw [mem_cutZ] at hy
        exact .inr ⟨hy.2, hy.1⟩
    have a2 : (y = id ∧ kind = 2) ∨ (y ≠ id ∧ y ∈ v) := by
      split at hv
      · rw [mem_putZ, mem_cutZ] at hv
        rcases hv with q | q
        · exact .inl ⟨q, by assumption⟩
        · exact .inr ⟨q.2, q.1⟩
      · rw [mem_cutZ] at hv
        exact .inr ⟨hv.2, hv.1⟩
    rcases a1 with q1 | q1 <;> rcases a2 with q2 | q2
    · omega
    · exact q2.1 q1.1
    · exact q1.1 q2.1
    · exact disj_not h y q1.2 q2.2
  simpa using hv
theorem nxt_conf (kind id : Int) (v l : List Int) (h : confB v l = true) (i1 : 1 ≤ id) (i50 : id ≤ 50) (hn : (nxtV kind id v).length ≠ 0) : confB (nxtV kind id v) (nxtL kind id l) = (decide ((nxtV kind id v).length ≤ 7) && decide ((nxtL kind id l).length ≤ 7)) := by
  obtain ⟨o1, o2, -, dj, -, -⟩ := cf_facts v l h
  unfold confB
  rw [nxtV_ok kind id v i1 i50 o1, nxtL_ok kind id l i1 i50 o2, nxt_disj kind id v l dj, decide_eq_true (show 1 ≤ (nxtV kind id v).length by omega)]
  simp only [Bool.and_self, Bool.true_and]
/-- A change that is found and leaves a voter. -/
theorem chg_go (kind id : Int) (v l x y : List Int) (h : confB v l = true) (k1 : 1 ≤ kind) (k3 : kind ≤ 3) (i1 : 1 ≤ id) (i50 : id ≤ 50) (hf : findB kind id v l = true) (hx : nxtV kind id v = x) (hy : nxtL kind id l = y) (hn : x.length ≠ 0) :
    chgS kind id v l = if confB x y = true then (x, y, 0) else (v, l, 14) := by
  have hc := nxt_conf kind id v l h i1 i50 (by rw [hx]; exact hn)
  unfold chgS
  rw [if_pos (by simp [k1, k3, i1, i50]), if_pos hf, hx, hy, if_neg hn]
  rw [hx, hy] at hc
  rw [hc]
  by_cases q1 : x.length ≤ 7
  · by_cases q2 : y.length ≤ 7
    · rw [if_neg (by omega), if_pos (by simp [q1, q2])]
    · rw [if_pos (by omega), if_neg (by simp [q2])]
  · rw [if_pos (by omega), if_neg (by simp [q1])]
theorem chg_there (kind id : Int) (v l : List Int) (k1 : 1 ≤ kind) (k3 : kind ≤ 3) (i1 : 1 ≤ id) (i50 : id ≤ 50) (hf : findB kind id v l = false) : chgS kind id v l = (v, l, 12) := by
  unfold chgS
  rw [if_pos (by simp [k1, k3, i1, i50]), if_neg (by rw [hf]; decide)]
theorem chg_form (kind id : Int) (v l : List Int) (h : ((decide (1 ≤ kind) && decide (kind ≤ 3)) && (decide (1 ≤ id) && decide (id ≤ 50))) = false) : chgS kind id v l = (v, l, 11) := by
  unfold chgS
  rw [if_neg (by rw [h]; decide)]
theorem chg_last (id : Int) (v l : List Int) (i1 : 1 ≤ id) (i50 : id ≤ 50) (hv : id ∈ v) (h1 : v.length = 1) : chgS 3 id v l = (v, l, 13) := by
  unfold chgS
  rw [if_pos (by simp [i1, i50]), if_pos (by unfold findB; simp [hv])]
  rw [if_pos]
  match v, h1 with
  | [a], _ =>
    have : id = a := by simpa using hv
    subst this
    simp [nxtV, cutZ]
theorem cut_some (id : Int) (v : List Int) (h : okIds 0 v = true) (h1 : 1 ≤ v.length) (hn : ¬ (id ∈ v ∧ v.length = 1)) : (cutZ id v).length ≠ 0 := by
  intro q
  have hnil : cutZ id v = [] := List.length_eq_zero_iff.1 q
  have hall : ∀ a ∈ v, a = id := fun a ha => by
    by_cases e : a = id
    · exact e
    · have := (mem_cutZ id a v).2 ⟨ha, e⟩
      rw [hnil] at this
      cases this
  have hnd := (okIds_facts v 0 (by decide) h).1
  match v, h1 with
  | [a], _ => exact hn ⟨by simp [hall a (by simp)], rfl⟩
  | a :: b :: r, _ =>
    have e1 := hall a (by simp)
    have e2 := hall b (by simp)
    simp [e1, e2] at hnd
theorem chg_1 (id : Int) (v l : List Int) (h : confB v l = true) (i1 : 1 ≤ id) (i50 : id ≤ 50) (hv : id ∉ v) (hl : id ∉ l) : chgS 1 id v l = if confB v (putZ id l) = true then (v, putZ id l, 0) else (v, l, 14) :=
  chg_go 1 id v l v (putZ id l) h (by decide) (by decide) i1 i50 (by unfold findB; simp [hv, hl]) (by unfold nxtV; rw [if_neg (by decide), cutZ_off id v hv]) (by unfold nxtL; rw [if_pos rfl, cutZ_off id l hl]) (by have := (cf_facts v l h).2.2.1; omega)
theorem chg_2 (id : Int) (v l : List Int) (h : confB v l = true) (i1 : 1 ≤ id) (i50 : id ≤ 50) (hl : id ∈ l) : chgS 2 id v l = if confB (putZ id v) (cutZ id l) = true then (putZ id v, cutZ id l, 0) else (v, l, 14) :=
  chg_go 2 id v l (putZ id v) (cutZ id l) h (by decide) (by decide) i1 i50 (by unfold findB; simp [hl]) (by unfold nxtV; rw [if_pos rfl, cutZ_off id v (disj_not (cf_facts v l h).2.2.2.1 id hl)]) (by unfold nxtL; rw [if_neg (by decide)]) (by rw [putZ_len]; omega)
theorem chg_3 (id : Int) (v l : List Int) (h : confB v l = true) (i1 : 1 ≤ id) (i50 : id ≤ 50) (hm : id ∈ v ∨ id ∈ l) (hn : ¬ (id ∈ v ∧ v.length = 1)) : chgS 3 id v l = if confB (cutZ id v) (cutZ id l) = true then (cutZ id v, cutZ id l, 0) else (v, l, 14) :=
  chg_go 3 id v l (cutZ id v) (cutZ id l) h (by decide) (by decide) i1 i50 (by unfold findB; simp [hm]) (by unfold nxtV; rw [if_neg (by decide)]) (by unfold nxtL; rw [if_neg (by decide)]) (cut_some id v (cf_facts v l h).1 (cf_facts v l h).2.2.1 hn)
end Plain
end Go.Proofs.YtmmibkbodcfkkaaDoor
