/- Quorums meet behind one change of members; members come back from their text: plain mathematics. -/
import Derived.Test.YtmokpgmehaakgaaGreatDoorRzX
import Derived.Test.YtmokpgmehaakgaaGreatDoorRzR
namespace Go.Proofs.YtmokpgmehaakgaaGreatDoor
open Go.RowKit Plain
set_option linter.unusedVariables false

namespace Plain
theorem among_swap (v u : List Int) (hv : okIds 0 v = true) (hu : okIds 0 u = true) : among v u = among u v := by
  have h1 := pop_or v u hv hu
  have h2 := pop_or u v hu hv
  rw [Nat.or_comm] at h2
  unfold among
  generalize popN 64 (setN v ||| setN u) = P at h1 h2
  omega
theorem among_all (v u : List Int) (h : ∀ x ∈ v, x ∈ u) : among v u = v.length := by
  unfold among
  rw [List.filter_eq_self.2 (fun a ha => by simp [h a ha])]
theorem sub_meet {v l u k : List Int} (hc : confB v l = true) (hd : confB u k = true) (hs : ∀ x ∈ v, x ∈ u) (h1 : v.length ≤ u.length) (h2 : u.length ≤ v.length + 1) : meetB v l u k = true ∧ meetB u k v l = true := by
  have e1 := among_all v u hs
  have e2 := among_swap v u (confB_v hc).1 (confB_v hd).1
  unfold meetB
  rw [hc, hd, ← e2, e1]
  generalize v.length = a at *
  generalize u.length = b at *
  constructor
  · simp; omega
  · simp; omega
theorem cut_len1 (x : Int) : ∀ l : List Int, l.Nodup → l.length ≤ (cutZ x l).length + 1
  | [], _ => by simp
  | a :: l, h => by
    rw [List.nodup_cons] at h
    unfold cutZ
    rw [List.filter_cons]
    by_cases e : a = x
    · subst e
      rw [if_neg (by simp), List.filter_eq_self.2 (fun b hb => by simp; intro q; exact h.1 (q ▸ hb))]
      simp
    · rw [if_pos (by simp [e])]
      have := cut_len1 x l h.2
      unfold cutZ at this
      simp only [List.length_cons]
      omega
theorem quo_all {v l : List Int} (h : confB v l = true) : quoB v l v = true := by
  have := (confB_v h).2.1
  unfold quoB
  rw [h, among_all v v (fun _ q => q)]
  simp
  omega
/-- What a change with code 0 makes. -/
theorem chg_meet (kind id : Int) (v l : List Int) (hc : confB v l = true) (h0 : (chgS kind id v l).2.2 = 0) :
    confB (chgS kind id v l).1 (chgS kind id v l).2.1 = true ∧ meetB v l (chgS kind id v l).1 (chgS kind id v l).2.1 = true ∧ meetB (chgS kind id v l).1 (chgS kind id v l).2.1 v l = true := by
  have hfm : ((decide (1 ≤ kind) && decide (kind ≤ 3)) && (decide (1 ≤ id) && decide (id ≤ 50))) = true := by
    cases h : ((decide (1 ≤ kind) && decide (kind ≤ 3)) && (decide (1 ≤ id) && decide (id ≤ 50))) with
    | true => rfl
    | false => rw [chg_form kind id v l h] at h0; simp at h0
  have hf2 : (1 ≤ kind ∧ kind ≤ 3) ∧ (1 ≤ id ∧ id ≤ 50) := by simpa using hfm
  obtain ⟨⟨k1, k3⟩, i1, i50⟩ := hf2
  have hfi : findB kind id v l = true := by
    cases h : findB kind id v l with
    | true => rfl
    | false => rw [chg_there kind id v l k1 k3 i1 i50 h] at h0; simp at h0
  have hv := confB_v hc
  have hnd := (okIds_facts v 0 (by decide) hv.1).1
  have hk : kind = 1 ∨ kind = 2 ∨ kind = 3 := by omega
  rcases hk with rfl | rfl | rfl
  · have hm : id ∉ v ∧ id ∉ l := by unfold findB at hfi; simpa using hfi
    rw [chg_1 id v l hc i1 i50 hm.1 hm.2] at h0 ⊢
    by_cases q : confB v (putZ id l) = true
    · rw [if_pos q]
      obtain ⟨m1, m2⟩ := sub_meet hc q (fun _ h => h) (Nat.le_refl _) (by omega)
      exact ⟨q, m1, m2⟩
    · rw [if_neg q] at h0; simp at h0
  · have hm : id ∈ l := by unfold findB at hfi; simpa using hfi
    rw [chg_2 id v l hc i1 i50 hm] at h0 ⊢
    by_cases q : confB (putZ id v) (cutZ id l) = true
    · rw [if_pos q]
      obtain ⟨m1, m2⟩ := sub_meet hc q (fun x h => (mem_putZ id x v).2 (.inr h)) (by rw [putZ_len]; omega) (by rw [putZ_len]; omega)
      exact ⟨q, m1, m2⟩
    · rw [if_neg q] at h0; simp at h0
  · have hm : id ∈ v ∨ id ∈ l := by unfold findB at hfi; simpa using hfi
    by_cases hl : id ∈ v ∧ v.length = 1
    · rw [chg_last id v l i1 i50 hl.1 hl.2] at h0; simp at h0
    · rw [chg_3 id v l hc i1 i50 hm hl] at h0 ⊢
      by_cases q : confB (cutZ id v) (cutZ id l) = true
      · rw [if_pos q]
        obtain ⟨m1, m2⟩ := sub_meet q hc (fun x h => ((mem_cutZ id x v).1 h).1) (cutZ_len id v) (cut_len1 id v hnd)
        exact ⟨q, m2, m1⟩
      · rw [if_neg q] at h0; simp at h0
/-- Members come back from their text. -/
theorem conf_back (N : List UInt8 → Int) (hN : ∀ a : Int, 1 ≤ a → a ≤ 50 → N (Lib.decDigits a.toNat) = a) (v l : List Int) (h : confB v l = true) : rdC N (confL v l) = (v, l, true) := by
  unfold rdC
  rw [rdW_conf N hN v l h]
  rw [if_pos ⟨rfl, by unfold confL; rw [if_pos h]; simp⟩]
/-- What is read has just the text that it was read from, and is right. -/
theorem back_conf (N : List UInt8 → Int) (t : List UInt8) (h : (rdC N t).2.2 = true) : confB (rdC N t).1 (rdC N t).2.1 = true ∧ confL (rdC N t).1 (rdC N t).2.1 = t := by
  unfold rdC at h ⊢
  by_cases q : confL (rdW N ((splt 32 t).drop 1) false [] []).1 (rdW N ((splt 32 t).drop 1) false [] []).2 = t ∧ t ≠ []
  · rw [if_pos q]
    exact ⟨confL_ok q.1 q.2, q.1⟩
  · rw [if_neg q] at h
    cases h
end Plain
end Go.Proofs.YtmokpgmehaakgaaGreatDoor
