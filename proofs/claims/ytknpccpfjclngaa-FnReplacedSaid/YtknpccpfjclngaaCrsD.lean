/- What a loss of power leaves: the mathematics. -/
import Derived.Test.YtknpccpfjclngaaCrsC
import Derived.Test.YtknpccpfjclngaaGAI
namespace Go.Proofs.Ytknpccpfjclngaa
open Go.RowKit Go.Maps Plain
set_option linter.unusedVariables false

namespace Plain
theorem do_len (fs : List Fl) (o : Dop) : (doF fs o).1.length ≤ fs.length + 1 := by
  have hp : ∀ (l : List Fl) n d, (putF l n d).length ≤ l.length + 1 := fun l n d => by
    have := putG_len n d l false
    unfold putF
    simpa using this
  have hc : ∀ n, (cutF n fs).length ≤ fs.length := fun n => by rw [cutF_eq]; exact List.length_filter_le _ _
  unfold doF
  split
  · exact hp _ _ _
  · split
    · show fs.length ≤ _; omega
    · show (if o.kind = 2 then _ else _ : List Fl).length ≤ _
      split
      · have h1 := hp (cutF o.name fs) o.to (fs.getD (by assumption) (⟨#[]⟩, ⟨#[]⟩)).2
        have h2 := hc o.name
        omega
      · have h2 := hc o.name
        omega
theorem run_form : ∀ (ops : List Dop) (fs : List Fl) (r : List Fl), runF fs ops = some r → ∀ o ∈ ops, formB o = true := by
  intro ops
  induction ops with
  | nil => intro fs r _ o ho; simp at ho
  | cons a t ih =>
    intro fs r h o ho
    rw [runF] at h
    split at h
    · rename_i hc
      simp only [Bool.and_eq_true] at hc
      rcases List.mem_cons.1 ho with rfl | ho
      · exact hc.2.1
      · exact ih _ r h o ho
    · cases h
theorem disk_parts {live safe : List Fl} {ops : List Dop} (h : diskB live safe ops = true) : filesB safe = true ∧ ops.length ≤ 200 ∧ ∀ o ∈ ops, formB o = true := by
  unfold diskB at h
  simp only [Bool.and_eq_true, decide_eq_true_eq] at h
  obtain ⟨h1, h2, h3, h4⟩ := h
  refine ⟨h2, h3, ?_⟩
  split at h4
  · cases h4
  · rename_i now hr
    exact run_form ops safe now hr
theorem pl_ge {cnt : Int} {ls : List Int} (h : PlOk cnt ls) : ∀ k, k < ls.length → (k : Int) ≤ ls.getD k 0 := by
  intro k
  induction k with
  | zero => intro hk; exact (h 0 hk).1.1
  | succ k ih =>
    intro hk
    have h1 := (h (k + 1) hk).2 (by omega)
    have h2 := ih (by omega)
    rw [show k + 1 - 1 = k from rfl] at h1
    omega
theorem pl_len {cnt : Nat} {ls : List Int} (h : PlOk cnt ls) : ls.length ≤ cnt := by
  rcases Nat.eq_zero_or_pos ls.length with h0 | h0
  · omega
  · have h1 := pl_ge h (ls.length - 1) (by omega)
    have h2 := (h (ls.length - 1) (by omega)).1.2
    omega
/-- The names of a change are right. -/
def ChgNm : Chg → Prop
  | .op o => formB o = true
  | .tear n _ _ => nmB n = true
theorem names_chg {fs : List Fl} (h : ∀ f ∈ fs, nmB f.1 = true) {c : Chg} (hc : ChgNm c) : ∀ f ∈ (doF fs c.asOp).1, nmB f.1 = true := by
  cases c with
  | op o => exact names_do h o hc
  | tear n d k =>
    intro f hf
    unfold doF at hf
    rw [if_pos (show (Chg.tear n d k).asOp.kind = 1 from rfl)] at hf
    rcases (mem_put _ _ _ f).1 hf with rfl | hf
    · exact hc
    · exact h f hf.1
structure CrInv (fs : List Fl) (k : Nat) : Prop where
  ri : Risen fs
  nm : ∀ f ∈ fs, nmB f.1 = true
  ln : fs.length ≤ 60 + k
  bn : BndF (1000000 + k * 1000000000) fs
theorem cr_inv {fs : List Fl} (h : filesB fs = true) (cs : List Chg) (hok : ∀ x ∈ cs, ChgOk x) (hnm : ∀ x ∈ cs, ChgNm x) : ∀ k, k ≤ cs.length → CrInv (crF fs (cs.take k)) k := by
  intro k
  induction k with
  | zero =>
    intro _
    have h1 := (okF_none fs).1 (files_ok h).1
    have h2 := files_small h
    exact ⟨h1.2, h1.1, by show fs.length ≤ _; omega, fun f hf => by have := h2.2 f hf; omega⟩
  | succ k ih =>
    intro hk
    have hi := ih (by omega)
    rw [crF_take fs cs k (by omega)]
    have hm : cs[k] ∈ cs := List.getElem_mem _
    refine ⟨risen_do hi.ri _, names_chg hi.nm (hnm _ hm), ?_, ?_⟩
    · have := do_len (crF fs (cs.take k)) cs[k].asOp; have := hi.ln; omega
    · rw [show 1000000 + (k + 1) * 1000000000 = 1000000 + k * 1000000000 + 1000000000 from by omega]
      exact do_bnd hi.bn (hok _ hm).sm
theorem CrInv.files {fs : List Fl} {k : Nat} (h : CrInv fs k) : filesB fs = (decide (fs.length ≤ 60) && decide (sumF fs ≤ 200000)) := by
  have h3 : okF none fs = true := (okF_none _).2 ⟨h.nm, h.ri⟩
  unfold filesB
  rw [h3, Bool.true_and]
theorem kcs_len (ops : List Dop) (ks : List Int) (t : Int) : (kcs ops ks t).length = ks.length := by simp [kcs, kc0]
theorem opAt_mem (ops : List Dop) (ks : List Int) (hpl : PlOk ops.length ks) (p : Int) (hp : p ∈ ks) : opAt ops p ∈ ops := by
  obtain ⟨k, hk, rfl⟩ := List.getElem_of_mem hp
  have h := (hpl k hk).1
  rw [getD_at ks k hk] at h
  obtain ⟨P, hP⟩ := Int.eq_ofNat_of_zero_le h.1
  rw [hP, opAt_at ops P (by omega)]
  exact List.getElem_mem _
theorem kcs_all {ops : List Dop} {ks : List Int} {t : Nat} (hpl : PlOk ops.length ks) (hf : ∀ o ∈ ops, formB o = true ∧ SmO o) : ∀ x ∈ kcs ops ks t, ChgOk x ∧ ChgNm x := by
  have hop : ∀ o ∈ ops, ChgOk (.op o) ∧ ChgNm (.op o) := fun o ho => ⟨hf o ho, (hf o ho).1⟩
  intro x hx
  unfold kcs at hx
  rcases List.mem_or_eq_of_mem_set hx with hx | rfl
  · unfold kc0 at hx
    obtain ⟨p, hp, rfl⟩ := List.mem_map.1 hx
    exact hop _ (opAt_mem ops ks hpl p hp)
  · rcases Nat.eq_zero_or_pos ks.length with h0 | h0
    · have : ks = [] := List.eq_nil_of_length_eq_zero h0
      subst this
      simp [kc0] at hx
    · have hm := opAt_mem ops ks hpl (ks.getD (ks.length - 1) 0) (by rw [getD_at ks _ (by omega)]; exact List.getElem_mem _)
      have ho := hf _ hm
      unfold tornC
      split
      · rename_i hc
        have hfo := ho.1
        unfold formB at hfo
        simp only [Bool.and_eq_true, decide_eq_true_eq] at hfo
        exact ⟨⟨ho.2.1, ho.2.2.2, by have := hc.2; omega⟩, hfo.1.2⟩
      · exact hop _ hm
theorem kcs_last {ops : List Dop} {ks : List Int} {t : Int} : ∀ i (hi : i < (kcs ops ks t).length), (∃ x y k, (kcs ops ks t)[i] = .tear x y k) → i + 1 = (kcs ops ks t).length := by
  intro i hi ⟨x, y, k, h⟩
  have h2 : (kcs ops ks t)[i]? = some (.tear x y k) := by rw [List.getElem?_eq_getElem hi, h]
  rw [kcs_len] at hi ⊢
  clear h
  unfold kcs at h2
  by_cases he : ks.length - 1 = i
  · omega
  · rw [List.getElem?_set_ne he] at h2
    simp [kc0] at h2
end Plain
end Go.Proofs.Ytknpccpfjclngaa
