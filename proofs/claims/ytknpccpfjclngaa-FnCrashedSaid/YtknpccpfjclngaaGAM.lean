/- Texts of one kind, put together. -/
import Derived.Test.YtknpccpfjclngaaCrsE
import Derived.Test.YtknpccpfjclngaaGAL

/- What a loss of power leaves when all ops are kept, when none is, and behind a file's replacing: the mathematics of the drawn laws. -/
namespace Go.Proofs.Ytknpccpfjclngaa
open Go.RowKit Go.Maps Plain
set_option linter.unusedVariables false

namespace Plain
/-- All places. -/
def allK (n : Nat) : List Int := (List.range n).map fun (i : Nat) => (i : Int)
theorem allK_len (n : Nat) : (allK n).length = n := by simp [allK]
theorem allK_at (n k : Nat) (h : k < n) : (allK n).getD k 0 = (k : Int) := by
  rw [getD_at _ k (by rw [allK_len]; exact h)]
  simp [allK]
theorem allK_succ (n : Nat) : allK (n + 1) = allK n ++ [(n : Int)] := by simp [allK, List.range_succ]
theorem allK_ok (n : Nat) : PlOk (n : Int) (allK n) := by
  intro k hk
  rw [allK_len] at hk
  refine ⟨?_, fun h0 => ?_⟩
  · rw [allK_at n k hk]; omega
  · rw [allK_at n k hk, allK_at n (k - 1) (by omega)]; omega
theorem none_ok (n : Int) : PlOk n [] := fun k hk => absurd hk (by simp)
theorem kc0_all (ops : List Dop) : kc0 ops (allK ops.length) = ops.map Chg.op := by
  refine List.ext_getElem (by simp [kc0, allK_len]) fun i h1 h2 => ?_
  simp only [kc0, List.getElem_map]
  rw [show (allK ops.length)[i]'(by simpa [kc0] using h1) = (i : Int) from by simp [allK], opAt_at ops i (by simpa using h2)]
theorem set_self {α : Type} (l : List α) (i : Nat) (x : α) (h : ∀ hi : i < l.length, l[i] = x) : l.set i x = l := by
  refine List.ext_getElem (by simp) fun j h1 h2 => ?_
  rw [List.getElem_set]
  split
  · rename_i e; subst e; exact (h h2).symm
  · rfl
theorem kcs_whole {ops : List Dop} {t : Int} (ht : ∀ o ∈ ops, (o.data.size : Int) ≤ t) : kcs ops (allK ops.length) t = ops.map Chg.op := by
  unfold kcs
  rw [kc0_all, allK_len]
  refine set_self _ _ _ fun hi => ?_
  rw [List.length_map] at hi
  rw [List.getElem_map, allK_at _ _ hi, opAt_at ops _ hi]
  unfold tornC
  rw [if_neg]
  rintro ⟨-, h⟩
  have := ht _ (List.getElem_mem hi)
  omega
theorem kcs_none (ops : List Dop) (t : Int) : kcs ops [] t = [] := by simp [kcs, kc0]
theorem crF_run : ∀ (ops : List Dop) (fs r : List Fl), runF fs ops = some r → crF fs (ops.map Chg.op) = r := by
  intro ops
  induction ops with
  | nil => intro fs r h; rw [runF] at h; cases h; rfl
  | cons a t ih =>
    intro fs r h
    rw [runF] at h
    split at h
    · exact ih _ _ h
    · cases h
theorem disk_run {live safe : List Fl} {ops : List Dop} (h : diskB live safe ops = true) : filesB live = true ∧ runF safe ops = some live := by
  unfold diskB at h
  simp only [Bool.and_eq_true, decide_eq_true_eq] at h
  obtain ⟨h1, h2, h3, h4⟩ := h
  refine ⟨h1, ?_⟩
  split at h4
  · cases h4
  · rename_i now hr
    rw [hr, (sameF_iff now live).1 h4]
theorem same_self (fs : List Fl) : sameF fs fs = true := (sameF_iff fs fs).2 rfl
theorem disk_synced {fs : List Fl} (h : filesB fs = true) : diskB fs fs [] = true := by
  unfold diskB
  rw [h, runF]
  show (true && (true && (true && sameF fs fs))) = true
  rw [same_self]
  rfl
theorem crash_all {live safe : List Fl} {ops : List Dop} {t : Int} (h : diskB live safe ops = true) (ht : ∀ o ∈ ops, (o.data.size : Int) ≤ t) (h0 : 0 ≤ t) : crOk live safe ops (allK ops.length) t = true ∧ crL live safe ops (allK ops.length) t = live := by
  have h1 := disk_run h
  have e : crF safe (kcs ops (allK ops.length) t) = live := by rw [kcs_whole ht]; exact crF_run _ _ _ h1.2
  have hc : crOk live safe ops (allK ops.length) t = true := by
    unfold crOk
    rw [h, plB_yes (allK_ok _), decide_eq_true h0, e, h1.1]
    rfl
  exact ⟨hc, by unfold crL; rw [hc, if_pos rfl, e]⟩
theorem crash_none {live safe : List Fl} {ops : List Dop} {t : Int} (h : diskB live safe ops = true) (h0 : 0 ≤ t) : crOk live safe ops [] t = true ∧ crL live safe ops [] t = safe := by
  have e : crF safe (kcs ops [] t) = safe := by rw [kcs_none]; rfl
  have hc : crOk live safe ops [] t = true := by
    unfold crOk
    rw [h, plB_yes (none_ok _), decide_eq_true h0, e, (disk_parts h).1]
    rfl
  exact ⟨hc, by unfold crL; rw [hc, if_pos rfl, e]⟩
theorem crash_disk {live safe : List Fl} {ops : List Dop} {ks : List Int} {t : Int} (h : crOk live safe ops ks t = true) : diskB (crL live safe ops ks t) (crL live safe ops ks t) [] = true := by
  refine disk_synced ?_
  unfold crL
  rw [h, if_pos rfl]
  unfold crOk at h
  rw [Bool.and_eq_true] at h
  exact h.2
theorem crash_bad {live safe : List Fl} {ops : List Dop} {ks : List Int} {t : Int} (h : diskB live safe ops = false) : crOk live safe ops ks t = false := by
  unfold crOk
  rw [h]
  rfl
end Plain
end Go.Proofs.Ytknpccpfjclngaa


/- Disks that ops are done on stay disks: the mathematics of drawn disks. -/
namespace Go.Proofs.Ytknpccpfjclngaa
open Go.RowKit Go.Maps Plain
set_option linter.unusedVariables false

namespace Plain
end Plain
end Go.Proofs.Ytknpccpfjclngaa

