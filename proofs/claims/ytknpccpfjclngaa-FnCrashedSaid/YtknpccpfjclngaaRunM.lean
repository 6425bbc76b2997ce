/- Ops that are done leave a disk: the little of it that the drawn disks want. -/
import Derived.Test.YtknpccpfjclngaaGAM
namespace Go.Proofs.Ytknpccpfjclngaa
open Go.RowKit Plain
set_option linter.unusedVariables false

namespace Plain
theorem goA_fitR : ∀ (xs : List Dop) (fs : List Fl) (n : Nat), filesB fs = true → (goA fs n xs).1 = 0 → filesB (goA fs n xs).2 = true
  | [], fs, n, h, _ => h
  | o :: l, fs, n, h, hc => by
    rw [goA] at hc ⊢
    split at hc
    · split at hc
      · split at hc
        · rename_i h1 h2 h3
          rw [if_pos h1, if_pos h2, if_pos h3]
          rw [Bool.and_eq_true] at h3
          exact goA_fitR l _ _ h3.2 hc
        · cases hc
      · cases hc
    · cases hc
theorem goA_zeroR : ∀ (xs : List Dop) (fs : List Fl) (n : Nat), n ≤ 200 → (goA fs n xs).1 = 0 → runF fs xs = some (goA fs n xs).2 ∧ n + xs.length ≤ 200 := by
  intro xs
  induction xs with
  | nil => intro fs n hn _; exact ⟨rfl, by simpa using hn⟩
  | cons o l ih =>
    intro fs n hn h
    rw [goA] at h ⊢
    by_cases f1 : formB o = true
    · rw [if_pos f1] at h ⊢
      by_cases b1 : (doF fs o).2 = true
      · rw [if_pos b1] at h ⊢
        by_cases k1 : (decide (n < 200) && filesB (doF fs o).1) = true
        · rw [if_pos k1] at h ⊢
          rw [Bool.and_eq_true, decide_eq_true_eq] at k1
          obtain ⟨h1, h2⟩ := ih (doF fs o).1 (n + 1) (by omega) h
          rw [runF, b1, f1, k1.2]
          exact ⟨h1, by rw [List.length_cons]; omega⟩
        · rw [if_neg k1] at h; exact absurd h (by decide)
      · rw [if_neg b1] at h; exact absurd h (by decide)
    · rw [if_neg f1] at h; exact absurd h (by decide)
theorem runF_catR (xs : List Dop) : ∀ (ops : List Dop) (fs r : List Fl), runF fs ops = some r → runF fs (ops ++ xs) = runF r xs := by
  intro ops
  induction ops with
  | nil => intro fs r h; rw [runF] at h; cases h; rfl
  | cons a t ih =>
    intro fs r h
    rw [List.cons_append, runF]
    rw [runF] at h
    split at h
    · rename_i hc
      rw [if_pos hc]
      exact ih _ _ h
    · cases h
/-- Ops that are done on a disk leave a disk. -/
theorem act_runR {live safe : List Fl} {ops xs : List Dop} (h : diskB live safe ops = true) (hc : actC live safe ops xs = 0) : diskB (actL live safe ops xs) (actS live safe ops) (actO live safe ops xs) = true ∧ filesB (actL live safe ops xs) = true := by
  unfold actC at hc
  rw [h, if_pos rfl] at hc
  obtain ⟨hf, hr⟩ := disk_run h
  obtain ⟨hf2, hn, -⟩ := disk_parts h
  obtain ⟨e1, hl⟩ := goA_zeroR xs live ops.length hn hc
  have hg := goA_fitR xs live ops.length hf hc
  unfold actL actS actO
  rw [h, if_pos rfl, if_pos rfl, if_pos rfl, if_pos hc, if_pos hc]
  refine ⟨?_, hg⟩
  unfold diskB
  rw [hg, hf2, runF_catR xs ops safe live hr, e1, List.length_append]
  show (true && (true && (decide (ops.length + xs.length ≤ 200) && sameF (goA live ops.length xs).2 (goA live ops.length xs).2))) = true
  rw [same_self, decide_eq_true (by omega)]
  rfl
end Plain
end Go.Proofs.Ytknpccpfjclngaa
