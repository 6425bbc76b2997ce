/- Files with rising names and the program's table: one and the same. -/
import Derived.Test.YtknpccpfjclngaaTblF
namespace Go.Proofs.Ytknpccpfjclngaa
open Go.RowKit Go.Maps Plain
set_option linter.unusedVariables false

namespace Plain
def Risen (fs : List Fl) : Prop := fs.Pairwise (fun f g => ltB f.1 g.1)
theorem okF_iff (fs : List Fl) : ∀ p, okF p fs = true ↔ (∀ f ∈ fs, nmB f.1 = true) ∧ Risen fs ∧ (∀ q, p = some q → ∀ f ∈ fs, ltB q f.1) := by
  induction fs with
  | nil => intro p; cases p <;> simp [okF, Risen]
  | cons f t ih =>
    intro p
    have h2 := ih (some f.1)
    unfold Risen at h2 ⊢
    rw [List.pairwise_cons]
    cases p with
    | none =>
      rw [okF, Bool.and_eq_true, h2]
      constructor
      · rintro ⟨a, b, c, d⟩
        exact ⟨fun g hg => (List.mem_cons.1 hg).elim (fun e => e ▸ a) (b g), ⟨d _ rfl, c⟩, by simp⟩
      · rintro ⟨a, ⟨b, c⟩, d⟩
        exact ⟨a f (by simp), fun g hg => a g (by simp [hg]), c, fun q hq => by cases hq; exact b⟩
    | some p =>
      rw [okF, Bool.and_eq_true, Bool.and_eq_true, lessN_iff, h2]
      constructor
      · rintro ⟨⟨a, a2⟩, b, c, d⟩
        refine ⟨fun g hg => (List.mem_cons.1 hg).elim (fun e => e ▸ a) (b g), ⟨d _ rfl, c⟩, fun q hq g hg => ?_⟩
        cases hq
        rcases List.mem_cons.1 hg with rfl | hg
        · exact a2
        · exact ltB_trans a2 (d _ rfl g hg)
      · rintro ⟨a, ⟨b, c⟩, d⟩
        exact ⟨⟨a f (by simp), d p rfl f (by simp)⟩, fun g hg => a g (by simp [hg]), c, fun q hq => by cases hq; exact b⟩
theorem okF_none (fs : List Fl) : okF none fs = true ↔ (∀ f ∈ fs, nmB f.1 = true) ∧ Risen fs := by
  rw [okF_iff]; simp
theorem Risen.names {fs : List Fl} (h : Risen fs) : (namesF fs).Nodup := by
  unfold namesF
  rw [List.Nodup, List.pairwise_map]
  refine List.Pairwise.imp ?_ h
  intro a b hab e
  have e2 : a.1 = b.1 := ByteArray.ext (Array.toList_inj.1 e)
  rw [← e2] at hab
  exact ltB_irrefl a.1 hab
theorem cutF_eq (n : ByteArray) (fs : List Fl) : cutF n fs = fs.filter (fun f => !eqN f.1 n) := by
  induction fs with
  | nil => rfl
  | cons f t ih => rw [cutF, List.filter_cons, ih]; cases eqN f.1 n <;> rfl
theorem putG_true (n d : ByteArray) (fs : List Fl) : putG n d true fs = cutF n fs := by
  induction fs with
  | nil => rfl
  | cons f t ih => rw [putG, cutF, Bool.true_or, ih]; rfl
theorem mem_cut (n : ByteArray) (fs : List Fl) (g : Fl) : g ∈ cutF n fs ↔ g ∈ fs ∧ g.1 ≠ n := by
  rw [cutF_eq, List.mem_filter, Bool.not_eq_true', ← Bool.not_eq_true, eqN_iff]
theorem Risen.cut {fs : List Fl} (h : Risen fs) (n : ByteArray) : Risen (cutF n fs) := by
  rw [cutF_eq]; exact h.filter _
theorem putF_lo (f : Fl) (t : List Fl) (n d : ByteArray) (h : lessN f.1 n = true) : putF (f :: t) n d = f :: putF t n d := by
  have he : eqN f.1 n = false := by
    cases hh : eqN f.1 n with
    | false => rfl
    | true => have := (eqN_iff _ _).1 hh; rw [this, lessN_self] at h; simp at h
  unfold putF
  rw [putG, h, he]; rfl
theorem putF_hi (f : Fl) (t : List Fl) (n d : ByteArray) (h : lessN f.1 n = false) : putF (f :: t) n d = (n, d) :: cutF n (f :: t) := by
  unfold putF
  rw [putG, h, cutF, Bool.false_or, Bool.not_false, putG_true]; rfl
theorem mem_put (n d : ByteArray) (fs : List Fl) (g : Fl) : g ∈ putF fs n d ↔ g = (n, d) ∨ (g ∈ fs ∧ g.1 ≠ n) := by
  induction fs with
  | nil => simp [putF, putG]
  | cons f t ih =>
    cases h : lessN f.1 n with
    | true =>
      rw [putF_lo f t n d h, List.mem_cons, ih, List.mem_cons]
      have hne : f.1 ≠ n := fun e => by rw [e, lessN_self] at h; simp at h
      constructor
      · rintro (rfl | h | h)
        · exact .inr ⟨.inl rfl, hne⟩
        · exact .inl h
        · exact .inr ⟨.inr h.1, h.2⟩
      · rintro (h | ⟨rfl | h, h2⟩)
        · exact .inr (.inl h)
        · exact .inl rfl
        · exact .inr (.inr ⟨h, h2⟩)
    | false => rw [putF_hi f t n d h, List.mem_cons, mem_cut]
theorem Risen.put {fs : List Fl} (h : Risen fs) (n d : ByteArray) : Risen (putF fs n d) := by
  induction fs with
  | nil => simp [putF, putG, Risen]
  | cons f t ih =>
    have h2 := List.pairwise_cons.1 h
    cases hl : lessN f.1 n with
    | true =>
      rw [putF_lo f t n d hl]
      refine List.pairwise_cons.2 ⟨fun g hg => ?_, ih h2.2⟩
      rcases (mem_put n d t g).1 hg with rfl | hg
      · exact (lessN_iff _ _).1 hl
      · exact h2.1 g hg.1
    | false =>
      rw [putF_hi f t n d hl]
      refine List.pairwise_cons.2 ⟨fun g hg => ?_, h.cut n⟩
      have hg2 := (mem_cut n _ g).1 hg
      have hfn : ¬ ltB f.1 n := fun hh => by rw [(lessN_iff _ _).2 hh] at hl; simp at hl
      rcases List.mem_cons.1 hg2.1 with rfl | hg3
      · exact ltB_tri hfn hg2.2
      · by_cases e : f.1 = n
        · have := h2.1 g hg3; rw [e] at this; exact this
        · exact ltB_trans (ltB_tri hfn e) (h2.1 g hg3)
theorem opt_ext {α : Type} {a b : Option α} (h : ∀ y, a = some y ↔ b = some y) : a = b := by
  cases a with
  | none => cases b with
    | none => rfl
    | some y => have := (h y).2 rfl; simp at this
  | some y => exact ((h y).1 rfl).symm
theorem tab_put {fs : List Fl} (h : Risen fs) (n d : ByteArray) : tabF (putF fs n d) = updT (tabF fs) n (some d) := by
  funext x
  apply opt_ext
  intro y
  rw [tabF_some _ (h.put n d).names, mem_put]
  unfold updT
  by_cases e : x = n
  · rw [if_pos e]; subst e; simp; exact eq_comm
  · rw [if_neg e, tabF_some _ h.names]; simp [e]
theorem tab_cut {fs : List Fl} (h : Risen fs) (n : ByteArray) : tabF (cutF n fs) = updT (tabF fs) n none := by
  funext x
  apply opt_ext
  intro y
  rw [tabF_some _ (h.cut n).names, mem_cut]
  unfold updT
  by_cases e : x = n
  · rw [if_pos e]; simp [e]
  · rw [if_neg e, tabF_some _ h.names]; simp [e]
end Plain
end Go.Proofs.Ytknpccpfjclngaa
