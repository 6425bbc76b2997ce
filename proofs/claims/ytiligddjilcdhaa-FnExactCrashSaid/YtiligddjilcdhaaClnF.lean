/- Rows of files and of ops cloned, by the program. -/
import Derived.Test.YtiligddjilcdhaaDskK
namespace Go.Proofs.Ytiligddjilcdhaa
open Go.RowKit Plain
set_option linter.unusedVariables false

set_option maxRecDepth 10000 in
theorem nil_file (g n c : Nat) (W : World) : Sem.run Try.prog (binOp BinOp.eql 28 (Value.slice (some ⟨g, 0, none⟩) n c) (Value.slice none 0 0)) W = .ok (.bool false) W := by
  first | rfl | (unfold binOp; simp [go_sem, Try.underlying28]) | (simp [binOp, go_sem])
set_option maxRecDepth 10000 in
theorem nil_dop (g n c : Nat) (W : World) : Sem.run Try.prog (binOp BinOp.eql 29 (Value.slice (some ⟨g, 0, none⟩) n c) (Value.slice none 0 0)) W = .ok (.bool false) W := by
  first | rfl | (unfold binOp; simp [go_sem, Try.underlying29]) | (simp [binOp, go_sem])

set_option maxRecDepth 10000 in
set_option maxHeartbeats 1000000 in
theorem cloneFile_calls (g n c : Nat) (fs : List Fl) (w : World) (hn : fs.length = n) (hn2 : n ≤ 1048576) (h : RowAt fileE w (some ⟨g, 0, none⟩) fs) :
    Calls Try.prog 71 #[.slice (some ⟨g, 0, none⟩) n c] w fun e w' => ∃ a' c', e = .returned (.slice a' n c') ∧ OwnR fileE w' w.heap.size (.slice a' n c') fs ∧ Below w.heap.size w w' := by
  have HO := hide (ownR_empty fileE w w.heap.size (Nat.le_refl _))
  have HR1 := hide (h.below (bel1 w (.cells #[] 81)))
  have HB1 := hide (bel1 w (.cells #[] 81))
  have HN := hide hn
  have hnil := nil_file g n c
  clear h hn
  go_enter Try.func71, Try.ntmps71
  go_wp2_with (at_builtin; go_must (refine appG (e := fileE) rfl _ _ rfl (unhide HO) rfl (some ⟨g, 0, none⟩) n c rfl (unhide HN) (unhide HR1) (.inr ⟨g, rfl⟩) (by simp; omega) (by simp) ?_); intro v' w6 hown6 hb6)
  obtain ⟨a', c', rfl⟩ := hown6.form
  go_ret
  refine ⟨a', c', ?_, ?_, (unhide HB1).trans hb6⟩
  · rw [List.nil_append, unhide HN]; rfl
  · rw [List.nil_append, unhide HN] at hown6; exact hown6

set_option maxRecDepth 10000 in
set_option maxHeartbeats 1000000 in
theorem cloneDOp_calls (g n c : Nat) (fs : List Dop) (w : World) (hn : fs.length = n) (hn2 : n ≤ 1048576) (h : RowAt dopE w (some ⟨g, 0, none⟩) fs) :
    Calls Try.prog 72 #[.slice (some ⟨g, 0, none⟩) n c] w fun e w' => ∃ a' c', e = .returned (.slice a' n c') ∧ OwnR dopE w' w.heap.size (.slice a' n c') fs ∧ Below w.heap.size w w' := by
  have HO := hide (ownR_empty dopE w w.heap.size (Nat.le_refl _))
  have HR1 := hide (h.below (bel1 w (.cells #[] 49)))
  have HB1 := hide (bel1 w (.cells #[] 49))
  have HN := hide hn
  have hnil := nil_dop g n c
  clear h hn
  go_enter Try.func72, Try.ntmps72
  go_wp2_with (at_builtin; go_must (refine appG (e := dopE) rfl _ _ rfl (unhide HO) rfl (some ⟨g, 0, none⟩) n c rfl (unhide HN) (unhide HR1) (.inr ⟨g, rfl⟩) (by simp; omega) (by simp) ?_); intro v' w6 hown6 hb6)
  obtain ⟨a', c', rfl⟩ := hown6.form
  go_ret
  refine ⟨a', c', ?_, ?_, (unhide HB1).trans hb6⟩
  · rw [List.nil_append, unhide HN]; rfl
  · rw [List.nil_append, unhide HN] at hown6; exact hown6

end Go.Proofs.Ytiligddjilcdhaa
