/- Bytes of the call's own: a byte of them changed; a beginning of them as a text; bytes that are written out. -/
import Derived.Test.YtldgkpnlplfopaaGreatDoorShaP
import Derived.Lib.SlBytesConst
namespace Go.Proofs.YtldgkpnlplfopaaGreatDoor
open Go.RowKit Plain
set_option linter.unusedVariables false

theorem conv_pre (W : World) (B g cap n c : Nat) (xs : List Int) (h : OwnP W B g cap xs) (hn : n ≤ xs.length) : (convert 22 9 (.slice (some ⟨g, 0, none⟩) n c)).run Tryz.prog W = .ok (.string (strOfNums (xs.take n))) W :=
  run_convert_bytes_arg W _ _ Tryz.underlying22 Tryz.underlying5 g 0 n c (xs.take n) (by rw [List.length_take]; omega) (fun i hi => by
    rw [Nat.zero_add, h.2.2.2.1 i (by omega)]
    simp [List.getD, hi]) _ Tryz.underlying9

theorem OwnP.set {W : World} {B g cap : Nat} {xs : List Int} (h : OwnP W B g cap xs) (i : Nat) (hi : i < xs.length) (y : Int) : OwnP (W.setCell ⟨g, i, none⟩ (.int .u8 y)) B g cap (xs.set i y) := by
  obtain ⟨h1, h2, h3, h4, h5⟩ := h
  refine ⟨h1, by simpa using h2, by simpa using h3, fun j hj => ?_, fun j hj => ?_⟩
  · by_cases e : i = j
    · subst e
      rw [World.cell?_setCell_same' _ _ _ (h5 i (by omega)).1]
      simp [List.getD, hi]
    · rw [World.cell?_setCell_other _ ⟨g, i, none⟩ ⟨g, j, none⟩ _ (fun q => e (congrArg Addr.off q)), h4 j (by simpa using hj)]
      simp [List.getD, e]
  · refine ⟨?_, by simpa using (h5 j hj).2⟩
    by_cases e : i = j
    · subst e; rw [World.cell?_setCell_same' _ _ _ (h5 i (by omega)).1]; rfl
    · rw [World.cell?_setCell_other _ ⟨g, i, none⟩ ⟨g, j, none⟩ _ (fun q => e (congrArg Addr.off q))]; exact (h5 j hj).1

/-- '[]byte' of a constant text: the bytes are laid, the row is marked. -/
theorem const_own (w : World) (xs : List Int) (n : Nat) (hn : xs.length = n) : OwnP (w.alloc (.cells (xs.map (Value.int .u8)).toArray 5 (n, n + 1))) w.heap.size w.heap.size n xs := by
  subst hn
  have hnew := h_new w (.cells (xs.map (Value.int .u8)).toArray 5 (xs.length, xs.length + 1)) (n := w.heap.size) rfl
  refine ⟨Nat.le_refl _, by simp, Nat.le_refl _, fun j hj => ?_, fun j hj => ?_⟩
  · rw [cell_of_row _ _ j _ _ _ hnew]
    simp [List.getD, List.getElem?_eq_getElem hj]
  · constructor
    · rw [cell_of_row _ _ j _ _ _ hnew]
      simp [hj]
    · unfold World.frozen?
      rw [hnew]
      simp
      omega
theorem conv_const (w : World) (xs : List Int) (n : Nat) (hn : xs.length = n) : (convert 22 22 (.slice (some ⟨w.heap.size, 0, none⟩) n n)).run Tryz.prog (w.alloc (.cells (xs.map (Value.int .u8)).toArray 5)) =
    .ok (.slice (some ⟨w.heap.size, 0, none⟩) n n) (w.alloc (.cells (xs.map (Value.int .u8)).toArray 5 (n, n + 1))) := by
  have := Lib.run_convert_bytes_const w 22 5 (xs.map (Value.int .u8)).toArray n n Tryz.underlying22 Tryz.underlying5
  rw [this]
  simp [hn]
end Go.Proofs.YtldgkpnlplfopaaGreatDoor
