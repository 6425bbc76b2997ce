/- Rows of files, as the exact laws copy, measure and compare them. -/
import Derived.Test.YtgdcamolpmjceaaRowK
import Derived.Test.YtgdcamolpmjceaaDskV
import Derived.Test.YtgdcamolpmjceaaPrs
namespace Go.Proofs.Ytgdcamolpmjceaa
open Go.RowKit Plain
set_option linter.unusedVariables false

namespace Plain
def totF (fs : List Fl) : Nat := (fs.map fun f => f.1.size + f.2.size).sum
theorem totF_drop (fs : List Fl) (k : Nat) (h : k < fs.length) : totF (fs.drop k) = (fs[k].1.size + fs[k].2.size) + totF (fs.drop (k + 1)) := by rw [totF, List.drop_eq_getElem_cons h, List.map_cons, List.sum_cons]; rfl
theorem totF_end (fs : List Fl) (k : Nat) (h : fs.length ≤ k) : totF (fs.drop k) = 0 := by rw [List.drop_of_length_le h]; rfl
theorem totF_mem (fs : List Fl) (f : Fl) (h : f ∈ fs) : f.1.size + f.2.size ≤ totF fs := by
  induction fs with
  | nil => simp at h
  | cons g t ih =>
    have e : totF (g :: t) = (g.1.size + g.2.size) + totF t := by simp [totF]
    rw [e]
    rcases List.mem_cons.1 h with rfl | h
    · omega
    · have := ih h; omega
theorem ArgAt.file {W : World} {a : Option Addr} {xs : List Fl} (h : ArgAt 2 fileL W a xs) (i : Nat) (hi : i < xs.length) : ∃ g o, a = some ⟨g, o, none⟩ ∧ g < W.heap.size ∧ W.cell? ⟨g, o + i * 2, none⟩ = some (.string xs[i].1) ∧ W.cell? ⟨g, o + i * 2 + 1, none⟩ = some (.string xs[i].2) := by
  obtain ⟨g, o, e, hl, hc⟩ := h i hi
  exact ⟨g, o, e, hl, hc 0 (by decide), hc 1 (by decide)⟩
end Plain











end Go.Proofs.Ytgdcamolpmjceaa