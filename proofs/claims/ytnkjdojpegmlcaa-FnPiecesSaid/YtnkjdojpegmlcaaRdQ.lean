/- Frames compared, marked and looked at again, as the exact laws do it. -/
import Derived.Test.YtnkjdojpegmlcaaRdK
import Derived.Test.YtnkjdojpegmlcaaMtx
import Derived.Deep.RegionWith
namespace Go.Proofs.Ytnkjdojpegmlcaa
open Go.RowKit Plain
set_option linter.unusedVariables false



namespace Plain
/-- The slice at a holds the frames fs, which may be written. -/
def FrAt (W : World) (a : Option Addr) (fs : List (Int × ByteArray)) : Prop := ∀ i (h : i < fs.length), ∃ g, a = some ⟨g, 0, none⟩ ∧ g < W.heap.size ∧
  W.cell? ⟨g, i * 2, none⟩ = some (.int .i64 (fs[i]).1) ∧ W.cell? ⟨g, i * 2 + 1, none⟩ = some (.string (fs[i]).2) ∧ W.frozen? ⟨g, i * 2, none⟩ = false ∧ W.frozen? ⟨g, i * 2 + 1, none⟩ = false
theorem FrAt.below {W W' : World} {a : Option Addr} {fs : List (Int × ByteArray)} (h : FrAt W a fs) (hb : Below W.heap.size W W') : FrAt W' a fs := fun i hi => by
  obtain ⟨g, e, hl, h1, h2, h3, h4⟩ := h i hi
  exact ⟨g, e, Nat.lt_of_lt_of_le hl hb.size, (hb.cell (p := ⟨g, i * 2, none⟩) hl).trans h1, (hb.cell (p := ⟨g, i * 2 + 1, none⟩) hl).trans h2, (hb.frozen (p := ⟨g, i * 2, none⟩) hl).trans h3, (hb.frozen (p := ⟨g, i * 2 + 1, none⟩) hl).trans h4⟩
end Plain
theorem OwnF.at {W : World} {B : Nat} {a : Option Addr} {n c : Nat} {fs : List (Int × ByteArray)} (h : OwnF W B (.slice a n c) fs) (hn : fs.length = n) : FrAt W a fs := by
  intro i hi
  subst hn
  rcases h.2 with ⟨e, h0⟩ | ⟨g, cap, cur, e, hg, hc, _⟩
  · omega
  · cases e
    have hlt : g < W.heap.size := by
      rcases Nat.lt_or_ge g W.heap.size with h | h
      · exact h
      · rw [Array.getElem?_eq_none h] at hc; cases hc
    have hf := fcells_get fs i hi
    exact ⟨g, rfl, hlt, (h.cellAt (i * 2) (by omega)).trans hf.1, (h.cellAt (i * 2 + 1) (by omega)).trans hf.2, h.frozenAt _, h.frozenAt _⟩



namespace Plain
theorem FrAt.set1 {W : World} {g : Nat} {L : List (Int × ByteArray)} (h : FrAt W (some ⟨g, 0, none⟩) L) (k : Nat) (hk : k < L.length) (x : Int) : FrAt (W.setCell ⟨g, k * 2, none⟩ (.int .i64 x)) (some ⟨g, 0, none⟩) (L.set k (x, L[k].2)) := by
  intro i hi
  rw [List.length_set] at hi
  obtain ⟨g', e, hl, h1, h2, h3, h4⟩ := h i hi
  cases e
  refine ⟨g, rfl, by simpa using hl, ?_, ?_, by simpa using h3, by simpa using h4⟩
  · by_cases e : k = i
    · subst e
      rw [World.cell?_setCell_same' _ _ _ (by rw [h1]; rfl)]
      simp
    · rw [World.cell?_setCell_other _ ⟨g, k * 2, none⟩ ⟨g, i * 2, none⟩ _ (fun q => e (by have := congrArg Addr.off q; simp at this; omega)), h1]
      simp [e]
  · rw [World.cell?_setCell_other _ ⟨g, k * 2, none⟩ ⟨g, i * 2 + 1, none⟩ _ (fun q => by have := congrArg Addr.off q; simp at this; omega), h2]
    by_cases e : k = i
    · subst e; simp
    · simp [e]
theorem FrAt.set2 {W : World} {g : Nat} {L : List (Int × ByteArray)} (h : FrAt W (some ⟨g, 0, none⟩) L) (k : Nat) (hk : k < L.length) (y : ByteArray) : FrAt (W.setCell ⟨g, k * 2 + 1, none⟩ (.string y)) (some ⟨g, 0, none⟩) (L.set k (L[k].1, y)) := by
  intro i hi
  rw [List.length_set] at hi
  obtain ⟨g', e, hl, h1, h2, h3, h4⟩ := h i hi
  cases e
  refine ⟨g, rfl, by simpa using hl, ?_, ?_, by simpa using h3, by simpa using h4⟩
  · rw [World.cell?_setCell_other _ ⟨g, k * 2 + 1, none⟩ ⟨g, i * 2, none⟩ _ (fun q => by have := congrArg Addr.off q; simp at this; omega), h1]
    by_cases e : k = i
    · subst e; simp
    · simp [e]
  · by_cases e : k = i
    · subst e
      rw [World.cell?_setCell_same' _ _ _ (by rw [h2]; rfl)]
      simp
    · rw [World.cell?_setCell_other _ ⟨g, k * 2 + 1, none⟩ ⟨g, i * 2 + 1, none⟩ _ (fun q => e (by have := congrArg Addr.off q; simp at this; omega)), h2]
      simp [e]

/-- What the marking leaves. -/
def mkF (n : Nat) : List (Int × ByteArray) := (List.range n).map fun i : Nat => (2 * (i : Int) + 1, mtx (2 * i + 2))
theorem mkF_length (n : Nat) : (mkF n).length = n := by simp [mkF]
theorem mkF_get (n k : Nat) (h : k < (mkF n).length) : (mkF n)[k] = (2 * (k : Int) + 1, mtx (2 * k + 2)) := by simp [mkF]
def mixF (fs : List (Int × ByteArray)) (k : Nat) : List (Int × ByteArray) := mkF k ++ fs.drop k
theorem mixF_length (fs : List (Int × ByteArray)) (k : Nat) (h : k ≤ fs.length) : (mixF fs k).length = fs.length := by simp [mixF, mkF_length]; omega
theorem mixF_zero (fs : List (Int × ByteArray)) : mixF fs 0 = fs := by simp [mixF, mkF]
theorem mixF_end (fs : List (Int × ByteArray)) : mixF fs fs.length = mkF fs.length := by simp [mixF]
theorem mixF_next (fs : List (Int × ByteArray)) (k : Nat) (h : k < fs.length) : (mixF fs k).set k (2 * (k : Int) + 1, mtx (2 * k + 2)) = mixF fs (k + 1) := by
  have hl := mkF_length k
  unfold mixF
  rw [List.set_append_right _ _ (by omega), hl, Nat.sub_self, List.drop_eq_getElem_cons h, List.set_cons_zero]
  simp [mkF, List.range_succ]
end Plain



end Go.Proofs.Ytnkjdojpegmlcaa