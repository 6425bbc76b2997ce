/- Rows of texts marked and looked at again, as the exact laws do it. -/
import Derived.Test.YtmgjkomgpkoenaaGreatStrR
import Derived.Test.YtmgjkomgpkoenaaGreatMtx
namespace Go.Proofs.YtmgjkomgpkoenaaGreat
open Go.RowKit Plain
set_option linter.unusedVariables false

theorem RowAt.ofS {W : World} {a : Option Addr} {xs : List ByteArray} (h : ∀ i (hi : i < xs.length), ∃ g, a = some ⟨g, 0, none⟩ ∧ g < W.heap.size ∧ W.cell? ⟨g, i, none⟩ = some (.string xs[i]) ∧ W.frozen? ⟨g, i, none⟩ = false) : RowAt strE W a xs := by
  intro i hi
  obtain ⟨g, e, hl, hc, hf⟩ := h i hi
  refine ⟨g, e, hl, fun j hj => ?_⟩
  obtain rfl : j = 0 := by have : strE.n = 1 := rfl; omega
  rw [show i * strE.n + 0 = i from Nat.mul_one i]
  exact ⟨hc, hf⟩
theorem RowAt.setS {W : World} {g : Nat} {L : List ByteArray} (h : RowAt strE W (some ⟨g, 0, none⟩) L) (k : Nat) (hk : k < L.length) (y : ByteArray) : RowAt strE (W.setCell ⟨g, k, none⟩ (.string y)) (some ⟨g, 0, none⟩) (L.set k y) := by
  apply RowAt.ofS
  intro i hi
  rw [List.length_set] at hi
  obtain ⟨g', e, hl, hc, hf⟩ := h.str i hi
  cases e
  refine ⟨g, rfl, by simpa using hl, ?_, by simpa using hf⟩
  by_cases e : k = i
  · subst e
    rw [World.cell?_setCell_same' _ _ _ (by rw [hc]; rfl)]
    simp
  · rw [World.cell?_setCell_other _ ⟨g, k, none⟩ ⟨g, i, none⟩ _ (fun q => e (by have := congrArg Addr.off q; simpa using this)), hc]
    simp [e]

namespace Plain
/-- What the marking leaves. -/
def mkS (b n : Nat) : List ByteArray := (List.range n).map fun i : Nat => mtx (b + i)
theorem mkS_length (b n : Nat) : (mkS b n).length = n := by simp [mkS]
theorem mkS_get (b n k : Nat) (h : k < (mkS b n).length) : (mkS b n)[k] = mtx (b + k) := by simp [mkS]
def mixS (b : Nat) (fs : List ByteArray) (k : Nat) : List ByteArray := mkS b k ++ fs.drop k
theorem mixS_length (b : Nat) (fs : List ByteArray) (k : Nat) (h : k ≤ fs.length) : (mixS b fs k).length = fs.length := by simp [mixS, mkS_length]; omega
theorem mixS_zero (b : Nat) (fs : List ByteArray) : mixS b fs 0 = fs := by simp [mixS, mkS]
theorem mixS_end (b : Nat) (fs : List ByteArray) : mixS b fs fs.length = mkS b fs.length := by simp [mixS]
theorem mixS_next (b : Nat) (fs : List ByteArray) (k : Nat) (h : k < fs.length) : (mixS b fs k).set k (mtx (b + k)) = mixS b fs (k + 1) := by
  have hl := mkS_length b k
  unfold mixS
  rw [List.set_append_right _ _ (by omega), hl, Nat.sub_self, List.drop_eq_getElem_cons h, List.set_cons_zero]
  simp [mkS, List.range_succ]
end Plain



end Go.Proofs.YtmgjkomgpkoenaaGreat