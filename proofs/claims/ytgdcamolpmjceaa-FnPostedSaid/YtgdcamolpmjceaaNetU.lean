/- What the texts on nets take of those on disks. -/
import Derived.Test.YtgdcamolpmjceaaPktR
namespace Go.Proofs.Ytgdcamolpmjceaa
open Go.RowKit Plain
set_option linter.unusedVariables false
theorem OwnR.otherN {α : Type} {e : Elem α} {W W' : World} {B : Nat} {v : Value} {xs : List α} (h : OwnR e W B v xs) (hh : ∀ g, v.ownBlock = some g → W'.heap[g]? = W.heap[g]?) : OwnR e W' B v xs := by
  refine ⟨h.1, ?_⟩
  rcases h.2 with ⟨a, c⟩ | ⟨g, cap, cur, rfl, c, d, r⟩
  · exact .inl ⟨a, c⟩
  · exact .inr ⟨g, cap, cur, rfl, c, (hh g rfl).trans d, r⟩
theorem Plain.own_blkN {g g' n c : Nat} (h : (Value.slice (some ⟨g, 0, none⟩) n c).ownBlock = some g') : g = g' := Option.some.inj h
theorem Plain.heap_setN {W : World} {b i g : Nat} {u : Value} (h : b ≠ g) : (W.setCell ⟨b, i, none⟩ u).heap[g]? = W.heap[g]? := Below.heap_setCell _ _ _ _ (fun e => h (by simp at e; exact e.symm))
theorem Plain.cell_setN {W : World} {b i : Nat} {u v : Value} (h : W.cell? ⟨b, i, none⟩ = some v) : (W.setCell ⟨b, i, none⟩ u).cell? ⟨b, i, none⟩ = some u := World.cell?_setCell_same' _ _ _ (by rw [h]; rfl)
theorem Plain.cell_offN {W : World} {b i g j : Nat} {u : Value} (h : b ≠ g ∨ i ≠ j) : (W.setCell ⟨b, i, none⟩ u).cell? ⟨g, j, none⟩ = W.cell? ⟨g, j, none⟩ := World.cell?_setCell_other _ ⟨b, i, none⟩ ⟨g, j, none⟩ _ (fun q => by have h1 := congrArg Addr.block q; have h2 := congrArg Addr.off q; simp at h1 h2; omega)

end Go.Proofs.Ytgdcamolpmjceaa
