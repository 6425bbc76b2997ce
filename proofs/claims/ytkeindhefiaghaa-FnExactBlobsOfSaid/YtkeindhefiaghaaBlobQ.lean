/- Rows beside one that is marked. -/
import Derived.Test.YtkeindhefiaghaaBlob
import Derived.Test.YtkeindhefiaghaaManQ
namespace Go.Proofs.Ytkeindhefiaghaa
open Go.RowKit Plain
set_option linter.unusedVariables false

theorem Plain.StrsAt.onlyRow {w w' : World} {a b : Option Addr} {ls : List ByteArray} (h : StrsAt w a ls) (ho : OnlyRow b w w') (hne : ∀ g o, a = some ⟨g, o, none⟩ → ∀ o', b ≠ some ⟨g, o', none⟩) : StrsAt w' a ls := fun i hi => by
  obtain ⟨g, o, e, hl, hc⟩ := h i hi
  exact ⟨g, o, e, Nat.lt_of_lt_of_le hl ho.size, (ho.cell hl (hne g o e)).trans hc⟩
theorem RowAt.onlyRow {w w' : World} {a b : Option Addr} {ls : List ByteArray} (h : RowAt strE w a ls) (ho : OnlyRow b w w') (hne : ∀ g o, a = some ⟨g, o, none⟩ → ∀ o', b ≠ some ⟨g, o', none⟩) : RowAt strE w' a ls := by
  apply RowAt.ofS
  intro i hi
  obtain ⟨g, e, hl, hc, hf⟩ := h.str i hi
  exact ⟨g, e, Nat.lt_of_lt_of_le hl ho.size, (ho.cell hl (hne g 0 e)).trans hc, (ho.frozen hl (hne g 0 e)).trans hf⟩
theorem OwnR.blk {w : World} {B n c : Nat} {a : Option Addr} {ls : List ByteArray} (h : OwnR strE w B (.slice a n c) ls) : ∀ g o, a = some ⟨g, o, none⟩ → B ≤ g ∧ g < w.heap.size := by
  intro g o e
  subst e
  exact World.ownsRow.lt h g rfl
end Go.Proofs.Ytkeindhefiaghaa
