/- Texts of one kind, put together. -/
import Derived.Test.YtanekbifdedmeaaGreatDoorGAB
import Derived.Test.YtanekbifdedmeaaGreatDoorMtx
import Derived.Test.YtanekbifdedmeaaGreatDoorGAG
import Derived.Laws.CopyRow
import Derived.Laws.CopyOwn

/- Rows of texts marked and looked at again, as the exact laws do it. -/
namespace Go.Proofs.YtanekbifdedmeaaGreatDoor
open Go.RowKit Plain
set_option linter.unusedVariables false

namespace Plain
end Plain



end Go.Proofs.YtanekbifdedmeaaGreatDoor


/- Eight words in memory: stored one by one. -/
namespace Go.Proofs.YtanekbifdedmeaaGreatDoor.Plain
open Go Go.RowKit
set_option linter.unusedVariables false

/-- The cells of block g from its head on hold the words v; they may be written. -/
def Words (w : World) (g : Nat) (v : List Int) : Prop := ∀ j, j < v.length → w.cell? ⟨g, j, none⟩ = some (.int .u32 (v.getD j 0)) ∧ w.frozen? ⟨g, j, none⟩ = false

theorem Words.below {w w' : World} {g B : Nat} {v : List Int} (h : Words w g v) (hb : Below B w w') (hg : g < B) : Words w' g v := fun j hj =>
  ⟨(hb.cell (p := ⟨g, j, none⟩) hg).trans (h j hj).1, (hb.frozen (p := ⟨g, j, none⟩) hg).trans (h j hj).2⟩

theorem Words.set {w : World} {g : Nat} {v : List Int} (h : Words w g v) (i : Nat) (hi : i < v.length) (x : Int) : Words (w.setCell ⟨g, i, none⟩ (.int .u32 x)) g (v.set i x) := by
  intro j hj
  have hj' : j < v.length := by simpa using hj
  refine ⟨?_, by simp [(h j hj').2]⟩
  by_cases e : i = j
  · subst e
    rw [World.cell?_setCell_same' _ _ _ (by rw [(h i hi).1]; rfl)]
    simp [List.getD, hi]
  · rw [World.cell?_setCell_other w ⟨g, i, none⟩ ⟨g, j, none⟩ _ (fun q => e (congrArg Addr.off q)), (h j hj').1]
    simp [List.getD, e]

theorem Words.other {w : World} {g g' : Nat} {v : List Int} (h : Words w g v) (i : Nat) (x : Value) (hg : g' ≠ g) : Words (w.setCell ⟨g', i, none⟩ x) g v := fun j hj =>
  ⟨(World.cell?_setCell_other w ⟨g', i, none⟩ ⟨g, j, none⟩ x (fun q => hg (congrArg Addr.block q))).trans (h j hj).1, by simp [(h j hj).2]⟩

theorem Words.drew {w : World} {g : Nat} {v : List Int} (h : Words w g v) : Words w.drew g v := h

end Go.Proofs.YtanekbifdedmeaaGreatDoor.Plain


/- A text's bytes as numbers, and copy from a text. -/
namespace Go.Proofs.YtanekbifdedmeaaGreatDoor.Plain
open Go Go.RowKit
set_option linter.unusedVariables false

def bL (s : ByteArray) : List Int := s.data.toList.map fun b => ((b.toNat : Nat) : Int)
theorem bL_length (s : ByteArray) : (bL s).length = s.size := by simp [bL]
theorem bL_byte (s : ByteArray) : ∀ j, 0 ≤ (bL s).getD j 0 ∧ (bL s).getD j 0 < 256 := by
  intro j
  unfold bL
  by_cases h : j < s.data.toList.length
  · have := (s.data.toList[j]).toNat_lt
    simp only [List.getD, List.getElem?_map, List.getElem?_eq_getElem h, Option.map_some, Option.getD_some]
    omega
  · simp only [List.getD, List.getElem?_map, List.getElem?_eq_none (by omega : s.data.toList.length ≤ j), Option.map_none, Option.getD_none]
    omega

end Go.Proofs.YtanekbifdedmeaaGreatDoor.Plain

