/- Manifests as the exact laws copy, measure and compare them. -/
import Derived.Test.YtnkjdojpegmlcaaDoorMan
import Derived.Deep.RegionWith
namespace Go.Proofs.YtnkjdojpegmlcaaDoor
open Go.RowKit Plain
set_option linter.unusedVariables false

theorem OwnR.setLow {α : Type} {e : Elem α} {W : World} {B : Nat} {v : Value} {xs : List α} (h : OwnR e W B v xs) {p : Addr} (hp : p.block < B) (x : Value) : OwnR e (W.setCell p x) B v xs := ownsRow_setCell_below h hp x
namespace Plain
theorem setLow {W : World} {b i j g o : Nat} {x v : Value} (h : W.cell? ⟨g, o, none⟩ = some v) (hne : b ≠ g) : (W.setCell ⟨b, i, none⟩ x).cell? ⟨g, o, none⟩ = some v := (World.cell?_setCell_other _ ⟨b, i, none⟩ ⟨g, o, none⟩ _ (fun e => hne (congrArg Addr.block e))).trans h
end Plain



namespace Plain
def szM (cf : ByteArray) (ls : List ByteArray) (left : Int) : Int := if left < cf.size then -1 else szL ls (left - cf.size)
theorem szL_neg (ls : List ByteArray) (left : Int) (h : szL ls left < 0) (h0 : 0 ≤ left) : szL ls left = -1 := by
  unfold szL at h ⊢
  split
  · rfl
  · next hc => rw [if_neg hc] at h; omega
theorem szM_fit {cf : ByteArray} {ls : List ByteArray} (h : ¬ szM cf ls 1048576 < 0) : cf.size ≤ 1048576 ∧ ls.length ≤ 1048576 ∧ sumZ ls ≤ 1048576 := by
  unfold szM at h
  split at h
  · omega
  · unfold szL at h
    split at h
    · omega
    · omega
end Plain



end Go.Proofs.YtnkjdojpegmlcaaDoor