/- Disks that lie in a block of their own. -/
import Derived.Test.YtiligddjilcdhaaDskK
namespace Go.Proofs.Ytiligddjilcdhaa
open Go.RowKit Plain
set_option linter.unusedVariables false

/-- A disk's three slices in a block of their own. -/
structure Plain.DC (b : Nat) (vL vS vO : Value) (W : World) : Prop where
  lt : b < W.heap.size
  c0 : W.cell? ⟨b, 0, none⟩ = some vL
  c1 : W.cell? ⟨b, 1, none⟩ = some vS
  c2 : W.cell? ⟨b, 2, none⟩ = some vO
theorem Plain.DC.below {b : Nat} {vL vS vO : Value} {W W' : World} (h : DC b vL vS vO W) (hb : Below W.heap.size W W') : DC b vL vS vO W' := ⟨Nat.lt_of_lt_of_le h.lt hb.size, bcl hb h.lt h.c0, bcl hb h.lt h.c1, bcl hb h.lt h.c2⟩
theorem Plain.DC.offP {b : Nat} {vL vS vO : Value} {W W' : World} {p : Nat → Prop} (h : DC b vL vS vO W) (ho : OnlyP p W W') (hp : ¬ p b) : DC b vL vS vO W' := by
  have hb := ho.block b h.lt hp
  exact ⟨Nat.lt_of_lt_of_le h.lt ho.size, (World.cell?_of_block (a := ⟨b, 0, none⟩) hb).trans h.c0, (World.cell?_of_block (a := ⟨b, 1, none⟩) hb).trans h.c1, (World.cell?_of_block (a := ⟨b, 2, none⟩) hb).trans h.c2⟩
theorem Plain.DC.new (W : World) (a b c : Option Addr) (n m k i j l : Nat) : DC W.heap.size (.slice a n i) (.slice b m j) (.slice c k l) (W.alloc (.cells #[.slice a n i, .slice b m j, .slice c k l] 31)) := ⟨by simp, by simp [go_sem], by simp [go_sem], by simp [go_sem]⟩
end Go.Proofs.Ytiligddjilcdhaa
