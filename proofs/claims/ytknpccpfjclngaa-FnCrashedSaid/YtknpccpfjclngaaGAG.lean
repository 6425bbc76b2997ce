/- Texts of one kind, put together. -/
import Derived.Test.YtknpccpfjclngaaGAF
import Derived.Deep.AppendLies
import Derived.Deep.RegionHeld3

/- A row appended to an empty slice that was just made, inside a region that draws its order. -/
namespace Go.Proofs.Ytknpccpfjclngaa
open Go.RowKit Plain
set_option linter.unusedVariables false

/-- What an append to an empty slice in block g leaves. -/
structure Plain.AppE {α : Type} (e : Elem α) (g : Nat) (w w' : World) (a : Option Addr) (c : Nat) (ys : List α) : Prop where
  row : RowAt e w' a ys
  own : OwnR e w' g (.slice a ys.length c) ys
  gr : w.grownBy w' (some g)
  lies : ys = [] ∨ ∀ k, inB a k → k = g ∨ k = w.heap.size
theorem RowAt.grown {α : Type} {e : Elem α} {w w' : World} {a : Option Addr} {g : Nat} {ys : List α} (h : RowAt e w a ys) (hg : w.grownBy w' (some g)) (hne : ys = [] ∨ ∀ k, inB a k → k ≠ g) : RowAt e w' a ys := fun i hi => by
  obtain ⟨k, e1, hl, hc⟩ := h i hi
  have hk : some k ≠ some g := by
    rcases hne with h | h
    · rw [h] at hi; simp at hi
    · exact fun q => h k ⟨0, e1⟩ (Option.some.inj q)
  have hb := hg.block k hl hk
  exact ⟨k, e1, Nat.lt_of_lt_of_le hl hg.size, fun j hj => ⟨(World.cell?_of_block (a := ⟨k, i * e.n + j, none⟩) hb).trans (hc j hj).1, (World.frozen?_of_block (a := ⟨k, i * e.n + j, none⟩) hb).trans (hc j hj).2⟩⟩
theorem RowAt.setO {α : Type} {e : Elem α} {W : World} {a : Option Addr} {ys : List α} {b i : Nat} {u : Value} (h : RowAt e W a ys) (hne : ys = [] ∨ ∀ k, inB a k → k ≠ b) : RowAt e (W.setCell ⟨b, i, none⟩ u) a ys := by
  rcases hne with rfl | hne
  · exact fun i hi => by simp at hi
  · exact h.offR (b := some ⟨b, 0, none⟩) (OnlyRow.set i u) (fun g hg ⟨o, e⟩ => by cases e; exact hne _ hg rfl)
theorem Plain.AppE.far {α : Type} {e : Elem α} {g B : Nat} {w w' : World} {a : Option Addr} {c : Nat} {ys : List α} (h : AppE e g w w' a c ys) (h1 : B < g) (h2 : B < w.heap.size) : ys = [] ∨ ∀ k, inB a k → k ≠ B :=
  h.lies.imp id fun q k hk => by rcases q k hk with rfl | rfl <;> omega
end Go.Proofs.Ytknpccpfjclngaa


/- Disks copied, by the program. -/
namespace Go.Proofs.Ytknpccpfjclngaa
open Go.RowKit Plain
set_option linter.unusedVariables false

end Go.Proofs.Ytknpccpfjclngaa


/- Disks that lie in a block of their own. -/
namespace Go.Proofs.Ytknpccpfjclngaa
open Go.RowKit Plain
set_option linter.unusedVariables false

/-- A disk's three slices in a block of their own. -/
structure Plain.DC (b : Nat) (vL vS vO : Value) (W : World) : Prop where
  lt : b < W.heap.size
  c0 : W.cell? ⟨b, 0, none⟩ = some vL
  c1 : W.cell? ⟨b, 1, none⟩ = some vS
  c2 : W.cell? ⟨b, 2, none⟩ = some vO
theorem Plain.DC.below {b : Nat} {vL vS vO : Value} {W W' : World} (h : DC b vL vS vO W) (hb : Below W.heap.size W W') : DC b vL vS vO W' := ⟨Nat.lt_of_lt_of_le h.lt hb.size, bcl hb h.lt h.c0, bcl hb h.lt h.c1, bcl hb h.lt h.c2⟩
theorem Plain.DC.offP {b : Nat} {vL vS vO : Value} {W W' : World} {p : Nat → Prop} (h : DC b vL vS vO W) (ho : OnlyP p W W') (hp : ¬ p b) : DC b vL vS vO W' := by
  have hb := ho.block b h.lt hp
  exact ⟨Nat.lt_of_lt_of_le h.lt ho.size, (World.cell?_of_block (a := ⟨b, 0, none⟩) hb).trans h.c0, (World.cell?_of_block (a := ⟨b, 1, none⟩) hb).trans h.c1, (World.cell?_of_block (a := ⟨b, 2, none⟩) hb).trans h.c2⟩
theorem Plain.DC.new (W : World) (a b c : Option Addr) (n m k i j l : Nat) : DC W.heap.size (.slice a n i) (.slice b m j) (.slice c k l) (W.alloc (.cells #[.slice a n i, .slice b m j, .slice c k l] 27)) := ⟨by simp, by simp [go_sem], by simp [go_sem], by simp [go_sem]⟩
end Go.Proofs.Ytknpccpfjclngaa

