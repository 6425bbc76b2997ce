/- What DrawCrash draws: a disk, places, a number. -/
import Derived.Test.YtknpccpfjclngaaDrwK
import Derived.Test.YtknpccpfjclngaaGAD
import Derived.Test.YtknpccpfjclngaaGAE
import Derived.Deep.RegionLaw
import Derived.Deep.CutBlock
import Derived.Deep.DeepCutAuto
namespace Go.Proofs.Ytknpccpfjclngaa
open Go.RowKit Plain
set_option linter.unusedVariables false

theorem isRow_belC {w w' : World} {a : Option Addr} {len cap : Nat} {zs : List Int} (h : IsRow .u8 w a len cap zs) (hb : Below w.heap.size w w') : IsRow .u8 w' a len cap zs := by
  rcases h with h | ⟨x, hx, h1, h2, h3, h4, h5⟩
  · exact .inl h
  · refine .inr ⟨x, hx, h1, h2, h3, fun i hi => ?_, h5⟩
    have hc := h4 i hi
    exact (hb.cell (p := x.add i) (lt_of_cell hc)).trans hc
/-- No block ahead of B but R has changed. -/
structure Plain.KeepB (B R : Nat) (W W' : World) : Prop where
  lo : B ≤ W.heap.size
  sz : W.heap.size ≤ W'.heap.size
  bk : ∀ g, g < B → g ≠ R → W'.heap[g]? = W.heap[g]?
theorem Plain.KeepB.refl {B R : Nat} {W : World} (h : B ≤ W.heap.size) : KeepB B R W W := ⟨h, Nat.le_refl _, fun _ _ _ => rfl⟩
theorem Plain.KeepB.only {B R : Nat} {W X Y : World} (h : KeepB B R W X) (ho : OnlyAt ⟨R, 1, none⟩ X Y) : KeepB B R W Y :=
  ⟨h.lo, Nat.le_trans h.sz ho.size, fun g hg hn => (ho.block g (by have := h.lo; have := h.sz; omega) (by simp; omega)).trans (h.bk g hg hn)⟩
theorem Plain.KeepB.below {B R : Nat} {W X Y : World} (h : KeepB B R W X) (hb : Below B X Y) : KeepB B R W Y :=
  ⟨h.lo, Nat.le_trans h.sz hb.size, fun g hg hn => (hb.block g hg).trans (h.bk g hg hn)⟩
theorem Plain.KeepB.cell {B R : Nat} {W X : World} (h : KeepB B R W X) {g i : Nat} {v : Value} (hc : W.cell? ⟨g, i, none⟩ = some v) (hg : g < B) (hn : g ≠ R) : X.cell? ⟨g, i, none⟩ = some v := (World.cell?_of_block (a := ⟨g, i, none⟩) (h.bk g hg hn)).trans hc
theorem Plain.KeepB.frz {B R : Nat} {W X : World} (h : KeepB B R W X) {g i : Nat} (hc : W.frozen? ⟨g, i, none⟩ = false) (hg : g < B) (hn : g ≠ R) : X.frozen? ⟨g, i, none⟩ = false := (World.frozen?_of_block (a := ⟨g, i, none⟩) (h.bk g hg hn)).trans hc
theorem RowAt.kb {α : Type} {e : Elem α} {B R : Nat} {W X : World} {a : Option Addr} {xs : List α} (r : RowAt e W a xs) (h : KeepB B R W X) (hn : ∀ g, inB a g → g ≠ R) (hB : B = W.heap.size) : RowAt e X a xs := fun i hi => by
  obtain ⟨g, e1, hl, hc⟩ := r i hi
  have hg : g < B := by omega
  have hr := hn g ⟨0, e1⟩
  exact ⟨g, e1, Nat.lt_of_lt_of_le hl h.sz, fun j hj => ⟨(World.cell?_of_block (a := ⟨g, i * e.n + j, none⟩) (h.bk g hg hr)).trans (hc j hj).1, (World.frozen?_of_block (a := ⟨g, i * e.n + j, none⟩) (h.bk g hg hr)).trans (hc j hj).2⟩⟩
theorem RowO.kb {α : Type} {e : Elem α} {B R : Nat} {W X : World} {a : Option Addr} {xs : List α} (r : RowO e W a xs) (h : KeepB B R W X) (hn : ∀ g, inB a g → g ≠ R) (hB : B = W.heap.size) : RowO e X a xs := fun i hi => by
  obtain ⟨g, o, e1, hl, hc⟩ := r i hi
  have hg : g < B := by omega
  have hr := hn g ⟨o, e1⟩
  exact ⟨g, o, e1, Nat.lt_of_lt_of_le hl h.sz, fun j hj => ⟨(World.cell?_of_block (a := ⟨g, o + i * e.n + j, none⟩) (h.bk g hg hr)).trans (hc j hj).1, (World.frozen?_of_block (a := ⟨g, o + i * e.n + j, none⟩) (h.bk g hg hr)).trans (hc j hj).2⟩⟩
end Go.Proofs.Ytknpccpfjclngaa
