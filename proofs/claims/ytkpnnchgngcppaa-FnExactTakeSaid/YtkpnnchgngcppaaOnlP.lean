/- Worlds that differ in some blocks alone; rows that lie elsewhere. -/
import Derived.Test.YtkpnnchgngcppaaGen
namespace Go.Proofs.Ytkpnnchgngcppaa
open Go.RowKit Plain
set_option linter.unusedVariables false

namespace Plain
/-- Nothing has changed but blocks of which p is so, and new blocks. -/
structure OnlyP (p : Nat → Prop) (w w' : World) : Prop where
  os : w'.os = w.os
  tape : w'.tape = w.tape
  output : w'.output = w.output
  size : w.heap.size ≤ w'.heap.size
  block : ∀ k, k < w.heap.size → ¬ p k → w'.heap[k]? = w.heap[k]?
theorem OnlyP.of {p : Nat → Prop} {w w' : World} (h : Below w.heap.size w w') : OnlyP p w w' := ⟨h.os, h.tape, h.output, h.size, fun k hk _ => h.block k hk⟩
theorem OnlyP.row {p : Nat → Prop} {a : Option Addr} {w w' : World} (h : OnlyRow a w w') (hp : ∀ g o, a = some ⟨g, o, none⟩ → p g) : OnlyP p w w' := ⟨h.os, h.tape, h.output, h.size, fun k hk hn => h.block k hk fun o e => hn (hp k o e)⟩
theorem OnlyP.trans {p : Nat → Prop} {u v w : World} (h : OnlyP p u v) (h2 : OnlyP p v w) : OnlyP p u w :=
  ⟨h2.os.trans h.os, h2.tape.trans h.tape, h2.output.trans h.output, Nat.le_trans h.size h2.size, fun k hk hne => (h2.block k (Nat.lt_of_lt_of_le hk h.size) hne).trans (h.block k hk hne)⟩
theorem OnlyP.below {p : Nat → Prop} {w w' : World} {B : Nat} (h : OnlyP p w w') (hB : ∀ g, p g → B ≤ g) (hBw : B ≤ w.heap.size) : Below B w w' :=
  ⟨h.os, h.tape, h.output, h.size, fun k hk => h.block k (Nat.lt_of_lt_of_le hk hBw) (fun e => by have := hB k e; omega)⟩
/-- The block that a slice lies in. -/
def inB (a : Option Addr) (g : Nat) : Prop := ∃ o, a = some ⟨g, o, none⟩
end Plain
theorem RowAt.offP {α : Type} {e : Elem α} {p : Nat → Prop} {w w' : World} {a : Option Addr} {xs : List α} (h : RowAt e w a xs) (ho : OnlyP p w w') (hne : ∀ g, inB a g → ¬ p g) : RowAt e w' a xs := fun i hi => by
  obtain ⟨g, e1, hl, hc⟩ := h i hi
  have hb := ho.block g hl (hne g ⟨0, e1⟩)
  exact ⟨g, e1, Nat.lt_of_lt_of_le hl ho.size, fun j hj => ⟨(World.cell?_of_block (a := ⟨g, i * e.n + j, none⟩) hb).trans (hc j hj).1, (World.frozen?_of_block (a := ⟨g, i * e.n + j, none⟩) hb).trans (hc j hj).2⟩⟩
theorem RowAt.offR {α : Type} {e : Elem α} {w w' : World} {a b : Option Addr} {xs : List α} (h : RowAt e w a xs) (ho : OnlyRow b w w') (hne : ∀ g, inB a g → ¬ inB b g) : RowAt e w' a xs := h.offP (OnlyP.row (p := inB b) ho fun g o e => ⟨o, e⟩) hne
theorem OwnR.bl {α : Type} {e : Elem α} {w : World} {B n c : Nat} {a : Option Addr} {ls : List α} (h : OwnR e w B (.slice a n c) ls) : ∀ g, inB a g → B ≤ g ∧ g < w.heap.size := by
  rintro g ⟨o, rfl⟩
  exact World.ownsRow.lt h g rfl
end Go.Proofs.Ytkpnnchgngcppaa
