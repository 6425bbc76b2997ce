/- Texts of one kind, put together. -/
import Derived.Test.YtanekbifdedmeaaGreatDoorGAA
import Derived.Deep.QuietTactic
import Derived.BigQuiet

/- A word in four bytes, the lowest first: both programs by their contracts. -/
namespace Go.Proofs.YtanekbifdedmeaaGreatDoor
open Go.RowKit Plain
set_option linter.unusedVariables false

namespace Plain
end Plain

theorem conv_lit (W : World) (xs : List Int) (h : xs.length ≤ 1000) :
    (convert 22 9 (.slice (some ⟨W.heap.size, 0, none⟩) xs.length xs.length)).run Tryz.prog (W.alloc (.cells (xs.map (Value.int .u8)).toArray 5)) = .ok (.string (strOfNums xs)) (W.alloc (.cells (xs.map (Value.int .u8)).toArray 5)) := by
  refine conv_ownB _ W.heap.size _ xs ?_
  refine ⟨by simp, .inr ⟨W.heap.size, xs.length, (xs.map (Value.int .u8)).toArray, rfl, Nat.le_refl _, heap_alloc_new _ _, Nat.le_refl _, by unfold maxLen; omega, by simp, ?_⟩⟩
  rw [Nat.mul_one]
  exact List.take_of_length_le (by simp)

theorem conv1 (W : World) (a : Int) :
    (convert 22 9 (.slice (some ⟨W.heap.size, 0, none⟩) 1 1)).run Tryz.prog (W.alloc (.cells #[.int .u8 a] 5)) = .ok (.string (strOfNums [a])) (W.alloc (.cells #[.int .u8 a] 5)) :=
  conv_lit W [a] (by simp)







end Go.Proofs.YtanekbifdedmeaaGreatDoor


/- Regions that draw their order and whose callees may make new blocks: one walk in the order of the text. -/
namespace Go.Proofs.YtanekbifdedmeaaGreatDoor
open Go.RowKit Plain
set_option linter.unusedVariables false

/-- A world that has grown out of W: new blocks alone. -/
structure Plain.Grown (W : World) where
  w : World
  ok : Below W.heap.size W w
theorem Plain.region_grown {id : Nat} {Q : Exit → Act → World → Prop} {a : Act} {w : World} {l : List Oper} (hm : Tryz.prog.follows .mixedOrders = true) (hB : Region.lexB .any l.toArray = true) (W : World) (hW : Below W.heap.size W w)
    (h : wpQuiet Tryz.prog l.toArray (fun w' => ∃ x : Grown W, w' = x.w) (fun a' => ∀ w', (∃ x : Grown W, w' = x.w) → Q .normal a' w') l a) : (Code.region id l.toArray true).wp Tryz.prog Q a w :=
  wp_region_quiet (C := fun w' => ∃ x : Grown W, w' = x.w) hm hB ⟨⟨{ w with drawn := w.drawn + 1 }, ⟨hW.os, hW.tape, hW.output, hW.size, hW.block⟩⟩, rfl⟩ h
theorem Plain.Grown.cell {W : World} {p : Addr} {v : Value} (h : W.cell? p = some v) (hl : p.block < W.heap.size) (x : Grown W) : x.w.cell? p = some v := (x.ok.cell (p := p) hl).trans h
/-- A call that leaves new blocks alone, as such a walk asks it. -/
theorem Plain.calls_grown {f : FuncId} {args : Array Value} {W : World} {v : Value} (x : Grown W) (h : Calls Tryz.prog f args x.w fun e w' => e = .returned v ∧ Below x.w.heap.size x.w w') :
    Calls Tryz.prog f args x.w fun e w'' => e = .returned v ∧ ∃ y : Grown W, w'' = y.w :=
  h.mono fun e w' ⟨h1, h2⟩ => ⟨h1, ⟨w', x.ok.trans (h2.mono x.ok.size)⟩, rfl⟩
end Go.Proofs.YtanekbifdedmeaaGreatDoor

