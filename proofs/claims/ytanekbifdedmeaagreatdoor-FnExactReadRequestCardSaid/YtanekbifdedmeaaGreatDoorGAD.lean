/- Texts of one kind, put together. -/
import Derived.Test.YtanekbifdedmeaaGreatDoorGAC
import Derived.Test.YtanekbifdedmeaaGreatDoorShlJ
import Derived.Lib.Builder
import Derived.Lib.AppendStr
import Derived.Laws.Externs
import Derived.Lib.Join
import Derived.Test.YtanekbifdedmeaaGreatDoorGAA
import Derived.Deep.QuietTactic
import Derived.BigQuiet
import Derived.ArgAppend
import Derived.Laws.IdiomStrings
import Derived.Deep.MidRow

/- What is left of a purse. -/
namespace Go.Proofs.YtanekbifdedmeaaGreatDoor.Plain
open Go.RowKit
set_option linter.unusedVariables false
/-- What is left of a purse behind n. -/
def purse (left : Int) (n : Nat) : Int := if left < n then -1 else left - n
end Go.Proofs.YtanekbifdedmeaaGreatDoor.Plain


/- A strings.Builder that grows and is written to, by this program. -/
namespace Go.Proofs.YtanekbifdedmeaaGreatDoor
open Go.RowKit Plain
set_option linter.unusedVariables false

end Go.Proofs.YtanekbifdedmeaaGreatDoor


/- strings.Join, by this program. -/
namespace Go.Proofs.YtanekbifdedmeaaGreatDoor
open Go.RowKit Plain
set_option linter.unusedVariables false

namespace Plain
end Plain

end Go.Proofs.YtanekbifdedmeaaGreatDoor


/- Regions that draw their order and whose callees may make new blocks: one walk in the order of the text. -/
namespace Go.Proofs.YtanekbifdedmeaaGreatDoor
open Go.RowKit Plain
set_option linter.unusedVariables false

/-- A world that has grown out of W: new blocks alone. -/
structure Plain.Grown (W : World) where
  w : World
  ok : Below W.heap.size W w
theorem Plain.region_grown {id : Nat} {Q : Exit → Act → World → Prop} {a : Act} {w : World} {l : List Oper} (hm : Tryz.prog.follows .mixedOrders = true) (hB : Region.lexB .any l.toArray = true) (W : World) (hW : Below W.heap.size W w)
    (h : wpQuiet Tryz.prog l.toArray (fun w' => ∃ x : Grown W, w' = x.w) (fun a' => ∀ w', (∃ x : Grown W, w' = x.w) → Q .normal a' w') l a) : (Code.region id l.toArray true).wp Tryz.prog Q a w :=
  wp_region_quiet (C := fun w' => ∃ x : Grown W, w' = x.w) hm hB ⟨⟨{ w with drawn := w.drawn + 1 }, ⟨hW.os, hW.tape, hW.output, hW.size, hW.block⟩⟩, rfl⟩ h
theorem Plain.Grown.cell {W : World} {p : Addr} {v : Value} (h : W.cell? p = some v) (hl : p.block < W.heap.size) (x : Grown W) : x.w.cell? p = some v := (x.ok.cell (p := p) hl).trans h
/-- A call that leaves new blocks alone, as such a walk asks it. -/
theorem Plain.calls_grown {f : FuncId} {args : Array Value} {W : World} {v : Value} (x : Grown W) (h : Calls Tryz.prog f args x.w fun e w' => e = .returned v ∧ Below x.w.heap.size x.w w') :
    Calls Tryz.prog f args x.w fun e w'' => e = .returned v ∧ ∃ y : Grown W, w'' = y.w :=
  h.mono fun e w' ⟨h1, h2⟩ => ⟨h1, ⟨w', x.ok.trans (h2.mono x.ok.size)⟩, rfl⟩
end Go.Proofs.YtanekbifdedmeaaGreatDoor


/- Bytes of a string in a row of the call's own, and a byte appended to them. -/
namespace Go.Proofs.YtanekbifdedmeaaGreatDoor
open Go.RowKit Plain
set_option linter.unusedVariables false

/-- Block g, of cap places, of the call's own (from B on), holds the bytes xs; all of it may be written. -/
def OwnP (W : World) (B g cap : Nat) (xs : List Int) : Prop :=
  B ≤ g ∧ g < W.heap.size ∧ xs.length ≤ cap ∧ (∀ j, j < xs.length → W.cell? ⟨g, j, none⟩ = some (.int .u8 (xs.getD j 0))) ∧ (∀ j, j < cap → (W.cell? ⟨g, j, none⟩).isSome = true ∧ W.frozen? ⟨g, j, none⟩ = false)

theorem OwnP.keep {W W' : World} {B g cap : Nat} {xs : List Int} (h : OwnP W B g cap xs) (hg : W'.heap[g]? = W.heap[g]?) (hs : W.heap.size ≤ W'.heap.size) : OwnP W' B g cap xs := by
  obtain ⟨h1, h2, h3, h4, h5⟩ := h
  refine ⟨h1, Nat.lt_of_lt_of_le h2 hs, h3, fun j hj => ?_, fun j hj => ?_⟩
  · rw [World.cell?_of_block (w := W) hg]; exact h4 j hj
  · rw [World.cell?_of_block (w := W) hg, World.frozen?_of_block (w := W) hg]; exact h5 j hj

theorem OwnP.range {W : World} {B g cap : Nat} {xs : List Int} (h : OwnP W B g cap xs) : W.rangeAt g 0 (xs.map (Value.int .u8)) := by
  intro j v hv
  have hl : j < xs.length := by have := (List.getElem?_eq_some_iff.1 hv).1; simpa using this
  rw [Nat.zero_add, h.2.2.2.1 j hl, ← hv]
  simp [List.getD, List.getElem?_eq_getElem hl]

theorem bytes_own (s : ByteArray) (w : World) : ∃ cap w', (convert 9 22 (.string s)).run Tryz.prog w = .ok (.slice (some ⟨w.heap.size, 0, none⟩) s.size cap) w' ∧ OwnP w' w.heap.size w.heap.size cap (bL s) ∧ Below w.heap.size w w' := by
  have hge := grownCap_ge w s.size 0 5
  refine ⟨_, _, run_bytes_of_string w 9 22 5 s Tryz.underlying9 Tryz.underlying22 Tryz.underlying5, ?_, ?_⟩
  · generalize grownCap w s.size 0 5 = cap at hge
    have hsz : (bytesRow s cap).size = cap := by simp [bytesRow]; omega
    have hnew := h_new w.drew (.cells (bytesRow s cap) 5 ((bytesRow s cap).size, (bytesRow s cap).size + 1)) (n := w.heap.size) rfl
    refine ⟨Nat.le_refl _, by simp, by rw [bL_length]; exact hge, fun j hj => ?_, fun j hj => ?_⟩
    · rw [bL_length] at hj
      rw [cell_of_row _ _ j _ _ _ hnew, bytesRow, Array.getElem?_append_left (by simpa using hj)]
      have hj' : j < s.data.size := hj
      simp [bL, List.getD, Array.getElem?_eq_getElem hj']
    · constructor
      · rw [cell_of_row _ _ j _ _ _ hnew, Array.getElem?_eq_getElem (by omega)]; rfl
      · unfold World.frozen?
        rw [hnew]
        simp
        omega
  · exact ((Below.refl _ w).drew).alloc (Nat.le_refl _) _

theorem OwnP.drew {W : World} {B g cap : Nat} {xs : List Int} (h : OwnP W B g cap xs) : OwnP W.drew B g cap xs := h
end Go.Proofs.YtanekbifdedmeaaGreatDoor

