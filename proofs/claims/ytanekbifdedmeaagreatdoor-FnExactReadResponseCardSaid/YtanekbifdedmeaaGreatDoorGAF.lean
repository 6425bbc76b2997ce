/- Texts of one kind, put together. -/
import Derived.Test.YtanekbifdedmeaaGreatDoorGAB
import Derived.Test.YtanekbifdedmeaaGreatDoorGAE
import Derived.Test.YtanekbifdedmeaaGreatDoorGAA
import Derived.ArgAppend
import Derived.Laws.IdiomStrings
import Derived.Deep.MidRow

/- Manifests as plain mathematics: when one is right, its text, what is read of a text. -/
namespace Go.Proofs.YtanekbifdedmeaaGreatDoor
open Go.RowKit Plain
set_option linter.unusedVariables false
namespace Plain
end Plain
end Go.Proofs.YtanekbifdedmeaaGreatDoor


/- Manifests: when one is right, and its text: both programs by their contracts. -/
namespace Go.Proofs.YtanekbifdedmeaaGreatDoor
open Go.RowKit Plain
set_option linter.unusedVariables false

namespace Plain
theorem bel1 (w : World) (o : Obj) : Below w.heap.size w (w.alloc o) := (Below.refl _ _).alloc (Nat.le_refl _) _
theorem bcl {w w' : World} {B : Nat} (h : Below B w w') {g i : Nat} {v : Value} (hg : g < B) (hc : w.cell? ⟨g, i, none⟩ = some v) : w'.cell? ⟨g, i, none⟩ = some v := (h.cell (p := ⟨g, i, none⟩) hg).trans hc
theorem belOn {w W W' : World} (h0 : Below w.heap.size w W) (h1 : Below W.heap.size W W') : Below w.heap.size w W' := h0.trans (h1.mono h0.size)
end Plain









end Go.Proofs.YtanekbifdedmeaaGreatDoor


/- What is left of a purse. -/
namespace Go.Proofs.YtanekbifdedmeaaGreatDoor.Plain
open Go.RowKit
set_option linter.unusedVariables false
/-- What is left of a purse behind n. -/
def purse (left : Int) (n : Nat) : Int := if left < n then -1 else left - n
end Go.Proofs.YtanekbifdedmeaaGreatDoor.Plain


/- The end of the data: the last blocks as lists of bytes. -/
namespace Go.Proofs.YtanekbifdedmeaaGreatDoor.Plain
open Go Go.RowKit
set_option linter.unusedVariables false

end Go.Proofs.YtanekbifdedmeaaGreatDoor.Plain


/- The whole sum as a plain function of the data's bytes: in blocks of 64. -/
namespace Go.Proofs.YtanekbifdedmeaaGreatDoor.Plain
open Go Go.RowKit
set_option linter.unusedVariables false
set_option linter.unusedSimpArgs false

def h0L : List Int := [1779033703, 3144134277, 1013904242, 2773480762, 1359893119, 2600822924, 528734635, 1541459225]
def chunk (b : List Int) (k : Nat) : List Int := (b.drop (64 * k)).take 64
def hN (b : List Int) : Nat → List Int
  | 0 => h0L
  | k + 1 => blockL (hN b k) (chunk b k)

end Go.Proofs.YtanekbifdedmeaaGreatDoor.Plain


/- Bytes of a string in a row of the call's own, and a byte appended to them. -/
namespace Go.Proofs.YtanekbifdedmeaaGreatDoor
open Go.RowKit Plain
set_option linter.unusedVariables false

/-- Block g, of cap places, of the call's own (from B on), holds the bytes xs; all of it may be written. -/
def OwnP (W : World) (B g cap : Nat) (xs : List Int) : Prop :=
  B ≤ g ∧ g < W.heap.size ∧ xs.length ≤ cap ∧ (∀ j, j < xs.length → W.cell? ⟨g, j, none⟩ = some (.int .u8 (xs.getD j 0))) ∧ (∀ j, j < cap → (W.cell? ⟨g, j, none⟩).isSome = true ∧ W.frozen? ⟨g, j, none⟩ = false)

theorem OwnP.keep {W W' : World} {B g cap : Nat} {xs : List Int} (h : OwnP W B g cap xs) (hg : W'.heap[g]? = W.heap[g]?) (hs : W.heap.size ≤ W'.heap.size) : OwnP W' B g cap xs := by
  obtain ⟨h1, h2, h3, h4, h5⟩ := h
  refine ⟨h1, Nat.lt_of_lt_of_le h2 hs, h3, fun j hj => ?_, fun j hj => ?_⟩
  · rw [World.cell?_of_block (w := W) hg]; exact h4 j hj
  · rw [World.cell?_of_block (w := W) hg, World.frozen?_of_block (w := W) hg]; exact h5 j hj

theorem OwnP.range {W : World} {B g cap : Nat} {xs : List Int} (h : OwnP W B g cap xs) : W.rangeAt g 0 (xs.map (Value.int .u8)) := by
  intro j v hv
  have hl : j < xs.length := by have := (List.getElem?_eq_some_iff.1 hv).1; simpa using this
  rw [Nat.zero_add, h.2.2.2.1 j hl, ← hv]
  simp [List.getD, List.getElem?_eq_getElem hl]

theorem bytes_own (s : ByteArray) (w : World) : ∃ cap w', (convert 9 22 (.string s)).run Tryz.prog w = .ok (.slice (some ⟨w.heap.size, 0, none⟩) s.size cap) w' ∧ OwnP w' w.heap.size w.heap.size cap (bL s) ∧ Below w.heap.size w w' := by
  have hge := grownCap_ge w s.size 0 5
  refine ⟨_, _, run_bytes_of_string w 9 22 5 s Tryz.underlying9 Tryz.underlying22 Tryz.underlying5, ?_, ?_⟩
  · generalize grownCap w s.size 0 5 = cap at hge
    have hsz : (bytesRow s cap).size = cap := by simp [bytesRow]; omega
    have hnew := h_new w.drew (.cells (bytesRow s cap) 5 ((bytesRow s cap).size, (bytesRow s cap).size + 1)) (n := w.heap.size) rfl
    refine ⟨Nat.le_refl _, by simp, by rw [bL_length]; exact hge, fun j hj => ?_, fun j hj => ?_⟩
    · rw [bL_length] at hj
      rw [cell_of_row _ _ j _ _ _ hnew, bytesRow, Array.getElem?_append_left (by simpa using hj)]
      have hj' : j < s.data.size := hj
      simp [bL, List.getD, Array.getElem?_eq_getElem hj']
    · constructor
      · rw [cell_of_row _ _ j _ _ _ hnew, Array.getElem?_eq_getElem (by omega)]; rfl
      · unfold World.frozen?
        rw [hnew]
        simp
        omega
  · exact ((Below.refl _ w).drew).alloc (Nat.le_refl _) _

theorem OwnP.drew {W : World} {B g cap : Nat} {xs : List Int} (h : OwnP W B g cap xs) : OwnP W.drew B g cap xs := h
end Go.Proofs.YtanekbifdedmeaaGreatDoor

