/- Texts of one kind, put together. -/
import Derived.Test.YtanekbifdedmeaaGreatDoorGen
import Derived.Test.YtanekbifdedmeaaGreatDoorCut
import Derived.Laws.OwnMore
import Derived.Laws.MakeOwn
import Derived.Lib.SmallJoins
import Derived.ChangeSame
import Derived.Test.YtanekbifdedmeaaGreatDoorMtx
import Derived.Test.YtanekbifdedmeaaGreatDoorGAB
import Derived.Test.YtanekbifdedmeaaGreatDoorGAG

/- Rows of texts, as the exact laws copy, measure and compare them. -/
namespace Go.Proofs.YtanekbifdedmeaaGreatDoor
open Go.RowKit Plain
set_option linter.unusedVariables false

namespace Plain
/-- The slice at a holds the texts ls. -/
def StrsAt (W : World) (a : Option Addr) (ls : List ByteArray) : Prop := ∀ i (h : i < ls.length), ∃ g o, a = some ⟨g, o, none⟩ ∧ g < W.heap.size ∧ W.cell? ⟨g, o + i, none⟩ = some (.string ls[i])
theorem StrsAt.below {W W' : World} {a : Option Addr} {ls : List ByteArray} (h : StrsAt W a ls) (hb : Below W.heap.size W W') : StrsAt W' a ls := fun i hi => by
  obtain ⟨g, o, e, hl, hc⟩ := h i hi
  exact ⟨g, o, e, Nat.lt_of_lt_of_le hl hb.size, (hb.cell (p := ⟨g, o + i, none⟩) hl).trans hc⟩
theorem StrsAt.nil (W : World) (a : Option Addr) : StrsAt W a [] := fun i h => by simp at h
end Plain
namespace Plain
end Plain



end Go.Proofs.YtanekbifdedmeaaGreatDoor


/- Rows that are arguments: read anywhere in their block. -/
namespace Go.Proofs.YtanekbifdedmeaaGreatDoor
open Go.RowKit Plain
set_option linter.unusedVariables false

/-- The slice at a holds xs, each in n cells. -/
def Plain.ArgAt {α : Type} (n : Nat) (en : α → List Value) (W : World) (a : Option Addr) (xs : List α) : Prop := ∀ i (h : i < xs.length), ∃ g o, a = some ⟨g, o, none⟩ ∧ g < W.heap.size ∧ ∀ j, j < n → W.cell? ⟨g, o + i * n + j, none⟩ = (en xs[i])[j]?
theorem Plain.ArgAt.below {α : Type} {n : Nat} {en : α → List Value} {W W' : World} {a : Option Addr} {xs : List α} (h : ArgAt n en W a xs) (hb : Below W.heap.size W W') : ArgAt n en W' a xs := fun i hi => by
  obtain ⟨g, o, e, hl, hc⟩ := h i hi
  exact ⟨g, o, e, Nat.lt_of_lt_of_le hl hb.size, fun j hj => (hb.cell (p := ⟨g, o + i * n + j, none⟩) hl).trans (hc j hj)⟩
/-- An argument that is a slice. -/
structure Plain.ArgRow {α : Type} (n : Nat) (en : α → List Value) (good : α → Prop) (W : World) (a : Option Addr) (k c : Nat) (xs : List α) : Prop where
  len : xs.length = k
  le : k ≤ maxLen
  good : ∀ z ∈ xs, good z
  row : ArgAt n en W a xs

namespace Plain
end Plain



namespace Plain
end Plain



end Go.Proofs.YtanekbifdedmeaaGreatDoor


/- Rows of texts marked and looked at again, as the exact laws do it. -/
namespace Go.Proofs.YtanekbifdedmeaaGreatDoor
open Go.RowKit Plain
set_option linter.unusedVariables false

namespace Plain
end Plain



end Go.Proofs.YtanekbifdedmeaaGreatDoor


/- Manifests as plain mathematics: when one is right, its text, what is read of a text. -/
namespace Go.Proofs.YtanekbifdedmeaaGreatDoor
open Go.RowKit Plain
set_option linter.unusedVariables false
namespace Plain
end Plain
end Go.Proofs.YtanekbifdedmeaaGreatDoor


/- Manifests: when one is right, and its text: both programs by their contracts. -/
namespace Go.Proofs.YtanekbifdedmeaaGreatDoor
open Go.RowKit Plain
set_option linter.unusedVariables false

namespace Plain
theorem bel1 (w : World) (o : Obj) : Below w.heap.size w (w.alloc o) := (Below.refl _ _).alloc (Nat.le_refl _) _
theorem bcl {w w' : World} {B : Nat} (h : Below B w w') {g i : Nat} {v : Value} (hg : g < B) (hc : w.cell? ⟨g, i, none⟩ = some v) : w'.cell? ⟨g, i, none⟩ = some v := (h.cell (p := ⟨g, i, none⟩) hg).trans hc
theorem belOn {w W W' : World} (h0 : Below w.heap.size w W) (h1 : Below W.heap.size W W') : Below w.heap.size w W' := h0.trans (h1.mono h0.size)
end Plain









end Go.Proofs.YtanekbifdedmeaaGreatDoor


/- The end of the data: the last blocks as lists of bytes. -/
namespace Go.Proofs.YtanekbifdedmeaaGreatDoor.Plain
open Go Go.RowKit
set_option linter.unusedVariables false

end Go.Proofs.YtanekbifdedmeaaGreatDoor.Plain


/- The whole sum as a plain function of the data's bytes: in blocks of 64. -/
namespace Go.Proofs.YtanekbifdedmeaaGreatDoor.Plain
open Go Go.RowKit
set_option linter.unusedVariables false
set_option linter.unusedSimpArgs false

def h0L : List Int := [1779033703, 3144134277, 1013904242, 2773480762, 1359893119, 2600822924, 528734635, 1541459225]
def chunk (b : List Int) (k : Nat) : List Int := (b.drop (64 * k)).take 64
def hN (b : List Int) : Nat → List Int
  | 0 => h0L
  | k + 1 => blockL (hN b k) (chunk b k)

end Go.Proofs.YtanekbifdedmeaaGreatDoor.Plain

