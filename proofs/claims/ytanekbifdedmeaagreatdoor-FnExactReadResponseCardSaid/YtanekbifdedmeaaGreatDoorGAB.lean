/- Texts of one kind, put together. -/
import Derived.Test.YtanekbifdedmeaaGreatDoorGAA
import Derived.Test.YtanekbifdedmeaaGreatDoorGen
import Derived.Laws.OwnMore
import Derived.Laws.MakeOwn
import Derived.Lib.Bytealg

/- Names of repositories as plain mathematics: one automaton over the bytes, which both programs follow. -/
namespace Go.Proofs.YtanekbifdedmeaaGreatDoor
open Go.RowKit Plain
set_option linter.unusedVariables false
namespace Plain
def lowB (c : Nat) : Bool := (decide (97 ≤ c) && decide (c ≤ 122)) || (decide (48 ≤ c) && decide (c ≤ 57))
theorem u8 {c : UInt8} {n : Nat} (hn : n < 256) (h : c.toNat = n) : c = UInt8.ofNat n := by
  apply UInt8.toNat_inj.1
  rw [h, UInt8.toNat_ofNat']
  omega

/-! ### What the scanner takes: a word, a mark -/
def wd : List UInt8 → Nat
  | [] => 0
  | c :: l => if lowB c.toNat then wd l + 1 else 0
def hy : List UInt8 → Nat
  | [] => 0
  | c :: l => if c.toNat = 45 then hy l + 1 else 0
/-- How many bytes the mark at the beginning takes. -/
def un : List UInt8 → Nat
  | [] => 1
  | d :: _ => if d.toNat = 95 then 2 else 1
def mk : List UInt8 → Nat
  | [] => 0
  | c :: l => if c.toNat = 95 then un l else if c.toNat = 46 then 1 else hy (c :: l)
end Plain
end Go.Proofs.YtanekbifdedmeaaGreatDoor


/- References as plain mathematics: where the first of two signs stands, what is read of a text, what is written. -/
namespace Go.Proofs.YtanekbifdedmeaaGreatDoor
open Go.RowKit Plain
set_option linter.unusedVariables false
namespace Plain
end Plain
end Go.Proofs.YtanekbifdedmeaaGreatDoor


/- A text cut at a sign: the specification's l3Cut by its contract. -/
namespace Go.Proofs.YtanekbifdedmeaaGreatDoor
open Go.RowKit Plain
set_option linter.unusedVariables false

namespace Plain
end Plain

end Go.Proofs.YtanekbifdedmeaaGreatDoor


/- Rows of texts, as the exact laws copy, measure and compare them. -/
namespace Go.Proofs.YtanekbifdedmeaaGreatDoor
open Go.RowKit Plain
set_option linter.unusedVariables false

namespace Plain
/-- The slice at a holds the texts ls. -/
def StrsAt (W : World) (a : Option Addr) (ls : List ByteArray) : Prop := ∀ i (h : i < ls.length), ∃ g o, a = some ⟨g, o, none⟩ ∧ g < W.heap.size ∧ W.cell? ⟨g, o + i, none⟩ = some (.string ls[i])
theorem StrsAt.below {W W' : World} {a : Option Addr} {ls : List ByteArray} (h : StrsAt W a ls) (hb : Below W.heap.size W W') : StrsAt W' a ls := fun i hi => by
  obtain ⟨g, o, e, hl, hc⟩ := h i hi
  exact ⟨g, o, e, Nat.lt_of_lt_of_le hl hb.size, (hb.cell (p := ⟨g, o + i, none⟩) hl).trans hc⟩
theorem StrsAt.nil (W : World) (a : Option Addr) : StrsAt W a [] := fun i h => by simp at h
end Plain
namespace Plain
end Plain



end Go.Proofs.YtanekbifdedmeaaGreatDoor


/- Digits of 16: what the two programs tell of one byte; what a digest is; Nibble. -/
namespace Go.Proofs.YtanekbifdedmeaaGreatDoor
open Go.RowKit Plain
set_option linter.unusedVariables false

namespace Plain
end Plain

end Go.Proofs.YtanekbifdedmeaaGreatDoor


/- Numbers in bytes: PutNumber of both programs by its contract. -/
namespace Go.Proofs.YtanekbifdedmeaaGreatDoor
open Go.RowKit Plain
set_option linter.unusedVariables false











end Go.Proofs.YtanekbifdedmeaaGreatDoor


/- What a digest is: DigestOk and Nibble of both programs by their contracts. -/
namespace Go.Proofs.YtanekbifdedmeaaGreatDoor
open Go.RowKit Plain
set_option linter.unusedVariables false

namespace Plain
end Plain







end Go.Proofs.YtanekbifdedmeaaGreatDoor

