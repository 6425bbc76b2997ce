/- Texts of one kind, put together. -/
import Derived.WalkKit
import Derived.WalkLawsBesides
import Derived.Laws.BitsAllLaws
import Derived.OpenShut
import Derived.Below
import Derived.Laws.BytesArg
import Derived.Laws.OwnMore
import Derived.OwnWalk
import Derived.Deep.Draws
import Derived.WalkSpells
import Derived.Test.YtanekbifdedmeaaGreatDoorRows

/- Plain facts on numbers: a 32-bit word rotated, in the forms in which the two programs reckon it. -/
namespace Go.Proofs.YtanekbifdedmeaaGreatDoor.Plain
open Go Go.RowKit
set_option linter.unusedVariables false

theorem hide {p : Prop} (h : p) : Hid p := h
theorem unhide {p : Prop} (h : Hid p) : p := h

def rotI (x n : Int) : Int := (((BitVec.ofInt 32 x).rotateRight (n % 32).toNat).toNat : Int)

/-! ### A world that differs from another in one cell, and by new blocks -/
structure OnlyAt (a : Addr) (w w' : World) : Prop where
  os : w'.os = w.os
  tape : w'.tape = w.tape
  output : w'.output = w.output
  size : w.heap.size ≤ w'.heap.size
  block : ∀ k, k < w.heap.size → k ≠ a.block → w'.heap[k]? = w.heap[k]?
  cell : ∀ q : Addr, q.block < w.heap.size → q ≠ a → w'.cell? q = w.cell? q
  frozen : ∀ q : Addr, q.block < w.heap.size → w'.frozen? q = w.frozen? q

theorem OnlyAt.refl (a : Addr) (w : World) : OnlyAt a w w := ⟨rfl, rfl, rfl, Nat.le_refl _, fun _ _ _ => rfl, fun _ _ _ => rfl, fun _ _ => rfl⟩

theorem OnlyAt.trans {a : Addr} {u v w : World} (h : OnlyAt a u v) (k : OnlyAt a v w) : OnlyAt a u w :=
  ⟨k.os.trans h.os, k.tape.trans h.tape, k.output.trans h.output, Nat.le_trans h.size k.size,
   fun i hi hn => (k.block i (Nat.lt_of_lt_of_le hi h.size) hn).trans (h.block i hi hn),
   fun q hq hn => (k.cell q (Nat.lt_of_lt_of_le hq h.size) hn).trans (h.cell q hq hn),
   fun q hq => (k.frozen q (Nat.lt_of_lt_of_le hq h.size)).trans (h.frozen q hq)⟩

theorem OnlyAt.drewN {a : Addr} {u v : World} (h : OnlyAt a u v) (n : Nat) : OnlyAt a u (v.drewN n) := ⟨h.os, h.tape, h.output, h.size, h.block, h.cell, h.frozen⟩

theorem OnlyAt.setCell (a : Addr) (w : World) (v : Value) : OnlyAt a w (w.setCell a v) :=
  ⟨rfl, rfl, rfl, by simp, fun k _ hk => Below.heap_setCell w a v k hk, fun q _ hq => World.cell?_setCell_other w _ _ v (fun h => hq h.symm), fun q _ => by simp⟩

theorem OnlyAt.below {a : Addr} {u v : World} (h : OnlyAt a u v) {B : Nat} (hB : B ≤ a.block) (hs : B ≤ u.heap.size) : Below B u v :=
  ⟨h.os, h.tape, h.output, h.size, fun k hk => h.block k (by omega) (by omega)⟩

theorem OnlyAt.of_below {a : Addr} {u v : World} (h : Below u.heap.size u v) : OnlyAt a u v :=
  ⟨h.os, h.tape, h.output, h.size, fun k hk _ => h.block k hk, fun q hq _ => h.cell hq, fun q hq => h.frozen hq⟩

theorem lt_of_cell {w : World} {a : Addr} {v : Value} (h : w.cell? a = some v) : a.block < w.heap.size := by
  have : w.heap[a.block]? ≠ none := by
    intro e
    simp [World.cell?, e] at h
  rcases Nat.lt_or_ge a.block w.heap.size with k | k
  · exact k
  · exact absurd (Array.getElem?_eq_none k) this

/-! ### Worlds that differ by what was drawn, or in one block -/
theorem belDrew {B : Nat} {w w' : World} (h : Below B w w') : Below B w w'.drew := ⟨h.os, h.tape, h.output, h.size, h.block⟩
theorem bOfDrew {w w' : World} (h : Below w.drew.heap.size w.drew w') : Below w.heap.size w w' := (belDrew (Below.refl w.heap.size w)).trans h
/-- Nothing has changed but the block that a lies in, and new blocks. -/
structure OnlyRow (a : Option Addr) (w w' : World) : Prop where
  os : w'.os = w.os
  tape : w'.tape = w.tape
  output : w'.output = w.output
  size : w.heap.size ≤ w'.heap.size
  block : ∀ k, k < w.heap.size → (∀ o, a ≠ some ⟨k, o, none⟩) → w'.heap[k]? = w.heap[k]?
theorem OnlyRow.refl (a : Option Addr) (w : World) : OnlyRow a w w := ⟨rfl, rfl, rfl, Nat.le_refl _, fun _ _ _ => rfl⟩
theorem OnlyRow.trans {a : Option Addr} {u v w : World} (h : OnlyRow a u v) (h2 : OnlyRow a v w) : OnlyRow a u w :=
  ⟨h2.os.trans h.os, h2.tape.trans h.tape, h2.output.trans h.output, Nat.le_trans h.size h2.size, fun k hk hne => (h2.block k (Nat.lt_of_lt_of_le hk h.size) hne).trans (h.block k hk hne)⟩
theorem OnlyRow.of {a : Option Addr} {w w' : World} (h : Below w.heap.size w w') : OnlyRow a w w' := ⟨h.os, h.tape, h.output, h.size, fun k hk _ => h.block k hk⟩
theorem OnlyRow.set {g o : Nat} {w : World} (k : Nat) (v : Value) : OnlyRow (some ⟨g, o, none⟩) w (w.setCell ⟨g, k, none⟩ v) :=
  ⟨rfl, rfl, rfl, by simp, fun j _ hne => Below.heap_setCell _ _ _ _ (fun e => hne o (by simp at e; rw [e]))⟩
theorem OnlyRow.below {a : Option Addr} {w w' : World} {B : Nat} (h : OnlyRow a w w') (hB : ∀ g o, a = some ⟨g, o, none⟩ → B ≤ g) (hBw : B ≤ w.heap.size) : Below B w w' :=
  ⟨h.os, h.tape, h.output, h.size, fun k hk => h.block k (Nat.lt_of_lt_of_le hk hBw) (fun o e => by have := hB k o e; omega)⟩
theorem OnlyRow.cell {a : Option Addr} {w w' : World} (h : OnlyRow a w w') {g i : Nat} (hg : g < w.heap.size) (hne : ∀ o, a ≠ some ⟨g, o, none⟩) : w'.cell? ⟨g, i, none⟩ = w.cell? ⟨g, i, none⟩ := World.cell?_of_block (a := ⟨g, i, none⟩) (h.block g hg hne)
theorem OnlyRow.frozen {a : Option Addr} {w w' : World} (h : OnlyRow a w w') {g i : Nat} (hg : g < w.heap.size) (hne : ∀ o, a ≠ some ⟨g, o, none⟩) : w'.frozen? ⟨g, i, none⟩ = w.frozen? ⟨g, i, none⟩ := World.frozen?_of_block (a := ⟨g, i, none⟩) (h.block g hg hne)

/-! ### Numbers in bytes of seven bits -/
/-- A row of bytes that the call owns, converted into a string. -/
theorem conv_own {P : Program} (W : World) (B : Nat) (src e dst : TypeId) (hs : P.underlying src = some (.slice e)) (he : P.underlying e = some (.int .u8)) (hd : P.underlying dst = some .string)
    (v : Value) (n : Nat) (xs : List Int) (h : W.ownsRow B e 1 v n (xs.map (Value.int .u8))) : (convert src dst v).run P W = .ok (.string (strOfNums xs)) W := by
  obtain ⟨hl, h1 | ⟨g, cap, cur, rfl, hg, hb, hn, hm, hc, ht⟩⟩ := h
  · obtain ⟨rfl, rfl⟩ := h1
    have : xs = [] := by simpa using hl
    subst this
    rw [run_convert_bytes_nil W src e hs he 0 0 dst hd]
    rfl
  · have hlen : xs.length = n := by simpa using hl
    refine run_convert_bytes_arg W src e hs he g 0 n cap xs hlen ?_ dst hd
    intro i hi
    have hown : W.ownsRow B e 1 (.slice (some ⟨g, 0, none⟩) n cap) n (xs.map (Value.int .u8)) := ⟨hl, .inr ⟨g, cap, cur, rfl, hg, hb, hn, hm, hc, ht⟩⟩
    have := hown.cellAt i (by omega)
    rw [Nat.zero_add, this]
    simp [List.getElem?_eq_getElem (show i < xs.length by omega), List.getD]

end Go.Proofs.YtanekbifdedmeaaGreatDoor.Plain


/- Rows of bytes that a call itself makes: a byte appended to one, over this program's types. -/
namespace Go.Proofs.YtanekbifdedmeaaGreatDoor
open Go.RowKit Plain
set_option linter.unusedVariables false

/-- The value v is a slice of bytes which the call owns (from block B on), holding xs. -/
def OwnB (W : World) (B : Nat) (v : Value) (xs : List Int) : Prop := W.ownsRow B 5 1 v xs.length (xs.map (Value.int .u8))

theorem own_below {W w' : World} {B : Nat} {v : Value} {e : TypeId} {size n : Nat} {xs : List Value} (h : W.ownsRow B e size v n xs) (hg : W.grownBy w' v.ownBlock) (hB : B ≤ W.heap.size) : Below B W w' :=
  (Below.refl B W).grown hg hB fun k hk => (h.lt k hk).1

theorem conv_ownB (W : World) (B : Nat) (v : Value) (xs : List Int) (h : OwnB W B v xs) : (convert 22 9 v).run Tryz.prog W = .ok (.string (strOfNums xs)) W :=
  conv_own W B 22 5 9 Tryz.underlying22 Tryz.underlying5 Tryz.underlying9 v xs.length xs h

end Go.Proofs.YtanekbifdedmeaaGreatDoor

