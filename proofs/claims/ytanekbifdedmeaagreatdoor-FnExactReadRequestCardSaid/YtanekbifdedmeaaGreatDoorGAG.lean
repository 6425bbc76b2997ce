/- Texts of one kind, put together. -/
import Derived.Test.YtanekbifdedmeaaGreatDoorShaM
import Derived.Laws.Rows
import Derived.Laws.Tables
import Derived.Laws.CopyRow
import Derived.Laws.CopyOwn
import Derived.Test.YtanekbifdedmeaaGreatDoorGen

/- Rows of words in memory, and the schedule as a function of its place. -/
namespace Go.Proofs.YtanekbifdedmeaaGreatDoor.Plain
open Go Go.RowKit
set_option linter.unusedVariables false

/-- The row arr, of n values, holds f in its first k places. -/
def RowTo (arr : Array Value) (n : Nat) (f : Nat → Int) (k : Nat) : Prop := arr.size = n ∧ arr.all (·.oneCell') = true ∧ ∀ j, j < k → arr[j]? = some (.int .u32 (f j))

theorem RowTo.next {arr : Array Value} {n : Nat} {f : Nat → Int} {k : Nat} (h : RowTo arr n f k) (hk : k < n) (x : Int) (hx : x = f k) : RowTo (arr.setIfInBounds k (.int .u32 x)) n f (k + 1) := by
  subst hx
  obtain ⟨h1, h2, h3⟩ := h
  refine ⟨by simpa using h1, ?_, ?_⟩
  · rw [Array.all_eq_true] at h2 ⊢
    intro i hi
    rw [Array.getElem_setIfInBounds]
    split
    · rfl
    · exact h2 i (by simpa using hi)
  · intro j hj
    rw [Array.getElem?_setIfInBounds]
    by_cases e : k = j
    · subst e; simp [h1, hk]
    · rw [if_neg e]; exact h3 j (by omega)

theorem h_new (w : World) (o : Obj) {n : Nat} (hn : n = w.heap.size) : (w.alloc o).heap[n]? = some o := by subst hn; exact (MapKept.heap_alloc w o).1
end Go.Proofs.YtanekbifdedmeaaGreatDoor.Plain


/- Eight words in memory: stored one by one. -/
namespace Go.Proofs.YtanekbifdedmeaaGreatDoor.Plain
open Go Go.RowKit
set_option linter.unusedVariables false

/-- The cells of block g from its head on hold the words v; they may be written. -/
def Words (w : World) (g : Nat) (v : List Int) : Prop := ∀ j, j < v.length → w.cell? ⟨g, j, none⟩ = some (.int .u32 (v.getD j 0)) ∧ w.frozen? ⟨g, j, none⟩ = false

theorem Words.below {w w' : World} {g B : Nat} {v : List Int} (h : Words w g v) (hb : Below B w w') (hg : g < B) : Words w' g v := fun j hj =>
  ⟨(hb.cell (p := ⟨g, j, none⟩) hg).trans (h j hj).1, (hb.frozen (p := ⟨g, j, none⟩) hg).trans (h j hj).2⟩

theorem Words.set {w : World} {g : Nat} {v : List Int} (h : Words w g v) (i : Nat) (hi : i < v.length) (x : Int) : Words (w.setCell ⟨g, i, none⟩ (.int .u32 x)) g (v.set i x) := by
  intro j hj
  have hj' : j < v.length := by simpa using hj
  refine ⟨?_, by simp [(h j hj').2]⟩
  by_cases e : i = j
  · subst e
    rw [World.cell?_setCell_same' _ _ _ (by rw [(h i hi).1]; rfl)]
    simp [List.getD, hi]
  · rw [World.cell?_setCell_other w ⟨g, i, none⟩ ⟨g, j, none⟩ _ (fun q => e (congrArg Addr.off q)), (h j hj').1]
    simp [List.getD, e]

theorem Words.other {w : World} {g g' : Nat} {v : List Int} (h : Words w g v) (i : Nat) (x : Value) (hg : g' ≠ g) : Words (w.setCell ⟨g', i, none⟩ x) g v := fun j hj =>
  ⟨(World.cell?_setCell_other w ⟨g', i, none⟩ ⟨g, j, none⟩ x (fun q => hg (congrArg Addr.block q))).trans (h j hj).1, by simp [(h j hj).2]⟩

theorem Words.drew {w : World} {g : Nat} {v : List Int} (h : Words w g v) : Words w.drew g v := h

end Go.Proofs.YtanekbifdedmeaaGreatDoor.Plain


/- A text's bytes as numbers, and copy from a text. -/
namespace Go.Proofs.YtanekbifdedmeaaGreatDoor.Plain
open Go Go.RowKit
set_option linter.unusedVariables false

def bL (s : ByteArray) : List Int := s.data.toList.map fun b => ((b.toNat : Nat) : Int)
theorem bL_length (s : ByteArray) : (bL s).length = s.size := by simp [bL]
theorem bL_byte (s : ByteArray) : ∀ j, 0 ≤ (bL s).getD j 0 ∧ (bL s).getD j 0 < 256 := by
  intro j
  unfold bL
  by_cases h : j < s.data.toList.length
  · have := (s.data.toList[j]).toNat_lt
    simp only [List.getD, List.getElem?_map, List.getElem?_eq_getElem h, Option.map_some, Option.getD_some]
    omega
  · simp only [List.getD, List.getElem?_map, List.getElem?_eq_none (by omega : s.data.toList.length ≤ j), Option.map_none, Option.getD_none]
    omega

end Go.Proofs.YtanekbifdedmeaaGreatDoor.Plain


/- Worlds that differ in some blocks alone; rows that lie elsewhere. -/
namespace Go.Proofs.YtanekbifdedmeaaGreatDoor
open Go.RowKit Plain
set_option linter.unusedVariables false

namespace Plain
/-- Nothing has changed but blocks of which p is so, and new blocks. -/
structure OnlyP (p : Nat → Prop) (w w' : World) : Prop where
  os : w'.os = w.os
  tape : w'.tape = w.tape
  output : w'.output = w.output
  size : w.heap.size ≤ w'.heap.size
  block : ∀ k, k < w.heap.size → ¬ p k → w'.heap[k]? = w.heap[k]?
theorem OnlyP.of {p : Nat → Prop} {w w' : World} (h : Below w.heap.size w w') : OnlyP p w w' := ⟨h.os, h.tape, h.output, h.size, fun k hk _ => h.block k hk⟩
theorem OnlyP.row {p : Nat → Prop} {a : Option Addr} {w w' : World} (h : OnlyRow a w w') (hp : ∀ g o, a = some ⟨g, o, none⟩ → p g) : OnlyP p w w' := ⟨h.os, h.tape, h.output, h.size, fun k hk hn => h.block k hk fun o e => hn (hp k o e)⟩
theorem OnlyP.trans {p : Nat → Prop} {u v w : World} (h : OnlyP p u v) (h2 : OnlyP p v w) : OnlyP p u w :=
  ⟨h2.os.trans h.os, h2.tape.trans h.tape, h2.output.trans h.output, Nat.le_trans h.size h2.size, fun k hk hne => (h2.block k (Nat.lt_of_lt_of_le hk h.size) hne).trans (h.block k hk hne)⟩
theorem OnlyP.below {p : Nat → Prop} {w w' : World} {B : Nat} (h : OnlyP p w w') (hB : ∀ g, p g → B ≤ g) (hBw : B ≤ w.heap.size) : Below B w w' :=
  ⟨h.os, h.tape, h.output, h.size, fun k hk => h.block k (Nat.lt_of_lt_of_le hk hBw) (fun e => by have := hB k e; omega)⟩
end Plain
end Go.Proofs.YtanekbifdedmeaaGreatDoor

