/- Texts of one kind, put together. -/
import Derived.Test.YtanekbifdedmeaaGreatDoorGAA
import Derived.Test.YtanekbifdedmeaaGreatDoorShaM
import Derived.Laws.Rows
import Derived.Laws.Tables

/- The program's cursor: what take, rest and number of it answer and where they leave it. -/
namespace Go.Proofs.YtanekbifdedmeaaGreatDoor
open Go.RowKit Plain
set_option linter.unusedVariables false

theorem take_ok (b off : Nat) (s : ByteArray) (p : Nat) (n : Int) (w : World) (hc0 : w.cell? ⟨b, off, none⟩ = some (.string s)) (hc1 : w.cell? ⟨b, off + 1, none⟩ = some (.int .i64 p))
    (hf : w.frozen? ⟨b, off + 1, none⟩ = false)
    (hs : s.size ≤ 1000000000000) (hp : p ≤ s.size) (hn0 : 0 ≤ n) (hn : n ≤ (s.size : Int) - p) :
    Calls Tryz.prog 114 #[.pointer (some ⟨b, off, none⟩), .int .i64 n] w fun e w' => e = .returned (.tuple #[.string (s.extract p (p + n.toNat)), .bool true]) ∧ OnlyAt ⟨b, off + 1, none⟩ w w' ∧ w'.cell? ⟨b, off + 1, none⟩ = some (.int .i64 (p + n)) := by
  obtain ⟨m, rfl⟩ := Int.eq_ofNat_of_zero_le hn0
  rw [Int.toNat_natCast]
  go_enter Tryz.func114, Tryz.ntmps114
  go_wp2
  go_region
  all_goals (try go_wp2)
  all_goals go_region
  all_goals (try go_wp2)
  all_goals go_ret2
  all_goals exact ⟨rfl, (OnlyAt.setCell _ _ _).drewN 2, World.cell?_setCell_same _ _ _ hc1⟩

theorem rest_ok (b off : Nat) (s : ByteArray) (p : Nat) (w : World) (hc0 : w.cell? ⟨b, off, none⟩ = some (.string s)) (hc1 : w.cell? ⟨b, off + 1, none⟩ = some (.int .i64 p))
    (hs : s.size ≤ 1000000000000) (hp : p ≤ s.size) :
    Calls Tryz.prog 113 #[.pointer (some ⟨b, off, none⟩)] w fun e w' => e = .returned (.string (s.extract p s.size)) ∧ ∃ k, w' = w.drewN k := by
  go_enter Tryz.func113, Tryz.ntmps113
  go_wp2
  go_region
  all_goals (try go_wp2)
  all_goals go_ret
  all_goals exact ⟨rfl, 1, rfl⟩

end Go.Proofs.YtanekbifdedmeaaGreatDoor


/- Rows of words in memory, and the schedule as a function of its place. -/
namespace Go.Proofs.YtanekbifdedmeaaGreatDoor.Plain
open Go Go.RowKit
set_option linter.unusedVariables false

/-- The row arr, of n values, holds f in its first k places. -/
def RowTo (arr : Array Value) (n : Nat) (f : Nat → Int) (k : Nat) : Prop := arr.size = n ∧ arr.all (·.oneCell') = true ∧ ∀ j, j < k → arr[j]? = some (.int .u32 (f j))

theorem RowTo.next {arr : Array Value} {n : Nat} {f : Nat → Int} {k : Nat} (h : RowTo arr n f k) (hk : k < n) (x : Int) (hx : x = f k) : RowTo (arr.setIfInBounds k (.int .u32 x)) n f (k + 1) := by
  subst hx
  obtain ⟨h1, h2, h3⟩ := h
  refine ⟨by simpa using h1, ?_, ?_⟩
  · rw [Array.all_eq_true] at h2 ⊢
    intro i hi
    rw [Array.getElem_setIfInBounds]
    split
    · rfl
    · exact h2 i (by simpa using hi)
  · intro j hj
    rw [Array.getElem?_setIfInBounds]
    by_cases e : k = j
    · subst e; simp [h1, hk]
    · rw [if_neg e]; exact h3 j (by omega)

theorem h_new (w : World) (o : Obj) {n : Nat} (hn : n = w.heap.size) : (w.alloc o).heap[n]? = some o := by subst hn; exact (MapKept.heap_alloc w o).1
end Go.Proofs.YtanekbifdedmeaaGreatDoor.Plain

