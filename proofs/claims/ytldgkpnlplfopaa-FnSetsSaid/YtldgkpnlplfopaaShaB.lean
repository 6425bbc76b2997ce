/- Rows of words in memory, and the schedule as a function of its place. -/
import Derived.Test.YtldgkpnlplfopaaShaM
import Derived.Laws.Rows
import Derived.Laws.Tables
namespace Go.Proofs.Ytldgkpnlplfopaa.Plain
open Go Go.RowKit
set_option linter.unusedVariables false

/-- The row arr, of n values, holds f in its first k places. -/
def RowTo (arr : Array Value) (n : Nat) (f : Nat → Int) (k : Nat) : Prop := arr.size = n ∧ arr.all (·.oneCell') = true ∧ ∀ j, j < k → arr[j]? = some (.int .u32 (f j))

theorem RowTo.next {arr : Array Value} {n : Nat} {f : Nat → Int} {k : Nat} (h : RowTo arr n f k) (hk : k < n) (x : Int) (hx : x = f k) : RowTo (arr.setIfInBounds k (.int .u32 x)) n f (k + 1) := by
  subst hx
  obtain ⟨h1, h2, h3⟩ := h
  refine ⟨by simpa using h1, ?_, ?_⟩
  · rw [Array.all_eq_true] at h2 ⊢
    intro i hi
    rw [Array.getElem_setIfInBounds]
    split
    · rfl
    · exact h2 i (by simpa using hi)
  · intro j hj
    rw [Array.getElem?_setIfInBounds]
    by_cases e : k = j
    · subst e; simp [h1, hk]
    · rw [if_neg e]; exact h3 j (by omega)

def wAt (b : List Int) (j : Nat) : Int := (schedTo b (j + 1)).getD j 0

theorem sched_get (b : List Int) (t : Nat) : ∀ j, j < t → (schedTo b t).getD j 0 = wAt b j := by
  induction t with
  | zero => intro j h; omega
  | succ t ih =>
    intro j h
    by_cases e : j = t
    · subst e; rfl
    · rw [← ih j (by omega)]
      rw [schedTo]
      have hl := schedTo_length b t
      simp [List.getD, List.getElem?_append_left (show j < (schedTo b t).length by omega)]

theorem wAt_low (b : List Int) (t : Nat) (h : t < 16) : wAt b t = hiI (b.getD (4 * t) 0) (b.getD (4 * t + 1) 0) (b.getD (4 * t + 2) 0) (b.getD (4 * t + 3) 0) := by
  unfold wAt
  rw [schedTo, if_pos h]
  have hl := schedTo_length b t
  simp [List.getD, hl]

theorem wAt_high (b : List Int) (t : Nat) (h : ¬ t < 16) : wAt b t = (lS1 (wAt b (t - 2)) + wAt b (t - 7) + lS0 (wAt b (t - 15)) + wAt b (t - 16)) % 4294967296 := by
  have e1 := sched_get b t (t - 2) (by omega)
  have e2 := sched_get b t (t - 7) (by omega)
  have e3 := sched_get b t (t - 15) (by omega)
  have e4 := sched_get b t (t - 16) (by omega)
  rw [← e1, ← e2, ← e3, ← e4]
  conv => lhs; unfold wAt
  rw [schedTo, if_neg h]
  have hl := schedTo_length b t
  simp [List.getD, hl]

theorem wAt_word (b : List Int) (t : Nat) : Word (wAt b t) := getD_word (schedTo_word b (t + 1)) t

/-- A row of bytes. -/
def bytesV (b : List Int) : Array Value := (b.map (Value.int .u8)).toArray
theorem bytesV_get (b : List Int) (j : Nat) (h : j < b.length) : (bytesV b)[j]? = some (.int .u8 (b.getD j 0)) := by
  simp [bytesV, List.getD, List.getElem?_eq_getElem h]
def ByteL (b : List Int) : Prop := b.length = 64 ∧ ∀ j, 0 ≤ b.getD j 0 ∧ b.getD j 0 < 256

theorem h_new (w : World) (o : Obj) {n : Nat} (hn : n = w.heap.size) : (w.alloc o).heap[n]? = some o := by subst hn; exact (MapKept.heap_alloc w o).1
theorem h_old (w : World) (o : Obj) {n : Nat} (hn : n < w.heap.size) : (w.alloc o).heap[n]? = w.heap[n]? := Below.heap_alloc w o n hn

end Go.Proofs.Ytldgkpnlplfopaa.Plain
