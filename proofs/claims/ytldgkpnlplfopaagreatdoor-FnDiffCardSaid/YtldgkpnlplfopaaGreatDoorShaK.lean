/- The specification's table of the rounds' words, and the data with what is put behind them. -/
import Derived.Test.YtldgkpnlplfopaaGreatDoorShaX
import Derived.Test.YtldgkpnlplfopaaGreatDoorShaP
namespace Go.Proofs.YtldgkpnlplfopaaGreatDoor
open Go.RowKit Plain
set_option linter.unusedVariables false

theorem l1K_calls (w : World) : Calls Tryz.prog 68 #[] w fun r w' => r = .returned (.slice (some ⟨w.heap.size, 0, none⟩) 64 64) ∧ Words w' w.heap.size kL ∧ Below w.heap.size w w' ∧ w.heap.size < w'.heap.size := by
  go_enter Tryz.func68, Tryz.ntmps68
  go_wp2
  go_ret
  exact ⟨rfl, words_of_block (t := 93) (h_new _ _ rfl), (Below.refl _ _).alloc (Nat.le_refl _) _, by simp⟩

namespace Plain
def padN (n : Nat) : Nat := if n % 64 < 56 then 55 - n % 64 else 119 - n % 64
theorem padN_stop (n k : Nat) (h : k ≤ padN n) : (n + 1 + k) % 64 = 56 ↔ k = padN n := by
  unfold padN at *
  split at h <;> split <;> omega
theorem padN_le (n : Nat) : padN n ≤ 64 := by unfold padN; split <;> omega
def padL (s : ByteArray) (k : Nat) : List Int := bL s ++ 128 :: List.replicate k 0
theorem padL_length (s : ByteArray) (k : Nat) : (padL s k).length = s.size + 1 + k := by simp [padL, bL_length]; omega
theorem padL_next (s : ByteArray) (k : Nat) : padL s k ++ [0] = padL s (k + 1) := by simp [padL, List.replicate_succ']
theorem padL_zero (s : ByteArray) : bL s ++ [128] = padL s 0 := by simp [padL]
theorem be8_next (n : Int) (j : Nat) (h : j < 8) : (be8 n).take j ++ [n / 2 ^ (8 * (7 - j)) % 256] = (be8 n).take (j + 1) := by
  match j, h with
  | 0, _ => rfl
  | 1, _ => rfl
  | 2, _ => rfl
  | 3, _ => rfl
  | 4, _ => rfl
  | 5, _ => rfl
  | 6, _ => rfl
  | 7, _ => simp [be8]
theorem be8_len (n : Int) (j : Nat) (h : j ≤ 8) : ((be8 n).take j).length = j := by rw [List.length_take]; simp [be8]; omega
theorem all_eq (s : ByteArray) : padL s (padN s.size) ++ be8 (s.size * 8) = allL s := by
  have hr := rest_len s
  unfold allL lastL preL padL padN
  rw [hr, ← List.append_assoc, ← List.append_assoc, List.take_append_drop]
end Plain

def lenV : Value → Nat
  | .slice _ n _ => n
  | _ => 0

end Go.Proofs.YtldgkpnlplfopaaGreatDoor
