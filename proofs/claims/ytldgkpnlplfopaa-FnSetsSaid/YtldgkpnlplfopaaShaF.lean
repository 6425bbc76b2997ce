/- The whole sum as a plain function of the data's bytes: in blocks of 64. -/
import Derived.Test.YtldgkpnlplfopaaShaE
namespace Go.Proofs.Ytldgkpnlplfopaa.Plain
open Go Go.RowKit
set_option linter.unusedVariables false
set_option linter.unusedSimpArgs false

def h0L : List Int := [1779033703, 3144134277, 1013904242, 2773480762, 1359893119, 2600822924, 528734635, 1541459225]
def chunk (b : List Int) (k : Nat) : List Int := (b.drop (64 * k)).take 64
def hN (b : List Int) : Nat → List Int
  | 0 => h0L
  | k + 1 => blockL (hN b k) (chunk b k)

/-- The data's bytes with what is put behind them. -/
def allL (s : ByteArray) : List Int := (bL s).take (64 * (s.size / 64)) ++ lastL ((bL s).drop (64 * (s.size / 64))) (s.size * 8)
def sumL (s : ByteArray) : List Int := hN (allL s) ((allL s).length / 64)

theorem hN_length (b : List Int) (k : Nat) : (hN b k).length = 8 := by
  cases k with
  | zero => rfl
  | succ k => exact blockL_length _ _
theorem hN_word (b : List Int) (k : Nat) : ∀ x ∈ hN b k, Word x := by
  cases k with
  | zero => intro x hx; simp [hN, h0L] at hx; unfold Word; omega
  | succ k => exact blockL_word _ _

theorem bL_extract (s : ByteArray) (a : Nat) (h : a ≤ s.size) : bL (s.extract a s.size) = (bL s).drop a := by
  unfold bL
  rw [ByteArray.data_extract, Array.toList_extract]
  simp only [List.extract_eq_take_drop, List.map_take, List.map_drop]
  rw [List.take_of_length_le (by simp)]

theorem lastL_length (r : List Int) (n : Int) (h : r.length < 64) : (lastL r n).length = if r.length < 56 then 64 else 128 := by
  unfold lastL
  rw [List.length_append, preL_length r h]
  split <;> rfl

theorem take_len (s : ByteArray) : ((bL s).take (64 * (s.size / 64))).length = 64 * (s.size / 64) := by
  rw [List.length_take, bL_length]; omega

theorem chunk_low (s : ByteArray) (k : Nat) (h : k < s.size / 64) : chunk (allL s) k = ((bL s).drop (64 * k)).take 64 := by
  unfold chunk allL
  have hl := take_len s
  rw [List.drop_append_of_le_length (by omega), List.take_append_of_le_length (by rw [List.length_drop]; omega), List.drop_take, List.take_take]
  congr 1
  omega

theorem chunk_high (s : ByteArray) (j : Nat) : chunk (allL s) (s.size / 64 + j) = chunk (lastL ((bL s).drop (64 * (s.size / 64))) (s.size * 8)) j := by
  unfold chunk allL
  have hl := take_len s
  rw [List.drop_append, List.drop_of_length_le (by rw [hl]; omega), List.nil_append, hl]
  congr 2
  omega

theorem rest_len (s : ByteArray) : ((bL s).drop (64 * (s.size / 64))).length = s.size % 64 := by
  rw [List.length_drop, bL_length]; omega

theorem all_len (s : ByteArray) : (allL s).length / 64 = s.size / 64 + (if s.size % 64 < 56 then 1 else 2) := by
  unfold allL
  have hr := rest_len s
  rw [List.length_append, take_len, lastL_length _ _ (by omega), hr]
  split <;> omega

theorem getD_sub {l : List Int} (h : ∀ j, 0 ≤ l.getD j 0 ∧ l.getD j 0 < 256) (a n : Nat) : ∀ j, 0 ≤ ((l.drop a).take n).getD j 0 ∧ ((l.drop a).take n).getD j 0 < 256 := by
  intro j
  by_cases hj : j < n
  · have e : ((l.drop a).take n).getD j 0 = l.getD (a + j) 0 := by
      simp [List.getD, List.getElem?_take, hj, List.getElem?_drop]
    rw [e]; exact h _
  · have e : ((l.drop a).take n).getD j 0 = 0 := by
      simp [List.getD, List.getElem?_take, hj]
    rw [e]; omega

theorem getD_append_byte {l m : List Int} (h : ∀ j, 0 ≤ l.getD j 0 ∧ l.getD j 0 < 256) (k : ∀ j, 0 ≤ m.getD j 0 ∧ m.getD j 0 < 256) : ∀ j, 0 ≤ (l ++ m).getD j 0 ∧ (l ++ m).getD j 0 < 256 := by
  intro j
  by_cases hj : j < l.length
  · have e : (l ++ m).getD j 0 = l.getD j 0 := by simp [List.getD, List.getElem?_append_left hj]
    rw [e]; exact h j
  · have e : (l ++ m).getD j 0 = m.getD (j - l.length) 0 := by simp [List.getD, List.getElem?_append_right (show l.length ≤ j by omega)]
    rw [e]; exact k _

theorem lastL_byte (r : List Int) (n : Int) (h : ∀ j, 0 ≤ r.getD j 0 ∧ r.getD j 0 < 256) : ∀ j, 0 ≤ (lastL r n).getD j 0 ∧ (lastL r n).getD j 0 < 256 := by
  unfold lastL preL
  refine getD_append_byte (getD_append_byte h ?_) ?_
  · intro j
    cases j with
    | zero => simp
    | succ j =>
      simp only [List.getD_cons_succ]
      generalize (if r.length < 56 then 55 - r.length else 119 - r.length) = q
      by_cases hj : j < q
      · simp [List.getD, List.getElem?_replicate, hj]
      · simp [List.getD, List.getElem?_replicate, hj]
  · intro j
    unfold be8
    match j with
    | 0 => simp; omega
    | 1 => simp; omega
    | 2 => simp; omega
    | 3 => simp; omega
    | 4 => simp; omega
    | 5 => simp; omega
    | 6 => simp; omega
    | 7 => simp; omega
    | j + 8 => simp

end Go.Proofs.Ytldgkpnlplfopaa.Plain
