/- References as plain mathematics: where the first of two signs stands, what is read of a text, what is written. -/
import Derived.Test.YtmgjkomgpkoenaaGreatRepM
namespace Go.Proofs.YtmgjkomgpkoenaaGreat
open Go.RowKit Plain
set_option linter.unusedVariables false
namespace Plain
/-- The place of the first byte that is a or b; the length: there is none. -/
def fd (a b : Nat) : List UInt8 → Nat
  | [] => 0
  | c :: l => if c.toNat = a ∨ c.toNat = b then 0 else fd a b l + 1
theorem fd_le (a b : Nat) (l : List UInt8) : fd a b l ≤ l.length := by
  induction l with
  | nil => simp [fd]
  | cons c l ih => rw [fd]; split <;> simp <;> omega
theorem fd_yes (a b : Nat) (l : List UInt8) (k : Nat) (h : k < l.length) (hc : l[k].toNat = a ∨ l[k].toNat = b) : fd a b (l.drop k) = 0 := by
  rw [List.drop_eq_getElem_cons h, fd, if_pos hc]
theorem fd_no (a b : Nat) (l : List UInt8) (k : Nat) (h : k < l.length) (hc : ¬ (l[k].toNat = a ∨ l[k].toNat = b)) : fd a b (l.drop k) = fd a b (l.drop (k + 1)) + 1 := by
  rw [List.drop_eq_getElem_cons h, fd, if_neg hc]
theorem fd_end (a b : Nat) (l : List UInt8) (k : Nat) (h : l.length ≤ k) : fd a b (l.drop k) = 0 := by
  rw [List.drop_of_length_le h, fd]
theorem fd_at (a b : Nat) (l : List UInt8) (h : fd a b l < l.length) : (l[fd a b l]).toNat = a ∨ (l[fd a b l]).toNat = b := by
  induction l with
  | nil => simp at h
  | cons c l ih =>
    by_cases hc : c.toNat = a ∨ c.toNat = b
    · have e : fd a b (c :: l) = 0 := by rw [fd, if_pos hc]
      simpa [e] using hc
    · have e : fd a b (c :: l) = fd a b l + 1 := by rw [fd, if_neg hc]
      have h2 : fd a b l < l.length := by rw [e] at h; simpa using h
      simpa [e] using ih h2
theorem fd_ahead (a b : Nat) (l : List UInt8) (k : Nat) (hk : k < fd a b l) (h : k < l.length) : ¬ (l[k].toNat = a ∨ l[k].toNat = b) := by
  induction l generalizing k with
  | nil => simp at h
  | cons c l ih =>
    by_cases hc : c.toNat = a ∨ c.toNat = b
    · rw [fd, if_pos hc] at hk; omega
    · rw [fd, if_neg hc] at hk
      cases k with
      | zero => simpa using hc
      | succ k => simpa using ih k (by omega) (by simpa using h)
/-- The first of two signs: the first a in what stands ahead of the first b. -/
theorem fd_two (a b : Nat) (l : List UInt8) : fd a a (l.take (fd b b l)) = fd a b l := by
  induction l with
  | nil => simp [fd]
  | cons c l ih =>
    by_cases hb : c.toNat = b
    · rw [fd, if_pos (.inl hb), fd, if_pos (.inr hb)]; simp [fd]
    · rw [fd, if_neg (by omega), List.take_succ_cons, fd, fd, ih]
      by_cases ha : c.toNat = a
      · rw [if_pos (.inl ha), if_pos (.inl ha)]
      · rw [if_neg (by omega), if_neg (by omega)]
theorem fd_min (a b : Nat) (l : List UInt8) : fd a b l ≤ fd b b l := by
  rw [← fd_two]; have := fd_le a a (l.take (fd b b l)); have := List.length_take_le (fd b b l) l; omega
/-- Behind the first of the two: the first b. -/
theorem fd_back (a b : Nat) (l : List UInt8) : fd a b l + fd b b (l.drop (fd a b l)) = fd b b l := by
  induction l with
  | nil => simp [fd]
  | cons c l ih =>
    rw [fd]
    by_cases h : c.toNat = a ∨ c.toNat = b
    · rw [if_pos h]; simp
    · rw [if_neg h, List.drop_succ_cons, fd.eq_2 b b c l, if_neg (by omega)]
      omega
/-- The sign at the first of two is a just where the first b stands behind it. -/
theorem fd_sign (a b : Nat) (hab : a ≠ b) (l : List UInt8) (h : fd a b l < l.length) : ((l[fd a b l]).toNat = a ↔ fd a b l < fd b b l) := by
  induction l with
  | nil => simp at h
  | cons c l ih =>
    by_cases hc : c.toNat = a ∨ c.toNat = b
    · have e : fd a b (c :: l) = 0 := by rw [fd, if_pos hc]
      simp only [e, List.getElem_cons_zero]
      by_cases hb : c.toNat = b
      · rw [fd, if_pos (.inl hb)]
        constructor
        · intro h; omega
        · intro h; omega
      · rw [fd, if_neg (by omega)]
        constructor
        · intro h; omega
        · intro h; omega
    · have e : fd a b (c :: l) = fd a b l + 1 := by rw [fd, if_neg hc]
      have h2 : fd a b l < l.length := by rw [e] at h; simpa using h
      have := ih h2
      simp only [e, List.getElem_cons_succ]
      rw [this, fd.eq_2 b b c l, if_neg (by omega)]
      omega

def tagC (c : Nat) : Bool := lowB c || (decide (65 ≤ c) && decide (c ≤ 90)) || decide (c = 95) || decide (c = 46) || decide (c = 45)
def tagFrom (s : ByteArray) (k : Nat) : Bool := (s.data.toList.drop k).all fun c => tagC c.toNat
theorem tagFrom_step (s : ByteArray) (k : Nat) (h : k < s.size) : tagFrom s k = (tagC s[k].toNat && tagFrom s (k + 1)) := by
  unfold tagFrom
  rw [List.drop_eq_getElem_cons (by simpa using h)]
  rfl
theorem tagFrom_end (s : ByteArray) (k : Nat) (h : s.size ≤ k) : tagFrom s k = true := by
  unfold tagFrom
  rw [List.drop_of_length_le (by simpa using h)]
  rfl
def tagB (s : ByteArray) : Bool := decide (1 ≤ s.size) && decide (s.size ≤ 128) && !decide ((s.data.toList.headD 0).toNat = 46) && !decide ((s.data.toList.headD 0).toNat = 45) && tagFrom s 0
theorem tagB_size {s : ByteArray} (h : s.size < 1 ∨ 128 < s.size) : tagB s = false := by
  unfold tagB; rcases h with h | h
  · rw [show decide (1 ≤ s.size) = false from by simpa using (by omega : s.size = 0)]; simp
  · rw [show decide (s.size ≤ 128) = false from by simpa using h]; simp
theorem headD_0 (s : ByteArray) (h : 0 < s.size) : s.data.toList.headD 0 = s[0] := by
  have e := List.drop_eq_getElem_cons (l := s.data.toList) (i := 0) (by simpa using h)
  rw [List.drop_zero] at e
  rw [e]; rfl
theorem tagB_first {s : ByteArray} (h : 0 < s.size) (h2 : s[0].toNat = 46 ∨ s[0].toNat = 45) : tagB s = false := by
  unfold tagB; rw [headD_0 s h]; rcases h2 with h2 | h2 <;> simp [h2]
theorem tagB_rest {s : ByteArray} (h : 1 ≤ s.size) (h1 : s.size ≤ 128) (h2 : ¬ s[0].toNat = 46) (h3 : ¬ s[0].toNat = 45) : tagB s = tagFrom s 0 := by
  unfold tagB; rw [headD_0 s h]; simp [h, h1, h2, h3]

end Plain
end Go.Proofs.YtmgjkomgpkoenaaGreat
