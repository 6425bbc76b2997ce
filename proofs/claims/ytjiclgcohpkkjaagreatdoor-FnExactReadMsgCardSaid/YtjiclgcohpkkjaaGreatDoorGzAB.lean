/- Texts of one kind, put together. -/
import Derived.Test.YtjiclgcohpkkjaaGreatDoorPlain
import Derived.Test.YtjiclgcohpkkjaaGreatDoorMem
import Derived.Lib.Bytealg
import Derived.Test.YtjiclgcohpkkjaaGreatDoorNum
import Derived.Deep.AppendLies

/- Names of repositories as plain mathematics: one automaton over the bytes, which both programs follow. -/
namespace Go.Proofs.YtjiclgcohpkkjaaGreatDoor
open Go.RowKit Plain
set_option linter.unusedVariables false
namespace Plain
def lowB (c : Nat) : Bool := (decide (97 ≤ c) && decide (c ≤ 122)) || (decide (48 ≤ c) && decide (c ≤ 57))
/-- What stands ahead: 0 the beginning of a part, 1 a word, 2 a mark that is whole, 3 one _, 4 some -. -/
def rep (q : Nat) : List UInt8 → Bool
  | [] => decide (q = 1)
  | c :: l =>
    if lowB c.toNat then rep 1 l
    else if q = 1 ∧ c.toNat = 46 then rep 2 l
    else if q = 1 ∧ c.toNat = 95 then rep 3 l
    else if q = 1 ∧ c.toNat = 45 then rep 4 l
    else if q = 1 ∧ c.toNat = 47 then rep 0 l
    else if q = 3 ∧ c.toNat = 95 then rep 2 l
    else if q = 4 ∧ c.toNat = 45 then rep 4 l
    else false
/-- The same of one part: a / is no sign of it. -/
def prt (q : Nat) : List UInt8 → Bool
  | [] => decide (q = 1)
  | c :: l =>
    if lowB c.toNat then prt 1 l
    else if q = 1 ∧ c.toNat = 46 then prt 2 l
    else if q = 1 ∧ c.toNat = 95 then prt 3 l
    else if q = 1 ∧ c.toNat = 45 then prt 4 l
    else if q = 3 ∧ c.toNat = 95 then prt 2 l
    else if q = 4 ∧ c.toNat = 45 then prt 4 l
    else false
def repoB (s : ByteArray) : Bool := decide (s.size ≤ 100) && rep 0 s.data.toList

theorem lowB_not {c : Nat} (h : c = 46 ∨ c = 95 ∨ c = 45 ∨ c = 47) : lowB c = false := by
  rcases h with h | h | h | h <;> subst h <;> rfl

theorem rep_low (q : Nat) (c : UInt8) (l : List UInt8) (h : lowB c.toNat = true) : rep q (c :: l) = rep 1 l := by rw [rep, if_pos h]
theorem prt_low (q : Nat) (c : UInt8) (l : List UInt8) (h : lowB c.toNat = true) : prt q (c :: l) = prt 1 l := by rw [prt, if_pos h]

/-- Parts and the /s between them. -/
theorem rep_cut (a b : List UInt8) : ∀ q, (∀ c ∈ a, c.toNat ≠ 47) → ∀ d : UInt8, d.toNat = 47 → rep q (a ++ d :: b) = (prt q a && rep 0 b) := by
  induction a with
  | nil =>
    intro q _ d hd
    have h1 := lowB_not (c := d.toNat) (by omega)
    have h2 : lowB 47 = false := rfl
    by_cases hq : q = 1 <;> simp [rep, prt, h2, hd, hq]
  | cons c a ih =>
    intro q h d hd
    have hc : c.toNat ≠ 47 := h c (by simp)
    have ih2 := fun q => ih q (fun x hx => h x (by simp [hx])) d hd
    rw [List.cons_append, rep, prt]
    simp only [ih2]
    have hc2 : ¬ (q = 1 ∧ c.toNat = 47) := fun h => hc h.2
    rw [if_neg hc2]
    repeat' split
    all_goals simp
theorem rep_last (a : List UInt8) : ∀ q, (∀ c ∈ a, c.toNat ≠ 47) → rep q a = prt q a := by
  induction a with
  | nil => intro q _; rfl
  | cons c a ih =>
    intro q h
    have hc : c.toNat ≠ 47 := h c (by simp)
    have ih2 := fun q => ih q (fun x hx => h x (by simp [hx]))
    rw [rep, prt]
    simp only [ih2]
    have hc2 : ¬ (q = 1 ∧ c.toNat = 47) := fun h => hc h.2
    rw [if_neg hc2]

/-- A mark: . _ __ or some -. -/
def mrk (m : List UInt8) : Bool := (m == [46]) || (m == [95]) || (m == [95, 95]) || (!m.isEmpty && m.all fun c => c.toNat == 45)

theorem u8 {c : UInt8} {n : Nat} (hn : n < 256) (h : c.toNat = n) : c = UInt8.ofNat n := by
  apply UInt8.toNat_inj.1
  rw [h, UInt8.toNat_ofNat']
  omega

theorem prt_hyph (m r : List UInt8) (c : UInt8) (hc : lowB c.toNat = true) (hm : ∀ x ∈ m, lowB x.toNat = false) : prt 4 (m ++ c :: r) = ((m.all fun c => c.toNat == 45) && prt 1 r) := by
  induction m with
  | nil => simp [prt_low _ _ _ hc]
  | cons x m ih =>
    have hx := hm x (by simp)
    have ih2 := ih (fun y hy => hm y (by simp [hy]))
    rw [List.cons_append, prt, hx]
    by_cases h : x.toNat = 45
    · simp [h, ih2]
    · simp [h]

theorem prt_mark (m r : List UInt8) (c : UInt8) (hc : lowB c.toNat = true) (hm : ∀ x ∈ m, lowB x.toNat = false) : prt 1 (m ++ c :: r) = ((m.isEmpty || mrk m) && prt 1 r) := by
  cases m with
  | nil => simp [prt_low _ _ _ hc]
  | cons x m =>
    have hx := hm x (by simp)
    have hm2 : ∀ y ∈ m, lowB y.toNat = false := fun y hy => hm y (by simp [hy])
    rw [List.cons_append, prt, hx]
    simp only [Bool.false_eq_true, if_false, true_and]
    by_cases h1 : x.toNat = 46
    · obtain rfl := u8 (by omega) h1
      rw [if_pos h1]
      cases m with
      | nil => simp [prt_low _ _ _ hc, mrk]
      | cons y m =>
        have hy := hm2 y (by simp)
        rw [List.cons_append, prt, hy]
        simp [mrk]
    · rw [if_neg h1]
      by_cases h2 : x.toNat = 95
      · obtain rfl := u8 (by omega) h2
        rw [if_pos h2]
        cases m with
        | nil => simp [prt_low _ _ _ hc, mrk]
        | cons y m =>
          have hy := hm2 y (by simp)
          have hm3 : ∀ y ∈ m, lowB y.toNat = false := fun z hz => hm2 z (by simp [hz])
          rw [List.cons_append, prt, hy]
          by_cases h3 : y.toNat = 95
          · obtain rfl := u8 (by omega) h3
            cases m with
            | nil => simp [prt_low _ _ _ hc, mrk]
            | cons z m =>
              have hz := hm3 z (by simp)
              simp only [Bool.false_eq_true, if_false]
              rw [if_neg (by omega), if_neg (by omega), if_neg (by omega), if_pos ⟨by trivial, h3⟩, List.cons_append, prt, hz]
              simp [mrk]
          · have h4 : ¬ y = 95 := fun e => h3 (by rw [e]; rfl)
            simp [h3, mrk, h4]
      · rw [if_neg h2]
        by_cases h3 : x.toNat = 45
        · rw [if_pos h3, prt_hyph m r c hc hm2]
          obtain rfl := u8 (by omega) h3
          simp [mrk]
        · have e1 : ¬ x = 46 := fun e => h1 (by rw [e]; rfl)
          have e2 : ¬ x = 95 := fun e => h2 (by rw [e]; rfl)
          simp [h3, mrk, e1, e2]

/-! ### What the scanner takes: a word, a mark -/
def wd : List UInt8 → Nat
  | [] => 0
  | c :: l => if lowB c.toNat then wd l + 1 else 0
theorem wd_le (l : List UInt8) : wd l ≤ l.length := by
  induction l with
  | nil => simp [wd]
  | cons c l ih => rw [wd]; split <;> simp <;> omega
theorem wd_drop (l : List UInt8) : ∀ k, k ≤ wd l → wd l = k + wd (l.drop k) := by
  induction l with
  | nil => intro k h; simp [wd] at h ⊢; omega
  | cons c l ih =>
    intro k h
    cases k with
    | zero => simp
    | succ k =>
      rw [wd] at h ⊢
      split at h
      · rename_i hc
        rw [if_pos hc, List.drop_succ_cons, ih k (by omega)]
        omega
      · omega
theorem wd_low (l : List UInt8) (k : Nat) (h : k < l.length) (hl : lowB l[k].toNat = true) : wd (l.drop k) = 1 + wd (l.drop (k + 1)) := by
  rw [List.drop_eq_getElem_cons h, wd, if_pos hl, Nat.add_comm]
theorem wd_not (l : List UInt8) (k : Nat) (h : k < l.length) (hl : lowB l[k].toNat = false) : wd (l.drop k) = 0 := by
  rw [List.drop_eq_getElem_cons h, wd, if_neg (by simp [hl])]
theorem wd_end (l : List UInt8) (k : Nat) (h : l.length ≤ k) : wd (l.drop k) = 0 := by
  rw [List.drop_of_length_le h, wd]
/-- Nothing of a word stands at the beginning. -/
def noWd : List UInt8 → Prop
  | [] => True
  | c :: _ => lowB c.toNat = false
theorem noWd_drop (l : List UInt8) : noWd (l.drop (wd l)) := by
  induction l with
  | nil => simp [wd, noWd]
  | cons c l ih =>
    rw [wd]
    split
    · simpa using ih
    · rename_i h; simpa [noWd] using h
theorem rep_wd1 (l : List UInt8) : rep 1 l = rep 1 (l.drop (wd l)) := by
  induction l with
  | nil => simp [wd]
  | cons c l ih =>
    rw [wd]
    split
    · rename_i h
      rw [rep_low _ _ _ h, List.drop_succ_cons]; exact ih
    · simp
theorem rep_wd (l : List UInt8) : rep 0 l = (decide (0 < wd l) && rep 1 (l.drop (wd l))) := by
  cases l with
  | nil => simp [wd, rep]
  | cons c l =>
    rw [wd]
    split
    · rename_i h
      rw [rep_low _ _ _ h, List.drop_succ_cons, rep_wd1 l]
      simp
    · rename_i h
      simp [rep, h]
def hy : List UInt8 → Nat
  | [] => 0
  | c :: l => if c.toNat = 45 then hy l + 1 else 0
theorem hy_le (l : List UInt8) : hy l ≤ l.length := by
  induction l with
  | nil => simp [hy]
  | cons c l ih => rw [hy]; split <;> simp <;> omega
theorem hy_yes (c : UInt8) (l : List UInt8) (h : c.toNat = 45) : hy (c :: l) = hy l + 1 := by rw [hy, if_pos h]
theorem hy_no (c : UInt8) (l : List UInt8) (h : ¬ c.toNat = 45) : hy (c :: l) = 0 := by rw [hy, if_neg h]
/-- How many bytes the mark at the beginning takes. -/
def un : List UInt8 → Nat
  | [] => 1
  | d :: _ => if d.toNat = 95 then 2 else 1
def mk : List UInt8 → Nat
  | [] => 0
  | c :: l => if c.toNat = 95 then un l else if c.toNat = 46 then 1 else hy (c :: l)
theorem mk_le (l : List UInt8) : mk l ≤ l.length := by
  cases l with
  | nil => simp [mk]
  | cons c l =>
    rw [mk]
    split
    · cases l with
      | nil => simp [un]
      | cons d l => simp only [un]; split <;> simp
    · split
      · simp
      · exact hy_le _
theorem rep_two (l : List UInt8) : rep 2 l = rep 0 l := by cases l <;> simp [rep]
theorem rep_hy (l : List UInt8) : rep 4 l = rep 0 (l.drop (hy l)) := by
  induction l with
  | nil => simp [hy, rep]
  | cons c l ih =>
    by_cases h : c.toNat = 45
    · rw [hy_yes c l h, List.drop_succ_cons, ← ih, rep, lowB_not (by omega)]
      simp [h]
    · rw [hy_no c l h]
      simp [rep, h]
theorem rep_mk (l : List UInt8) (h : 0 < mk l) : rep 1 l = rep 0 (l.drop (mk l)) := by
  cases l with
  | nil => simp [mk] at h
  | cons c l =>
    rw [mk] at h ⊢
    by_cases h1 : c.toNat = 95
    · rw [if_pos h1, rep, lowB_not (by omega)]
      rw [if_neg (by simp), if_neg (by omega), if_pos ⟨rfl, h1⟩]
      cases l with
      | nil => simp [rep, un]
      | cons d l =>
        simp only [un]
        by_cases h2 : d.toNat = 95
        · rw [if_pos h2, rep, lowB_not (by omega)]
          rw [if_neg (by simp), if_neg (by omega), if_neg (by omega), if_neg (by omega), if_neg (by omega), if_pos ⟨rfl, h2⟩]
          exact rep_two l
        · rw [if_neg h2]
          simp [rep, h2]
    · rw [if_neg h1] at h ⊢
      by_cases h2 : c.toNat = 46
      · rw [if_pos h2, rep, lowB_not (by omega)]
        rw [if_neg (by simp), if_pos ⟨rfl, h2⟩]
        exact rep_two l
      · rw [if_neg h2] at h ⊢
        by_cases h3 : c.toNat = 45
        · rw [hy_yes c l h3, rep, lowB_not (by omega)]
          rw [if_neg (by simp), if_neg (by omega), if_neg (by omega), if_pos ⟨rfl, h3⟩, rep_hy]
          simp
        · rw [hy_no c l h3] at h; omega
theorem rep_no (c : UInt8) (l : List UInt8) (hw : lowB c.toNat = false) (h : mk (c :: l) = 0) (h2 : ¬ c.toNat = 47) : rep 1 (c :: l) = false := by
  rw [mk] at h
  have e1 : ¬ c.toNat = 95 := by
    intro e
    rw [if_pos e] at h
    cases l with
    | nil => simp [un] at h
    | cons d l => simp only [un] at h; split at h <;> omega
  rw [if_neg e1] at h
  have e2 : ¬ c.toNat = 46 := by intro e; rw [if_pos e] at h; omega
  rw [if_neg e2] at h
  have e3 : ¬ c.toNat = 45 := by intro e; rw [hy_yes c l e] at h; omega
  simp [rep, hw, e1, e2, e3, h2]
theorem rep_slash (c : UInt8) (l : List UInt8) (h : c.toNat = 47) : rep 1 (c :: l) = rep 0 l := by
  rw [rep, lowB_not (by omega)]
  simp [h]
end Plain
end Go.Proofs.YtjiclgcohpkkjaaGreatDoor


/- References as plain mathematics: where the first of two signs stands, what is read of a text, what is written. -/
namespace Go.Proofs.YtjiclgcohpkkjaaGreatDoor
open Go.RowKit Plain
set_option linter.unusedVariables false
namespace Plain
/-- The place of the first byte that is a or b; the length: there is none. -/
def fd (a b : Nat) : List UInt8 → Nat
  | [] => 0
  | c :: l => if c.toNat = a ∨ c.toNat = b then 0 else fd a b l + 1
theorem fd_le (a b : Nat) (l : List UInt8) : fd a b l ≤ l.length := by
  induction l with
  | nil => simp [fd]
  | cons c l ih => rw [fd]; split <;> simp <;> omega
theorem fd_yes (a b : Nat) (l : List UInt8) (k : Nat) (h : k < l.length) (hc : l[k].toNat = a ∨ l[k].toNat = b) : fd a b (l.drop k) = 0 := by
  rw [List.drop_eq_getElem_cons h, fd, if_pos hc]
theorem fd_no (a b : Nat) (l : List UInt8) (k : Nat) (h : k < l.length) (hc : ¬ (l[k].toNat = a ∨ l[k].toNat = b)) : fd a b (l.drop k) = fd a b (l.drop (k + 1)) + 1 := by
  rw [List.drop_eq_getElem_cons h, fd, if_neg hc]
theorem fd_end (a b : Nat) (l : List UInt8) (k : Nat) (h : l.length ≤ k) : fd a b (l.drop k) = 0 := by
  rw [List.drop_of_length_le h, fd]
theorem fd_at (a b : Nat) (l : List UInt8) (h : fd a b l < l.length) : (l[fd a b l]).toNat = a ∨ (l[fd a b l]).toNat = b := by
  induction l with
  | nil => simp at h
  | cons c l ih =>
    by_cases hc : c.toNat = a ∨ c.toNat = b
    · have e : fd a b (c :: l) = 0 := by rw [fd, if_pos hc]
      simpa [e] using hc
    · have e : fd a b (c :: l) = fd a b l + 1 := by rw [fd, if_neg hc]
      have h2 : fd a b l < l.length := by rw [e] at h; simpa using h
      simpa [e] using ih h2
theorem fd_ahead (a b : Nat) (l : List UInt8) (k : Nat) (hk : k < fd a b l) (h : k < l.length) : ¬ (l[k].toNat = a ∨ l[k].toNat = b) := by
  induction l generalizing k with
  | nil => simp at h
  | cons c l ih =>
    by_cases hc : c.toNat = a ∨ c.toNat = b
    · rw [fd, if_pos hc] at hk; omega
    · rw [fd, if_neg hc] at hk
      cases k with
      | zero => simpa using hc
      | succ k => simpa using ih k (by omega) (by simpa using h)
/-- The first of two signs: the first a in what stands ahead of the first b. -/
theorem fd_two (a b : Nat) (l : List UInt8) : fd a a (l.take (fd b b l)) = fd a b l := by
  induction l with
  | nil => simp [fd]
  | cons c l ih =>
    by_cases hb : c.toNat = b
    · rw [fd, if_pos (.inl hb), fd, if_pos (.inr hb)]; simp [fd]
    · rw [fd, if_neg (by omega), List.take_succ_cons, fd, fd, ih]
      by_cases ha : c.toNat = a
      · rw [if_pos (.inl ha), if_pos (.inl ha)]
      · rw [if_neg (by omega), if_neg (by omega)]
theorem fd_min (a b : Nat) (l : List UInt8) : fd a b l ≤ fd b b l := by
  rw [← fd_two]; have := fd_le a a (l.take (fd b b l)); have := List.length_take_le (fd b b l) l; omega
/-- Behind the first of the two: the first b. -/
theorem fd_back (a b : Nat) (l : List UInt8) : fd a b l + fd b b (l.drop (fd a b l)) = fd b b l := by
  induction l with
  | nil => simp [fd]
  | cons c l ih =>
    rw [fd]
    by_cases h : c.toNat = a ∨ c.toNat = b
    · rw [if_pos h]; simp
    · rw [if_neg h, List.drop_succ_cons, fd.eq_2 b b c l, if_neg (by omega)]
      omega
/-- The sign at the first of two is a just where the first b stands behind it. -/
theorem fd_sign (a b : Nat) (hab : a ≠ b) (l : List UInt8) (h : fd a b l < l.length) : ((l[fd a b l]).toNat = a ↔ fd a b l < fd b b l) := by
  induction l with
  | nil => simp at h
  | cons c l ih =>
    by_cases hc : c.toNat = a ∨ c.toNat = b
    · have e : fd a b (c :: l) = 0 := by rw [fd, if_pos hc]
      simp only [e, List.getElem_cons_zero]
      by_cases hb : c.toNat = b
      · rw [fd, if_pos (.inl hb)]
        constructor
        · intro h; omega
        · intro h; omega
      · rw [fd, if_neg (by omega)]
        constructor
        · intro h; omega
        · intro h; omega
    · have e : fd a b (c :: l) = fd a b l + 1 := by rw [fd, if_neg hc]
      have h2 : fd a b l < l.length := by rw [e] at h; simpa using h
      have := ih h2
      simp only [e, List.getElem_cons_succ]
      rw [this, fd.eq_2 b b c l, if_neg (by omega)]
      omega

def tagC (c : Nat) : Bool := lowB c || (decide (65 ≤ c) && decide (c ≤ 90)) || decide (c = 95) || decide (c = 46) || decide (c = 45)
def tagFrom (s : ByteArray) (k : Nat) : Bool := (s.data.toList.drop k).all fun c => tagC c.toNat
theorem tagFrom_step (s : ByteArray) (k : Nat) (h : k < s.size) : tagFrom s k = (tagC s[k].toNat && tagFrom s (k + 1)) := by
  unfold tagFrom
  rw [List.drop_eq_getElem_cons (by simpa using h)]
  rfl
theorem tagFrom_end (s : ByteArray) (k : Nat) (h : s.size ≤ k) : tagFrom s k = true := by
  unfold tagFrom
  rw [List.drop_of_length_le (by simpa using h)]
  rfl
def tagB (s : ByteArray) : Bool := decide (1 ≤ s.size) && decide (s.size ≤ 128) && !decide ((s.data.toList.headD 0).toNat = 46) && !decide ((s.data.toList.headD 0).toNat = 45) && tagFrom s 0
theorem tagB_size {s : ByteArray} (h : s.size < 1 ∨ 128 < s.size) : tagB s = false := by
  unfold tagB; rcases h with h | h
  · rw [show decide (1 ≤ s.size) = false from by simpa using (by omega : s.size = 0)]; simp
  · rw [show decide (s.size ≤ 128) = false from by simpa using h]; simp
theorem headD_0 (s : ByteArray) (h : 0 < s.size) : s.data.toList.headD 0 = s[0] := by
  have e := List.drop_eq_getElem_cons (l := s.data.toList) (i := 0) (by simpa using h)
  rw [List.drop_zero] at e
  rw [e]; rfl
theorem tagB_first {s : ByteArray} (h : 0 < s.size) (h2 : s[0].toNat = 46 ∨ s[0].toNat = 45) : tagB s = false := by
  unfold tagB; rw [headD_0 s h]; rcases h2 with h2 | h2 <;> simp [h2]
theorem tagB_rest {s : ByteArray} (h : 1 ≤ s.size) (h1 : s.size ≤ 128) (h2 : ¬ s[0].toNat = 46) (h3 : ¬ s[0].toNat = 45) : tagB s = tagFrom s 0 := by
  unfold tagB; rw [headD_0 s h]; simp [h, h1, h2, h3]

end Plain
end Go.Proofs.YtjiclgcohpkkjaaGreatDoor


/- Digits of 16: what the two programs tell of one byte; what a digest is; Nibble. -/
namespace Go.Proofs.YtjiclgcohpkkjaaGreatDoor
open Go.RowKit Plain
set_option linter.unusedVariables false

namespace Plain
def hexList : List UInt8 := [48, 49, 50, 51, 52, 53, 54, 55, 56, 57, 97, 98, 99, 100, 101, 102]
def hexI (c : Int) : Int := if 48 ≤ c ∧ c ≤ 57 then c - 48 else if 97 ≤ c ∧ c ≤ 102 then c - 87 else -1

theorem hex_all : ∀ n : Fin 256, Lib.indexByte hexList n.val.toUInt8 = hexI n.val := by decide +kernel

theorem hex_index (c : Int) (h0 : 0 ≤ c) (h1 : c < 256) : Lib.indexByte hexList c.toNat.toUInt8 = hexI c := by
  have h := hex_all ⟨c.toNat, by omega⟩
  simp only at h
  rw [h]
  congr 1
  omega

theorem hexI_bounds (c : Int) : -1 ≤ hexI c ∧ hexI c ≤ 15 := by unfold hexI; split <;> (try split) <;> omega
end Plain

theorem call_index (s : ByteArray) (c : Int) (w : World) : (callFunc 191 #[.string s, .int .u8 c]).run Tryz.prog w = .ok (.value (.int .i64 (Lib.indexByte s.data.toList c.toNat.toUInt8))) w := by
  rw [run_callFunc_extern Tryz.func191 (by kernel_rfl) (by kernel_rfl) (by kernel_rfl) (e := Extern.BytealgIndexByte.indexByte) (by kernel_rfl), Lib.run_indexByteString]
  rfl



end Go.Proofs.YtjiclgcohpkkjaaGreatDoor

/- What a digest is: DigestOk and Nibble of both programs by their contracts. -/
namespace Go.Proofs.YtjiclgcohpkkjaaGreatDoor
open Go.RowKit Plain
set_option linter.unusedVariables false

namespace Plain
def hexFrom (t : ByteArray) (k : Nat) : Bool := (t.data.toList.drop k).all fun c => decide (0 ≤ hexI c.toNat)

theorem hexFrom_step (t : ByteArray) (k : Nat) (h : k < t.size) : hexFrom t k = (decide (0 ≤ hexI t[k].toNat) && hexFrom t (k + 1)) := by
  unfold hexFrom
  rw [List.drop_eq_getElem_cons (by simpa using h)]
  rfl

theorem hexFrom_end (t : ByteArray) (k : Nat) (h : t.size ≤ k) : hexFrom t k = true := by
  unfold hexFrom
  rw [List.drop_of_length_le (by simpa using h)]
  rfl

theorem hexFrom_extract (s : ByteArray) (h : 7 ≤ s.size) : hexFrom (s.extract 7 s.size) 0 = hexFrom s 7 := by
  unfold hexFrom
  congr 1
  rw [ByteArray.data_extract, Array.toList_extract]
  simp [List.extract_eq_take_drop]
  exact List.take_of_length_le (by simp)

def shaL : List UInt8 := [115, 104, 97, 50, 53, 54, 58]
def digB (s : ByteArray) : Bool := decide (s.size = 71) && ((s.extract 0 7).toList == shaL) && hexFrom s 7

theorem digB_size {s : ByteArray} (h : ¬ s.size = 71) : digB s = false := by unfold digB; simp [h]
theorem digB_head {s : ByteArray} (h : ((s.extract 0 7).toList == shaL) = false) : digB s = false := by unfold digB; rw [h]; simp
theorem digB_rest {s : ByteArray} (h1 : s.size = 71) (h : ((s.extract 0 7).toList == shaL) = true) : digB s = hexFrom s 7 := by unfold digB; rw [h]; simp [h1]
end Plain







end Go.Proofs.YtjiclgcohpkkjaaGreatDoor

/- Rows of the call's own, whatever their elements: made, appended to, read. -/
namespace Go.Proofs.YtjiclgcohpkkjaaGreatDoor
open Go.RowKit Plain
set_option linter.unusedVariables false

/-- How values of a type lie in a row's cells, over this program's types. -/
structure Elem (α : Type) where
  E : TypeId
  S : TypeId
  n : Nat
  bytes : Nat
  zero : Value
  enc : α → List Value
  hund : Tryz.prog.underlying S = some (.slice E)
  hinfo : (Tryz.prog.info? E).map (fun i => (i.zero, i.size, i.bytes)) = some (some zero, n, bytes)
  hz : zero.cells.size = n
  hn : 0 < n
  hb : bytes ≤ 1000
  hlen : ∀ x, (enc x).length = n
  hone : ∀ x, ∀ u ∈ enc x, u.oneCell' = true

namespace Plain
theorem flat_len {α β : Type} (f : α → List β) (n : Nat) (h : ∀ x, (f x).length = n) (xs : List α) : (xs.flatMap f).length = xs.length * n := by
  induction xs with
  | nil => simp
  | cons x l ih => rw [List.flatMap_cons, List.length_append, ih, h, List.length_cons, Nat.add_mul, Nat.one_mul, Nat.add_comm]
theorem flat_get {α β : Type} (f : α → List β) (n : Nat) (h : ∀ x, (f x).length = n) (xs : List α) (i j : Nat) (hi : i < xs.length) (hj : j < n) : (xs.flatMap f)[i * n + j]? = (f xs[i])[j]? := by
  induction xs generalizing i with
  | nil => simp at hi
  | cons x l ih =>
    cases i with
    | zero => rw [List.flatMap_cons, List.getElem?_append_left (by rw [h]; omega)]; simp
    | succ i =>
      rw [List.flatMap_cons, List.getElem?_append_right (by rw [h, Nat.succ_mul]; omega), h, show (i + 1) * n + j - n = i * n + j from by rw [Nat.succ_mul]; omega]
      simpa using ih i (by simpa using hi)
end Plain

/-- The value v is a slice which the call owns (from block B on), holding xs. -/
def OwnR {α : Type} (e : Elem α) (W : World) (B : Nat) (v : Value) (xs : List α) : Prop := W.ownsRow B e.E e.n v xs.length (xs.flatMap e.enc)

section
variable {α : Type} {e : Elem α} {W w' : World} {B : Nat} {v : Value} {xs : List α}

theorem ownR_nil (e : Elem α) (W : World) (B : Nat) : OwnR e W B (.slice none 0 0) [] := World.ownsRow_nil _ _ _ _
theorem ownR_empty (e : Elem α) (W : World) (B : Nat) (hB : B ≤ W.heap.size) : OwnR e (W.alloc (.cells #[] e.E)) B (.slice (some ⟨W.heap.size, 0, none⟩) 0 0) [] :=
  World.ownsRow_made W #[] 0 hB (by unfold maxLen; omega) (by simp)

theorem OwnR.le (h : OwnR e W B v xs) {B' : Nat} (hB : B' ≤ B) : OwnR e W B' v xs := by
  refine ⟨h.1, ?_⟩
  rcases h.2 with ⟨a, b⟩ | ⟨g, cap, cur, a, b, c⟩
  · exact .inl ⟨a, b⟩
  · exact .inr ⟨g, cap, cur, a, Nat.le_trans hB b, c⟩
theorem OwnR.below {b : Nat} (h : OwnR e W B v xs) (hb : Below b W w') (hbs : ∀ g, v.ownBlock = some g → g < b) : OwnR e w' B v xs := by
  refine ⟨h.1, ?_⟩
  rcases h.2 with ⟨a, c⟩ | ⟨g, cap, cur, rfl, c, d, r⟩
  · exact .inl ⟨a, c⟩
  · exact .inr ⟨g, cap, cur, rfl, c, (hb.block g (hbs g rfl)).trans d, r⟩
theorem OwnR.lt (h : OwnR e W B v xs) : ∀ g, v.ownBlock = some g → g < W.heap.size := fun g hg => (World.ownsRow.lt h g hg).2
theorem OwnR.keep (h : OwnR e W B v xs) (hb : Below W.heap.size W w') : OwnR e w' B v xs := h.below hb h.lt
theorem OwnR.form (h : OwnR e W B v xs) : ∃ a cap, v = .slice a xs.length cap := by
  rcases h.2 with ⟨a, c⟩ | ⟨g, cap, cur, rfl, c, d, r⟩
  · exact ⟨none, 0, by rw [a, c]⟩
  · exact ⟨_, cap, rfl⟩
theorem OwnR.drewN (h : OwnR e W B v xs) (k : Nat) : OwnR e (W.drewN k) B v xs := h
end

theorem appR {α : Type} {e : Elem α} {ops : Array Oper} {rest : List Oper} {o : Oper} {a : Act} {Q : Exit → Act → World → Prop} (hgd : o.guard = none) (s x : Operand)
    (ho : o.op = .call { callee := .builtin .append, args := #[s, x], argTypes := #[e.S, e.S] })
    {w : World} {B : Nat} {v : Value} {xs : List α} (hown : OwnR e w B v xs) (hs : a.eval s = v) (y : α) {cs : Array Value} (hcs : cs.toList = e.enc y)
    (gx : Nat) (hx : a.eval x = .slice (some ⟨gx, 0, none⟩) 1 1) (hgx : gx = w.heap.size) (hlen : xs.length < 100000000) (hB : B ≤ w.heap.size)
    (h : ∀ v' w', OwnR e w' B v' (xs ++ [y]) → Below B w w' → (w.alloc (.cells cs e.E)).grownBy w' v.ownBlock → wpList Tryz.prog ops Q rest (a.put o.dst v') w') :
    wpList Tryz.prog ops Q (o :: rest) a (w.alloc (.cells cs e.E)) := by
  subst hgx
  obtain ⟨i0, hi, hz0, hz1, hz2⟩ := info_parts e.hinfo
  have ha := World.ownsRow.alloc hown (.cells cs e.E)
  have hnew : (w.alloc (.cells cs e.E)).heap[w.heap.size]? = some (.cells cs e.E) := (MapKept.heap_alloc w _).1
  have hby := e.hb
  refine wpList_append_own _ hgd s x e.S ho B e.E i0 e.zero e.n e.bytes e.hund hi hz0 hz1 hz2 e.hz e.hn v xs.length (xs.flatMap e.enc) hs ha
    ⟨w.heap.size, 0, none⟩ 1 1 (e.enc y) hx (by rw [e.hlen, Nat.one_mul]) (by rw [← hcs]; exact World.news_of_block hnew) (e.hone y) (by unfold maxLen; omega) ?_ (by simp; omega) ?_
  · exact Nat.le_trans (Nat.mul_le_mul_left _ hby) (by omega)
  · intro v' w' h1 h2 _
    refine h v' w' ?_ (((Below.refl B w).alloc hB _).trans (own_below ha h2 (by simp; omega))) h2
    unfold OwnR
    rw [List.flatMap_append, List.length_append]
    simpa using h1

/-- The slice at a holds xs, in a block that may be written. -/
def RowAt {α : Type} (e : Elem α) (W : World) (a : Option Addr) (xs : List α) : Prop := ∀ i (h : i < xs.length), ∃ g, a = some ⟨g, 0, none⟩ ∧ g < W.heap.size ∧
  ∀ j, j < e.n → W.cell? ⟨g, i * e.n + j, none⟩ = (e.enc xs[i])[j]? ∧ W.frozen? ⟨g, i * e.n + j, none⟩ = false
theorem RowAt.below {α : Type} {e : Elem α} {W W' : World} {a : Option Addr} {xs : List α} (h : RowAt e W a xs) (hb : Below W.heap.size W W') : RowAt e W' a xs := fun i hi => by
  obtain ⟨g, e1, hl, h1⟩ := h i hi
  exact ⟨g, e1, Nat.lt_of_lt_of_le hl hb.size, fun j hj => ⟨(hb.cell (p := ⟨g, i * e.n + j, none⟩) hl).trans (h1 j hj).1, (hb.frozen (p := ⟨g, i * e.n + j, none⟩) hl).trans (h1 j hj).2⟩⟩
theorem OwnR.at {α : Type} {e : Elem α} {W : World} {B : Nat} {a : Option Addr} {n c : Nat} {xs : List α} (h : OwnR e W B (.slice a n c) xs) : RowAt e W a xs := by
  intro i hi
  obtain ⟨a', cap', he⟩ := h.form
  obtain ⟨rfl, rfl, rfl⟩ : a = a' ∧ n = xs.length ∧ c = cap' := by simpa using he
  rcases h.2 with ⟨e1, h0⟩ | ⟨g, cap, cur, e1, hg, hc, _⟩
  · omega
  · obtain ⟨rfl, _, rfl⟩ : a = some ⟨g, 0, none⟩ ∧ xs.length = xs.length ∧ c = cap := by simpa using e1
    have hlt : g < W.heap.size := by
      rcases Nat.lt_or_ge g W.heap.size with h | h
      · exact h
      · rw [Array.getElem?_eq_none h] at hc; cases hc
    refine ⟨g, rfl, hlt, fun j hj => ⟨?_, World.ownsRow.frozenAt h _⟩⟩
    have hin : i * e.n + j < xs.length * e.n := by
      have : (i + 1) * e.n ≤ xs.length * e.n := Nat.mul_le_mul_right _ hi
      rw [Nat.succ_mul] at this
      omega
    rw [World.ownsRow.cellAt h _ hin, flat_get e.enc e.n e.hlen xs i j hi hj]

/-- Texts as elements. -/
def strE : Elem ByteArray where
  E := 9
  S := 101
  n := 1
  bytes := 16
  zero := .string ⟨#[]⟩
  enc := fun s => [.string s]
  hund := Tryz.underlying101
  hinfo := by kernel_rfl
  hz := rfl
  hn := by decide
  hb := by decide
  hlen := fun _ => rfl
  hone := fun x u hu => by simp at hu; subst hu; rfl
theorem RowAt.str {W : World} {a : Option Addr} {xs : List ByteArray} (h : RowAt strE W a xs) (i : Nat) (hi : i < xs.length) : ∃ g, a = some ⟨g, 0, none⟩ ∧ g < W.heap.size ∧ W.cell? ⟨g, i, none⟩ = some (.string xs[i]) ∧ W.frozen? ⟨g, i, none⟩ = false := by
  obtain ⟨g, e1, hl, h1⟩ := h i hi
  have := h1 0 (by decide)
  rw [show i * strE.n + 0 = i from Nat.mul_one i] at this
  exact ⟨g, e1, hl, this⟩
end Go.Proofs.YtjiclgcohpkkjaaGreatDoor

