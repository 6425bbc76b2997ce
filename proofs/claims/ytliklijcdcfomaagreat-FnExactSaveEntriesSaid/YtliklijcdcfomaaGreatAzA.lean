/- Texts of one kind, put together. -/
import Derived.Test.YtliklijcdcfomaaGreatPlain
import Derived.Test.YtliklijcdcfomaaGreatGen
import Derived.Laws.OwnMore
import Derived.Laws.MakeOwn
import Derived.Lib.SmallJoins
import Derived.ChangeSame

/- Names of repositories as plain mathematics: one automaton over the bytes, which both programs follow. -/
namespace Go.Proofs.YtliklijcdcfomaaGreat
open Go.RowKit Plain
set_option linter.unusedVariables false
namespace Plain
def lowB (c : Nat) : Bool := (decide (97 ≤ c) && decide (c ≤ 122)) || (decide (48 ≤ c) && decide (c ≤ 57))
/-- What stands ahead: 0 the beginning of a part, 1 a word, 2 a mark that is whole, 3 one _, 4 some -. -/
def rep (q : Nat) : List UInt8 → Bool
  | [] => decide (q = 1)
  | c :: l =>
    if lowB c.toNat then rep 1 l
    else if q = 1 ∧ c.toNat = 46 then rep 2 l
    else if q = 1 ∧ c.toNat = 95 then rep 3 l
    else if q = 1 ∧ c.toNat = 45 then rep 4 l
    else if q = 1 ∧ c.toNat = 47 then rep 0 l
    else if q = 3 ∧ c.toNat = 95 then rep 2 l
    else if q = 4 ∧ c.toNat = 45 then rep 4 l
    else false
/-- The same of one part: a / is no sign of it. -/
def prt (q : Nat) : List UInt8 → Bool
  | [] => decide (q = 1)
  | c :: l =>
    if lowB c.toNat then prt 1 l
    else if q = 1 ∧ c.toNat = 46 then prt 2 l
    else if q = 1 ∧ c.toNat = 95 then prt 3 l
    else if q = 1 ∧ c.toNat = 45 then prt 4 l
    else if q = 3 ∧ c.toNat = 95 then prt 2 l
    else if q = 4 ∧ c.toNat = 45 then prt 4 l
    else false
def repoB (s : ByteArray) : Bool := decide (s.size ≤ 100) && rep 0 s.data.toList

theorem lowB_not {c : Nat} (h : c = 46 ∨ c = 95 ∨ c = 45 ∨ c = 47) : lowB c = false := by
  rcases h with h | h | h | h <;> subst h <;> rfl

theorem rep_low (q : Nat) (c : UInt8) (l : List UInt8) (h : lowB c.toNat = true) : rep q (c :: l) = rep 1 l := by rw [rep, if_pos h]
theorem prt_low (q : Nat) (c : UInt8) (l : List UInt8) (h : lowB c.toNat = true) : prt q (c :: l) = prt 1 l := by rw [prt, if_pos h]

/-- Parts and the /s between them. -/
theorem rep_cut (a b : List UInt8) : ∀ q, (∀ c ∈ a, c.toNat ≠ 47) → ∀ d : UInt8, d.toNat = 47 → rep q (a ++ d :: b) = (prt q a && rep 0 b) := by
  induction a with
  | nil =>
    intro q _ d hd
    have h1 := lowB_not (c := d.toNat) (by omega)
    have h2 : lowB 47 = false := rfl
    by_cases hq : q = 1 <;> simp [rep, prt, h2, hd, hq]
  | cons c a ih =>
    intro q h d hd
    have hc : c.toNat ≠ 47 := h c (by simp)
    have ih2 := fun q => ih q (fun x hx => h x (by simp [hx])) d hd
    rw [List.cons_append, rep, prt]
    simp only [ih2]
    have hc2 : ¬ (q = 1 ∧ c.toNat = 47) := fun h => hc h.2
    rw [if_neg hc2]
    repeat' split
    all_goals simp
theorem rep_last (a : List UInt8) : ∀ q, (∀ c ∈ a, c.toNat ≠ 47) → rep q a = prt q a := by
  induction a with
  | nil => intro q _; rfl
  | cons c a ih =>
    intro q h
    have hc : c.toNat ≠ 47 := h c (by simp)
    have ih2 := fun q => ih q (fun x hx => h x (by simp [hx]))
    rw [rep, prt]
    simp only [ih2]
    have hc2 : ¬ (q = 1 ∧ c.toNat = 47) := fun h => hc h.2
    rw [if_neg hc2]

/-- A mark: . _ __ or some -. -/
def mrk (m : List UInt8) : Bool := (m == [46]) || (m == [95]) || (m == [95, 95]) || (!m.isEmpty && m.all fun c => c.toNat == 45)

theorem u8 {c : UInt8} {n : Nat} (hn : n < 256) (h : c.toNat = n) : c = UInt8.ofNat n := by
  apply UInt8.toNat_inj.1
  rw [h, UInt8.toNat_ofNat']
  omega

theorem prt_hyph (m r : List UInt8) (c : UInt8) (hc : lowB c.toNat = true) (hm : ∀ x ∈ m, lowB x.toNat = false) : prt 4 (m ++ c :: r) = ((m.all fun c => c.toNat == 45) && prt 1 r) := by
  induction m with
  | nil => simp [prt_low _ _ _ hc]
  | cons x m ih =>
    have hx := hm x (by simp)
    have ih2 := ih (fun y hy => hm y (by simp [hy]))
    rw [List.cons_append, prt, hx]
    by_cases h : x.toNat = 45
    · simp [h, ih2]
    · simp [h]

theorem prt_mark (m r : List UInt8) (c : UInt8) (hc : lowB c.toNat = true) (hm : ∀ x ∈ m, lowB x.toNat = false) : prt 1 (m ++ c :: r) = ((m.isEmpty || mrk m) && prt 1 r) := by
  cases m with
  | nil => simp [prt_low _ _ _ hc]
  | cons x m =>
    have hx := hm x (by simp)
    have hm2 : ∀ y ∈ m, lowB y.toNat = false := fun y hy => hm y (by simp [hy])
    rw [List.cons_append, prt, hx]
    simp only [Bool.false_eq_true, if_false, true_and]
    by_cases h1 : x.toNat = 46
    · obtain rfl := u8 (by omega) h1
      rw [if_pos h1]
      cases m with
      | nil => simp [prt_low _ _ _ hc, mrk]
      | cons y m =>
        have hy := hm2 y (by simp)
        rw [List.cons_append, prt, hy]
        simp [mrk]
    · rw [if_neg h1]
      by_cases h2 : x.toNat = 95
      · obtain rfl := u8 (by omega) h2
        rw [if_pos h2]
        cases m with
        | nil => simp [prt_low _ _ _ hc, mrk]
        | cons y m =>
          have hy := hm2 y (by simp)
          have hm3 : ∀ y ∈ m, lowB y.toNat = false := fun z hz => hm2 z (by simp [hz])
          rw [List.cons_append, prt, hy]
          by_cases h3 : y.toNat = 95
          · obtain rfl := u8 (by omega) h3
            cases m with
            | nil => simp [prt_low _ _ _ hc, mrk]
            | cons z m =>
              have hz := hm3 z (by simp)
              simp only [Bool.false_eq_true, if_false]
              rw [if_neg (by omega), if_neg (by omega), if_neg (by omega), if_pos ⟨by trivial, h3⟩, List.cons_append, prt, hz]
              simp [mrk]
          · have h4 : ¬ y = 95 := fun e => h3 (by rw [e]; rfl)
            simp [h3, mrk, h4]
      · rw [if_neg h2]
        by_cases h3 : x.toNat = 45
        · rw [if_pos h3, prt_hyph m r c hc hm2]
          obtain rfl := u8 (by omega) h3
          simp [mrk]
        · have e1 : ¬ x = 46 := fun e => h1 (by rw [e]; rfl)
          have e2 : ¬ x = 95 := fun e => h2 (by rw [e]; rfl)
          simp [h3, mrk, e1, e2]

/-! ### What the scanner takes: a word, a mark -/
def wd : List UInt8 → Nat
  | [] => 0
  | c :: l => if lowB c.toNat then wd l + 1 else 0
theorem wd_le (l : List UInt8) : wd l ≤ l.length := by
  induction l with
  | nil => simp [wd]
  | cons c l ih => rw [wd]; split <;> simp <;> omega
theorem wd_drop (l : List UInt8) : ∀ k, k ≤ wd l → wd l = k + wd (l.drop k) := by
  induction l with
  | nil => intro k h; simp [wd] at h ⊢; omega
  | cons c l ih =>
    intro k h
    cases k with
    | zero => simp
    | succ k =>
      rw [wd] at h ⊢
      split at h
      · rename_i hc
        rw [if_pos hc, List.drop_succ_cons, ih k (by omega)]
        omega
      · omega
theorem wd_low (l : List UInt8) (k : Nat) (h : k < l.length) (hl : lowB l[k].toNat = true) : wd (l.drop k) = 1 + wd (l.drop (k + 1)) := by
  rw [List.drop_eq_getElem_cons h, wd, if_pos hl, Nat.add_comm]
theorem wd_not (l : List UInt8) (k : Nat) (h : k < l.length) (hl : lowB l[k].toNat = false) : wd (l.drop k) = 0 := by
  rw [List.drop_eq_getElem_cons h, wd, if_neg (by simp [hl])]
theorem wd_end (l : List UInt8) (k : Nat) (h : l.length ≤ k) : wd (l.drop k) = 0 := by
  rw [List.drop_of_length_le h, wd]
/-- Nothing of a word stands at the beginning. -/
def noWd : List UInt8 → Prop
  | [] => True
  | c :: _ => lowB c.toNat = false
theorem noWd_drop (l : List UInt8) : noWd (l.drop (wd l)) := by
  induction l with
  | nil => simp [wd, noWd]
  | cons c l ih =>
    rw [wd]
    split
    · simpa using ih
    · rename_i h; simpa [noWd] using h
theorem rep_wd1 (l : List UInt8) : rep 1 l = rep 1 (l.drop (wd l)) := by
  induction l with
  | nil => simp [wd]
  | cons c l ih =>
    rw [wd]
    split
    · rename_i h
      rw [rep_low _ _ _ h, List.drop_succ_cons]; exact ih
    · simp
theorem rep_wd (l : List UInt8) : rep 0 l = (decide (0 < wd l) && rep 1 (l.drop (wd l))) := by
  cases l with
  | nil => simp [wd, rep]
  | cons c l =>
    rw [wd]
    split
    · rename_i h
      rw [rep_low _ _ _ h, List.drop_succ_cons, rep_wd1 l]
      simp
    · rename_i h
      simp [rep, h]
def hy : List UInt8 → Nat
  | [] => 0
  | c :: l => if c.toNat = 45 then hy l + 1 else 0
theorem hy_le (l : List UInt8) : hy l ≤ l.length := by
  induction l with
  | nil => simp [hy]
  | cons c l ih => rw [hy]; split <;> simp <;> omega
theorem hy_yes (c : UInt8) (l : List UInt8) (h : c.toNat = 45) : hy (c :: l) = hy l + 1 := by rw [hy, if_pos h]
theorem hy_no (c : UInt8) (l : List UInt8) (h : ¬ c.toNat = 45) : hy (c :: l) = 0 := by rw [hy, if_neg h]
/-- How many bytes the mark at the beginning takes. -/
def un : List UInt8 → Nat
  | [] => 1
  | d :: _ => if d.toNat = 95 then 2 else 1
def mk : List UInt8 → Nat
  | [] => 0
  | c :: l => if c.toNat = 95 then un l else if c.toNat = 46 then 1 else hy (c :: l)
theorem mk_le (l : List UInt8) : mk l ≤ l.length := by
  cases l with
  | nil => simp [mk]
  | cons c l =>
    rw [mk]
    split
    · cases l with
      | nil => simp [un]
      | cons d l => simp only [un]; split <;> simp
    · split
      · simp
      · exact hy_le _
theorem rep_two (l : List UInt8) : rep 2 l = rep 0 l := by cases l <;> simp [rep]
theorem rep_hy (l : List UInt8) : rep 4 l = rep 0 (l.drop (hy l)) := by
  induction l with
  | nil => simp [hy, rep]
  | cons c l ih =>
    by_cases h : c.toNat = 45
    · rw [hy_yes c l h, List.drop_succ_cons, ← ih, rep, lowB_not (by omega)]
      simp [h]
    · rw [hy_no c l h]
      simp [rep, h]
theorem rep_mk (l : List UInt8) (h : 0 < mk l) : rep 1 l = rep 0 (l.drop (mk l)) := by
  cases l with
  | nil => simp [mk] at h
  | cons c l =>
    rw [mk] at h ⊢
    by_cases h1 : c.toNat = 95
    · rw [if_pos h1, rep, lowB_not (by omega)]
      rw [if_neg (by simp), if_neg (by omega), if_pos ⟨rfl, h1⟩]
      cases l with
      | nil => simp [rep, un]
      | cons d l =>
        simp only [un]
        by_cases h2 : d.toNat = 95
        · rw [if_pos h2, rep, lowB_not (by omega)]
          rw [if_neg (by simp), if_neg (by omega), if_neg (by omega), if_neg (by omega), if_neg (by omega), if_pos ⟨rfl, h2⟩]
          exact rep_two l
        · rw [if_neg h2]
          simp [rep, h2]
    · rw [if_neg h1] at h ⊢
      by_cases h2 : c.toNat = 46
      · rw [if_pos h2, rep, lowB_not (by omega)]
        rw [if_neg (by simp), if_pos ⟨rfl, h2⟩]
        exact rep_two l
      · rw [if_neg h2] at h ⊢
        by_cases h3 : c.toNat = 45
        · rw [hy_yes c l h3, rep, lowB_not (by omega)]
          rw [if_neg (by simp), if_neg (by omega), if_neg (by omega), if_pos ⟨rfl, h3⟩, rep_hy]
          simp
        · rw [hy_no c l h3] at h; omega
theorem rep_no (c : UInt8) (l : List UInt8) (hw : lowB c.toNat = false) (h : mk (c :: l) = 0) (h2 : ¬ c.toNat = 47) : rep 1 (c :: l) = false := by
  rw [mk] at h
  have e1 : ¬ c.toNat = 95 := by
    intro e
    rw [if_pos e] at h
    cases l with
    | nil => simp [un] at h
    | cons d l => simp only [un] at h; split at h <;> omega
  rw [if_neg e1] at h
  have e2 : ¬ c.toNat = 46 := by intro e; rw [if_pos e] at h; omega
  rw [if_neg e2] at h
  have e3 : ¬ c.toNat = 45 := by intro e; rw [hy_yes c l e] at h; omega
  simp [rep, hw, e1, e2, e3, h2]
theorem rep_slash (c : UInt8) (l : List UInt8) (h : c.toNat = 47) : rep 1 (c :: l) = rep 0 l := by
  rw [rep, lowB_not (by omega)]
  simp [h]
end Plain
end Go.Proofs.YtliklijcdcfomaaGreat


/- References as plain mathematics: where the first of two signs stands, what is read of a text, what is written. -/
namespace Go.Proofs.YtliklijcdcfomaaGreat
open Go.RowKit Plain
set_option linter.unusedVariables false
namespace Plain
/-- The place of the first byte that is a or b; the length: there is none. -/
def fd (a b : Nat) : List UInt8 → Nat
  | [] => 0
  | c :: l => if c.toNat = a ∨ c.toNat = b then 0 else fd a b l + 1
theorem fd_le (a b : Nat) (l : List UInt8) : fd a b l ≤ l.length := by
  induction l with
  | nil => simp [fd]
  | cons c l ih => rw [fd]; split <;> simp <;> omega
theorem fd_yes (a b : Nat) (l : List UInt8) (k : Nat) (h : k < l.length) (hc : l[k].toNat = a ∨ l[k].toNat = b) : fd a b (l.drop k) = 0 := by
  rw [List.drop_eq_getElem_cons h, fd, if_pos hc]
theorem fd_no (a b : Nat) (l : List UInt8) (k : Nat) (h : k < l.length) (hc : ¬ (l[k].toNat = a ∨ l[k].toNat = b)) : fd a b (l.drop k) = fd a b (l.drop (k + 1)) + 1 := by
  rw [List.drop_eq_getElem_cons h, fd, if_neg hc]
theorem fd_end (a b : Nat) (l : List UInt8) (k : Nat) (h : l.length ≤ k) : fd a b (l.drop k) = 0 := by
  rw [List.drop_of_length_le h, fd]
theorem fd_at (a b : Nat) (l : List UInt8) (h : fd a b l < l.length) : (l[fd a b l]).toNat = a ∨ (l[fd a b l]).toNat = b := by
  induction l with
  | nil => simp at h
  | cons c l ih =>
    by_cases hc : c.toNat = a ∨ c.toNat = b
    · have e : fd a b (c :: l) = 0 := by rw [fd, if_pos hc]
      simpa [e] using hc
    · have e : fd a b (c :: l) = fd a b l + 1 := by rw [fd, if_neg hc]
      have h2 : fd a b l < l.length := by rw [e] at h; simpa using h
      simpa [e] using ih h2
theorem fd_ahead (a b : Nat) (l : List UInt8) (k : Nat) (hk : k < fd a b l) (h : k < l.length) : ¬ (l[k].toNat = a ∨ l[k].toNat = b) := by
  induction l generalizing k with
  | nil => simp at h
  | cons c l ih =>
    by_cases hc : c.toNat = a ∨ c.toNat = b
    · rw [fd, if_pos hc] at hk; omega
    · rw [fd, if_neg hc] at hk
      cases k with
      | zero => simpa using hc
      | succ k => simpa using ih k (by omega) (by simpa using h)
/-- The first of two signs: the first a in what stands ahead of the first b. -/
theorem fd_two (a b : Nat) (l : List UInt8) : fd a a (l.take (fd b b l)) = fd a b l := by
  induction l with
  | nil => simp [fd]
  | cons c l ih =>
    by_cases hb : c.toNat = b
    · rw [fd, if_pos (.inl hb), fd, if_pos (.inr hb)]; simp [fd]
    · rw [fd, if_neg (by omega), List.take_succ_cons, fd, fd, ih]
      by_cases ha : c.toNat = a
      · rw [if_pos (.inl ha), if_pos (.inl ha)]
      · rw [if_neg (by omega), if_neg (by omega)]
theorem fd_min (a b : Nat) (l : List UInt8) : fd a b l ≤ fd b b l := by
  rw [← fd_two]; have := fd_le a a (l.take (fd b b l)); have := List.length_take_le (fd b b l) l; omega
/-- Behind the first of the two: the first b. -/
theorem fd_back (a b : Nat) (l : List UInt8) : fd a b l + fd b b (l.drop (fd a b l)) = fd b b l := by
  induction l with
  | nil => simp [fd]
  | cons c l ih =>
    rw [fd]
    by_cases h : c.toNat = a ∨ c.toNat = b
    · rw [if_pos h]; simp
    · rw [if_neg h, List.drop_succ_cons, fd.eq_2 b b c l, if_neg (by omega)]
      omega
/-- The sign at the first of two is a just where the first b stands behind it. -/
theorem fd_sign (a b : Nat) (hab : a ≠ b) (l : List UInt8) (h : fd a b l < l.length) : ((l[fd a b l]).toNat = a ↔ fd a b l < fd b b l) := by
  induction l with
  | nil => simp at h
  | cons c l ih =>
    by_cases hc : c.toNat = a ∨ c.toNat = b
    · have e : fd a b (c :: l) = 0 := by rw [fd, if_pos hc]
      simp only [e, List.getElem_cons_zero]
      by_cases hb : c.toNat = b
      · rw [fd, if_pos (.inl hb)]
        constructor
        · intro h; omega
        · intro h; omega
      · rw [fd, if_neg (by omega)]
        constructor
        · intro h; omega
        · intro h; omega
    · have e : fd a b (c :: l) = fd a b l + 1 := by rw [fd, if_neg hc]
      have h2 : fd a b l < l.length := by rw [e] at h; simpa using h
      have := ih h2
      simp only [e, List.getElem_cons_succ]
      rw [this, fd.eq_2 b b c l, if_neg (by omega)]
      omega

def tagC (c : Nat) : Bool := lowB c || (decide (65 ≤ c) && decide (c ≤ 90)) || decide (c = 95) || decide (c = 46) || decide (c = 45)
def tagFrom (s : ByteArray) (k : Nat) : Bool := (s.data.toList.drop k).all fun c => tagC c.toNat
theorem tagFrom_step (s : ByteArray) (k : Nat) (h : k < s.size) : tagFrom s k = (tagC s[k].toNat && tagFrom s (k + 1)) := by
  unfold tagFrom
  rw [List.drop_eq_getElem_cons (by simpa using h)]
  rfl
theorem tagFrom_end (s : ByteArray) (k : Nat) (h : s.size ≤ k) : tagFrom s k = true := by
  unfold tagFrom
  rw [List.drop_of_length_le (by simpa using h)]
  rfl
def tagB (s : ByteArray) : Bool := decide (1 ≤ s.size) && decide (s.size ≤ 128) && !decide ((s.data.toList.headD 0).toNat = 46) && !decide ((s.data.toList.headD 0).toNat = 45) && tagFrom s 0
theorem tagB_size {s : ByteArray} (h : s.size < 1 ∨ 128 < s.size) : tagB s = false := by
  unfold tagB; rcases h with h | h
  · rw [show decide (1 ≤ s.size) = false from by simpa using (by omega : s.size = 0)]; simp
  · rw [show decide (s.size ≤ 128) = false from by simpa using h]; simp
theorem headD_0 (s : ByteArray) (h : 0 < s.size) : s.data.toList.headD 0 = s[0] := by
  have e := List.drop_eq_getElem_cons (l := s.data.toList) (i := 0) (by simpa using h)
  rw [List.drop_zero] at e
  rw [e]; rfl
theorem tagB_first {s : ByteArray} (h : 0 < s.size) (h2 : s[0].toNat = 46 ∨ s[0].toNat = 45) : tagB s = false := by
  unfold tagB; rw [headD_0 s h]; rcases h2 with h2 | h2 <;> simp [h2]
theorem tagB_rest {s : ByteArray} (h : 1 ≤ s.size) (h1 : s.size ≤ 128) (h2 : ¬ s[0].toNat = 46) (h3 : ¬ s[0].toNat = 45) : tagB s = tagFrom s 0 := by
  unfold tagB; rw [headD_0 s h]; simp [h, h1, h2, h3]

end Plain
end Go.Proofs.YtliklijcdcfomaaGreat


/- A text cut at a sign: the specification's l3Cut by its contract. -/
namespace Go.Proofs.YtliklijcdcfomaaGreat
open Go.RowKit Plain
set_option linter.unusedVariables false

namespace Plain
def splt (m : Nat) : List UInt8 → List (List UInt8)
  | [] => [[]]
  | c :: l => if c.toNat = m then [] :: splt m l else match splt m l with
    | [] => [[c]]
    | h :: t => (c :: h) :: t
theorem splt_ne (m : Nat) (l : List UInt8) : ∃ h t, splt m l = h :: t := by
  induction l with
  | nil => exact ⟨[], [], rfl⟩
  | cons c l ih =>
    obtain ⟨h, t, e⟩ := ih
    rw [splt, e]
    split
    · exact ⟨_, _, rfl⟩
    · exact ⟨_, _, rfl⟩
theorem splt_end (m : Nat) (a : List UInt8) (h : ∀ x ∈ a, x.toNat ≠ m) : splt m a = [a] := by
  induction a with
  | nil => rfl
  | cons c l ih => rw [splt, if_neg (h c (by simp)), ih (fun x hx => h x (by simp [hx]))]
theorem splt_at (m : Nat) (a b : List UInt8) (d : UInt8) (hd : d.toNat = m) (h : ∀ x ∈ a, x.toNat ≠ m) : splt m (a ++ d :: b) = a :: splt m b := by
  induction a with
  | nil => rw [List.nil_append, splt, if_pos hd]
  | cons c l ih => rw [List.cons_append, splt, if_neg (h c (by simp)), ih (fun x hx => h x (by simp [hx]))]
theorem splt_len (m : Nat) (l : List UInt8) : (splt m l).length ≤ l.length + 1 := by
  induction l with
  | nil => simp [splt]
  | cons c l ih =>
    obtain ⟨h, t, e⟩ := splt_ne m l
    rw [e] at ih
    rw [splt, e]
    split <;> simp at ih ⊢ <;> omega
def toB (l : List UInt8) : ByteArray := ⟨l.toArray⟩
theorem toB_list (l : List UInt8) : (toB l).data.toList = l := rfl
theorem toB_of (s : ByteArray) : toB s.data.toList = s := rfl
theorem ext_mid (s : ByteArray) (a b : Nat) : s.extract a b = toB ((s.data.toList.drop a).take (b - a)) := by
  apply ByteArray.ext
  rw [ByteArray.data_extract]
  apply Array.toList_inj.1
  rw [Array.toList_extract, List.extract_eq_take_drop]
  rfl
def cutB (m : Nat) (s : ByteArray) : List ByteArray := (splt m s.data.toList).map toB
theorem len_data (s : ByteArray) : s.data.toList.length = s.size := Array.length_toList
theorem mid_snoc (l : List UInt8) (F k : Nat) (h : k < l.length) (hF : F ≤ k) : (l.drop F).take (k + 1 - F) = (l.drop F).take (k - F) ++ [l[k]] := by
  rw [show k + 1 - F = (k - F) + 1 from by omega, List.take_succ_eq_append_getElem (by rw [List.length_drop]; omega)]
  congr 2
  rw [List.getElem_drop]
  congr 1
  omega
theorem mid_cons (l : List UInt8) (F k : Nat) (h : k < l.length) (hF : F ≤ k) : l.drop F = (l.drop F).take (k - F) ++ l[k] :: l.drop (k + 1) := by
  have e := (List.take_append_drop (k - F) (l.drop F)).symm
  rw [List.drop_drop, show F + (k - F) = k from by omega, List.drop_eq_getElem_cons h] at e
  exact e
theorem map_snoc {α β : Type} (f : α → β) (xs : List β) (a : α) (l : List α) : xs ++ (a :: l).map f = (xs ++ [f a]) ++ l.map f := by simp
def emp (t : ByteArray) : Bool := t.toList.isEmpty
theorem emp_size (t : ByteArray) : emp t = decide (t.size = 0) := by
  unfold emp
  rw [ByteArray.toList_eq, Bool.eq_iff_iff, List.isEmpty_iff]
  simp only [decide_eq_true_eq]
  rw [← len_data]
  exact List.length_eq_zero_iff.symm
theorem emp_eq {t : ByteArray} (h : emp t = true) : t = ⟨#[]⟩ := by
  rw [emp_size] at h
  have h0 : t.size = 0 := by simpa using h
  apply ByteArray.ext
  exact Array.eq_empty_of_size_eq_zero h0
end Plain

end Go.Proofs.YtliklijcdcfomaaGreat

/- Rows of texts, as the exact laws copy, measure and compare them. -/
namespace Go.Proofs.YtliklijcdcfomaaGreat
open Go.RowKit Plain
set_option linter.unusedVariables false

namespace Plain
/-- The slice at a holds the texts ls. -/
def StrsAt (W : World) (a : Option Addr) (ls : List ByteArray) : Prop := ∀ i (h : i < ls.length), ∃ g o, a = some ⟨g, o, none⟩ ∧ g < W.heap.size ∧ W.cell? ⟨g, o + i, none⟩ = some (.string ls[i])
theorem StrsAt.below {W W' : World} {a : Option Addr} {ls : List ByteArray} (h : StrsAt W a ls) (hb : Below W.heap.size W W') : StrsAt W' a ls := fun i hi => by
  obtain ⟨g, o, e, hl, hc⟩ := h i hi
  exact ⟨g, o, e, Nat.lt_of_lt_of_le hl hb.size, (hb.cell (p := ⟨g, o + i, none⟩) hl).trans hc⟩
theorem StrsAt.via {W W' : World} {B : Nat} {a : Option Addr} {ls : List ByteArray} (h : StrsAt W a ls) (hb : Below B W W') (hB : W.heap.size ≤ B) : StrsAt W' a ls := h.below (hb.mono hB)
/-- An argument that is a slice of texts. -/
def StrsRow (W : World) (a : Option Addr) (n c : Nat) (ls : List ByteArray) : Prop := ls.length = n ∧ n ≤ maxLen ∧ (∀ l ∈ ls, l.size ≤ maxLen) ∧ StrsAt W a ls
theorem StrsAt.of_cells {W : World} {x : Addr} {ss : List ByteArray} {n : Nat} (hn : n ≤ ss.length) (h : ∀ i, i < ss.length → W.cell? (x.add i) = some (.string (ss.getD i ByteArray.empty))) : StrsAt W (some x) (ss.take n) := by
  intro i hi
  rw [List.length_take] at hi
  have hc := h i (by omega)
  obtain ⟨b, off, spot⟩ := x
  have hspot : spot = none := by simpa [Addr.add] using World.cell?_spot (h 0 (by omega))
  subst hspot
  rw [show (⟨b, off, none⟩ : Addr).add i = ⟨b, off + i, none⟩ from by unfold Addr.add; split <;> simp_all] at hc
  refine ⟨b, off, rfl, lt_of_cell hc, ?_⟩
  rw [hc, List.getElem_take, List.getD, List.getElem?_eq_getElem (show i < ss.length by omega), Option.getD_some]
theorem StrsAt.nil (W : World) (a : Option Addr) : StrsAt W a [] := fun i h => by simp at h
end Plain
theorem RowAt.strs {W : World} {a : Option Addr} {xs : List ByteArray} (h : RowAt strE W a xs) : StrsAt W a xs := fun i hi => by
  obtain ⟨g, e, hl, hc, hf⟩ := h.str i hi
  exact ⟨g, 0, e, hl, by rw [Nat.zero_add]; exact hc⟩

theorem flat_str (xs : List ByteArray) : xs.flatMap strE.enc = xs.map Value.string := by
  show xs.flatMap (fun s => [Value.string s]) = _
  induction xs with
  | nil => rfl
  | cons x l ih => rw [List.flatMap_cons, ih]; rfl
theorem OwnR.setS {W : World} {B g n cap k : Nat} {xs : List ByteArray} (h : OwnR strE W B (.slice (some ⟨g, 0, none⟩) n cap) xs) (hn : xs.length = n) (y : ByteArray) :
    OwnR strE (W.setCell ⟨g, k, none⟩ (.string y)) B (.slice (some ⟨g, 0, none⟩) n cap) (xs.set k y) := by
  unfold OwnR at h ⊢
  rw [flat_str] at h ⊢
  rw [List.length_set]
  subst hn
  rw [List.map_set]
  exact (World.ownsRow.stored h k (.string y)).1
def zerosS (n : Nat) : Array Value := madeCells #[.string ⟨#[]⟩] (n * 1)
theorem make_strs (n : Nat) (w : World) (hn : n ≤ 10000000) : (Instr.makeSlice 162 (.int .i64 n) (.int .i64 n)).run Tryz.prog w = .ok (.slice (some ⟨w.heap.size, 0, none⟩) n n) (w.alloc (.cells (zerosS n) 9)) := by
  obtain ⟨i0, hi, hz0, hz1, hz2⟩ := info_parts strE.hinfo
  have hb : i0.bytes = 16 := hz2
  have := run_make w 162 9 i0 (.string ⟨#[]⟩) Tryz.underlying162 hi hz0 .i64 .i64 n n (by omega) (by omega) (by rw [hb]; omega) (by omega)
  have hs : i0.size = 1 := hz1
  rw [hs] at this
  exact this
theorem own_zerosS (n : Nat) (w : World) (hn : n ≤ 10000000) : OwnR strE (w.alloc (.cells (zerosS n) 9)) w.heap.size (.slice (some ⟨w.heap.size, 0, none⟩) n n) (List.replicate n ⟨#[]⟩) := by
  unfold OwnR
  rw [flat_str, List.length_replicate]
  have := World.ownsRow_lit (base := w.heap.size) (e := 9) (size := 1) w (zerosS n) n (Nat.le_refl _) (by unfold maxLen; omega) (by simp [zerosS, size_madeCells])
  rw [show (zerosS n).toList = (List.replicate n (⟨#[]⟩ : ByteArray)).map Value.string from by
    unfold zerosS; rw [toList_madeCells_one, Nat.mul_one, List.map_replicate]] at this
  exact this



namespace Plain
def sumZ (ls : List ByteArray) : Nat := (ls.map fun l => l.size).sum
/-- What is left of a purse behind a row of texts; less than nought: it was too small. -/
def szL (ls : List ByteArray) (left : Int) : Int := if left < ls.length + sumZ ls then -1 else left - (ls.length + sumZ ls)
theorem sumZ_cons (x : ByteArray) (ls : List ByteArray) : sumZ (x :: ls) = x.size + sumZ ls := by simp [sumZ]
theorem sumZ_drop (ls : List ByteArray) (k : Nat) (h : k < ls.length) : sumZ (ls.drop k) = ls[k].size + sumZ (ls.drop (k + 1)) := by rw [List.drop_eq_getElem_cons h, sumZ_cons]
theorem sumZ_end (ls : List ByteArray) (k : Nat) (h : ls.length ≤ k) : sumZ (ls.drop k) = 0 := by rw [List.drop_of_length_le h]; rfl
theorem sumZ_mem (ls : List ByteArray) (x : ByteArray) (h : x ∈ ls) : x.size ≤ sumZ ls := by
  induction ls with
  | nil => simp at h
  | cons y l ih =>
    rw [sumZ_cons]
    rcases List.mem_cons.1 h with rfl | h
    · omega
    · have := ih h; omega
end Plain



end Go.Proofs.YtliklijcdcfomaaGreat

/- Rows that are arguments: read anywhere in their block. -/
namespace Go.Proofs.YtliklijcdcfomaaGreat
open Go.RowKit Plain
set_option linter.unusedVariables false

/-- The slice at a holds xs, each in n cells. -/
def Plain.ArgAt {α : Type} (n : Nat) (en : α → List Value) (W : World) (a : Option Addr) (xs : List α) : Prop := ∀ i (h : i < xs.length), ∃ g o, a = some ⟨g, o, none⟩ ∧ g < W.heap.size ∧ ∀ j, j < n → W.cell? ⟨g, o + i * n + j, none⟩ = (en xs[i])[j]?
theorem Plain.ArgAt.below {α : Type} {n : Nat} {en : α → List Value} {W W' : World} {a : Option Addr} {xs : List α} (h : ArgAt n en W a xs) (hb : Below W.heap.size W W') : ArgAt n en W' a xs := fun i hi => by
  obtain ⟨g, o, e, hl, hc⟩ := h i hi
  exact ⟨g, o, e, Nat.lt_of_lt_of_le hl hb.size, fun j hj => (hb.cell (p := ⟨g, o + i * n + j, none⟩) hl).trans (hc j hj)⟩
/-- An argument that is a slice. -/
structure Plain.ArgRow {α : Type} (n : Nat) (en : α → List Value) (good : α → Prop) (W : World) (a : Option Addr) (k c : Nat) (xs : List α) : Prop where
  len : xs.length = k
  le : k ≤ maxLen
  good : ∀ z ∈ xs, good z
  row : ArgAt n en W a xs

theorem Plain.add2 (b off x j : Nat) : ((⟨b, off, none⟩ : Addr).add x).add j = ⟨b, off + x + j, none⟩ := by unfold Addr.add; split <;> split <;> simp_all
theorem openArg {H : Type} {enc : TypeId × Value → H} {W : World} {spare : Nat → Bool} {held : Bool} {α : Type} (n : Nat) (en : α → List Value) (good : α → Prop) {t e : TypeId} {fuel : Nat} {v : Value} {x : DataW H × List MemPlace}
    (ht : Tryz.prog.underlying t = some (.slice e)) (hc : Tryz.prog.cellsOf e = n) (hn : 0 < n)
    (rd : ∀ m us y, DataW.trod enc Tryz.prog W 0 spare held m e us = some y → ∃ z, us = en z ∧ good z) (h : DataW.trod enc Tryz.prog W 0 spare held fuel t [v] = some x) :
    ∃ a k c xs, v = .slice a k c ∧ ArgRow n en good W a k c xs := by
  rcases DataW.trod_slice ht h with ⟨h0, _⟩ | ⟨a, len, cap, elems, rest, m, _, h1, _, hb, hl, hm, hlen, hel, _, _⟩
  · exact ⟨none, 0, 0, [], by simpa using h0, rfl, Nat.zero_le _, fun z hz => by simp at hz, fun i hi => by simp at hi⟩
  have each : ∀ i : Fin len, ∃ z, (∀ j, j < n → W.cell? ((a.add (i.val * n)).add j) = (en z)[j]?) ∧ (en z).length = n ∧ good z := by
    intro i
    have h2 := hel i.val i.isLt
    rw [hc, List.getElem?_eq_getElem (by rw [hlen]; exact i.isLt), Option.bind_eq_some_iff] at h2
    obtain ⟨us, hus, hy⟩ := h2
    obtain ⟨z, rfl, hg⟩ := rd m us _ hy
    obtain ⟨_, hl2, hcell⟩ := World.cells?_some hus
    exact ⟨z, hcell, hl2, hg⟩
  refine ⟨some a, len, cap, List.ofFn fun i => Classical.choose (each i), by simpa using h1, by simp, Nat.le_trans hl hm, ?_, ?_⟩
  · intro z hz
    rw [List.mem_ofFn] at hz
    obtain ⟨i, rfl⟩ := hz
    exact (Classical.choose_spec (each i)).2.2
  · intro i hi
    have hi2 : i < len := by simpa using hi
    obtain ⟨s1, s2, _⟩ := Classical.choose_spec (each ⟨i, hi2⟩)
    obtain ⟨b, off, spot⟩ := a
    obtain ⟨t1, t2, _⟩ := Classical.choose_spec (each ⟨0, by omega⟩)
    have h0 := t1 0 hn
    rw [List.getElem?_eq_getElem (by rw [t2]; exact hn)] at h0
    have hspot : spot = none := by have h5 := World.cell?_spot h0; simpa [Addr.add] using h5
    subst hspot
    refine ⟨b, off, rfl, ?_, fun j hj => ?_⟩
    · rw [add2] at h0; exact lt_of_cell h0
    · have h4 := s1 j hj
      rw [add2] at h4
      rw [h4, List.getElem_ofFn]

namespace Plain
def fileL (f : ByteArray × ByteArray) : List Value := [.string f.1, .string f.2]
def goodF (f : ByteArray × ByteArray) : Prop := f.1.size ≤ maxLen ∧ f.2.size ≤ maxLen
end Plain

set_option maxRecDepth 100000 in
theorem rdFile {H : Type} {enc : TypeId × Value → H} {W : World} {spare : Nat → Bool} {held : Bool} : ∀ m us y, DataW.trod enc Tryz.prog W 0 spare held m 90 us = some y → ∃ z, us = fileL z ∧ goodF z := by
  intro m us y h
  obtain ⟨y0, y1, k, _, hl, h0, h1⟩ := Go.ChangeShapes.trod_struct2 Tryz.underlying90 h
  have hl2 : us.length = 2 := hl.trans (by kernel_rfl)
  match us, hl2 with
  | [u0, u1], _ =>
    obtain ⟨s0, e0, _, w0⟩ := DataW.trod_string Tryz.underlying9 (show DataW.trod enc Tryz.prog W 0 spare held k 9 [u0] = some y0 from h0)
    obtain ⟨s1, e1, _, w1⟩ := DataW.trod_string Tryz.underlying9 (show DataW.trod enc Tryz.prog W 0 spare held k 9 [u1] = some y1 from h1)
    simp at e0 e1
    subst e0 e1
    exact ⟨(s0, s1), rfl, w0, w1⟩

namespace Plain
/-- An op of a disk. -/
structure Dop where
  kind : Int
  name : ByteArray
  to : ByteArray
  data : ByteArray
/-- An entry of a journal. -/
structure Ent where
  term : Int
  kind : Int
  body : ByteArray
def dopL (o : Dop) : List Value := [.int .i64 o.kind, .string o.name, .string o.to, .string o.data]
def goodO (o : Dop) : Prop := (Lit.int .i64 o.kind).wf = true ∧ o.name.size ≤ maxLen ∧ o.to.size ≤ maxLen ∧ o.data.size ≤ maxLen
def entL (e : Ent) : List Value := [.int .i64 e.term, .int .i64 e.kind, .string e.body]
def goodE (e : Ent) : Prop := (Lit.int .i64 e.term).wf = true ∧ (Lit.int .i64 e.kind).wf = true ∧ e.body.size ≤ maxLen
end Plain

set_option maxRecDepth 100000 in
theorem rdDop {H : Type} {enc : TypeId × Value → H} {W : World} {spare : Nat → Bool} {held : Bool} : ∀ m us y, DataW.trod enc Tryz.prog W 0 spare held m 92 us = some y → ∃ z, us = dopL z ∧ goodO z := by
  intro m us y h
  obtain ⟨y0, y1, y2, y3, k, _, hl, h0, h1, h2, h3⟩ := Go.Joins.trod_struct4 Tryz.underlying92 h
  have hl2 : us.length = 4 := hl.trans (by kernel_rfl)
  match us, hl2 with
  | [u0, u1, u2, u3], _ =>
    obtain ⟨s0, e0, _, w0⟩ := DataW.trod_int Tryz.underlying2 (show DataW.trod enc Tryz.prog W 0 spare held k 2 [u0] = some y0 from h0)
    obtain ⟨s1, e1, _, w1⟩ := DataW.trod_string Tryz.underlying9 (show DataW.trod enc Tryz.prog W 0 spare held k 9 [u1] = some y1 from h1)
    obtain ⟨s2, e2, _, w2⟩ := DataW.trod_string Tryz.underlying9 (show DataW.trod enc Tryz.prog W 0 spare held k 9 [u2] = some y2 from h2)
    obtain ⟨s3, e3, _, w3⟩ := DataW.trod_string Tryz.underlying9 (show DataW.trod enc Tryz.prog W 0 spare held k 9 [u3] = some y3 from h3)
    simp at e0 e1 e2 e3
    subst e0 e1 e2 e3
    exact ⟨⟨s0, s1, s2, s3⟩, rfl, w0, w1, w2, w3⟩

set_option maxRecDepth 100000 in
theorem rdEnt {H : Type} {enc : TypeId × Value → H} {W : World} {spare : Nat → Bool} {held : Bool} : ∀ m us y, DataW.trod enc Tryz.prog W 0 spare held m 69 us = some y → ∃ z, us = entL z ∧ goodE z := by
  intro m us y h
  obtain ⟨xs, k, _, _, hl, hlen, hf⟩ := DataW.trod_struct Tryz.underlying69 h
  have hl2 : us.length = 3 := hl.trans (by kernel_rfl)
  match us, hl2, xs, hlen with
  | [u0, u1, u2], _, [y0, y1, y2], _ =>
    obtain ⟨s0, e0, _, w0⟩ := DataW.trod_int Tryz.underlying2 (show DataW.trod enc Tryz.prog W 0 spare held k 2 [u0] = some y0 from hf 0 _ rfl)
    obtain ⟨s1, e1, _, w1⟩ := DataW.trod_int Tryz.underlying2 (show DataW.trod enc Tryz.prog W 0 spare held k 2 [u1] = some y1 from hf 1 _ rfl)
    obtain ⟨s2, e2, _, w2⟩ := DataW.trod_string Tryz.underlying9 (show DataW.trod enc Tryz.prog W 0 spare held k 9 [u2] = some y2 from hf 2 _ rfl)
    simp at e0 e1 e2
    subst e0 e1 e2
    exact ⟨⟨s0, s1, s2⟩, rfl, w0, w1, w2⟩
end Go.Proofs.YtliklijcdcfomaaGreat

