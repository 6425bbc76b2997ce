/- Names of repositories as plain mathematics: one automaton over the bytes, which both programs follow. -/
import Derived.Test.YtmgjkomgpkoenaaGreatPlain
namespace Go.Proofs.YtmgjkomgpkoenaaGreat
open Go.RowKit Plain
set_option linter.unusedVariables false
namespace Plain
def lowB (c : Nat) : Bool := (decide (97 ≤ c) && decide (c ≤ 122)) || (decide (48 ≤ c) && decide (c ≤ 57))
/-- What stands ahead: 0 the beginning of a part, 1 a word, 2 a mark that is whole, 3 one _, 4 some -. -/
def rep (q : Nat) : List UInt8 → Bool
  | [] => decide (q = 1)
  | c :: l =>
    if lowB c.toNat then rep 1 l
    else if q = 1 ∧ c.toNat = 46 then rep 2 l
    else if q = 1 ∧ c.toNat = 95 then rep 3 l
    else if q = 1 ∧ c.toNat = 45 then rep 4 l
    else if q = 1 ∧ c.toNat = 47 then rep 0 l
    else if q = 3 ∧ c.toNat = 95 then rep 2 l
    else if q = 4 ∧ c.toNat = 45 then rep 4 l
    else false
/-- The same of one part: a / is no sign of it. -/
def prt (q : Nat) : List UInt8 → Bool
  | [] => decide (q = 1)
  | c :: l =>
    if lowB c.toNat then prt 1 l
    else if q = 1 ∧ c.toNat = 46 then prt 2 l
    else if q = 1 ∧ c.toNat = 95 then prt 3 l
    else if q = 1 ∧ c.toNat = 45 then prt 4 l
    else if q = 3 ∧ c.toNat = 95 then prt 2 l
    else if q = 4 ∧ c.toNat = 45 then prt 4 l
    else false
def repoB (s : ByteArray) : Bool := decide (s.size ≤ 100) && rep 0 s.data.toList

theorem lowB_not {c : Nat} (h : c = 46 ∨ c = 95 ∨ c = 45 ∨ c = 47) : lowB c = false := by
  rcases h with h | h | h | h <;> subst h <;> rfl

theorem rep_low (q : Nat) (c : UInt8) (l : List UInt8) (h : lowB c.toNat = true) : rep q (c :: l) = rep 1 l := by rw [rep, if_pos h]
theorem prt_low (q : Nat) (c : UInt8) (l : List UInt8) (h : lowB c.toNat = true) : prt q (c :: l) = prt 1 l := by rw [prt, if_pos h]

/-- Parts and the /s between them. -/
theorem rep_cut (a b : List UInt8) : ∀ q, (∀ c ∈ a, c.toNat ≠ 47) → ∀ d : UInt8, d.toNat = 47 → rep q (a ++ d :: b) = (prt q a && rep 0 b) := by
  induction a with
  | nil =>
    intro q _ d hd
    have h1 := lowB_not (c := d.toNat) (by omega)
    have h2 : lowB 47 = false := rfl
    by_cases hq : q = 1 <;> simp [rep, prt, h2, hd, hq]
  | cons c a ih =>
    intro q h d hd
    have hc : c.toNat ≠ 47 := h c (by simp)
    have ih2 := fun q => ih q (fun x hx => h x (by simp [hx])) d hd
    rw [List.cons_append, rep, prt]
    simp only [ih2]
    have hc2 : ¬ (q = 1 ∧ c.toNat = 47) := fun h => hc h.2
    rw [if_neg hc2]
    repeat' split
    all_goals simp
theorem rep_last (a : List UInt8) : ∀ q, (∀ c ∈ a, c.toNat ≠ 47) → rep q a = prt q a := by
  induction a with
  | nil => intro q _; rfl
  | cons c a ih =>
    intro q h
    have hc : c.toNat ≠ 47 := h c (by simp)
    have ih2 := fun q => ih q (fun x hx => h x (by simp [hx]))
    rw [rep, prt]
    simp only [ih2]
    have hc2 : ¬ (q = 1 ∧ c.toNat = 47) := fun h => hc h.2
    rw [if_neg hc2]

/-- A mark: . _ __ or some -. -/
def mrk (m : List UInt8) : Bool := (m == [46]) || (m == [95]) || (m == [95, 95]) || (!m.isEmpty && m.all fun c => c.toNat == 45)

theorem u8 {c : UInt8} {n : Nat} (hn : n < 256) (h : c.toNat = n) : c = UInt8.ofNat n := by
  apply UInt8.toNat_inj.1
  rw [h, UInt8.toNat_ofNat']
  omega

theorem prt_hyph (m r : List UInt8) (c : UInt8) (hc : lowB c.toNat = true) (hm : ∀ x ∈ m, lowB x.toNat = false) : prt 4 (m ++ c :: r) = ((m.all fun c => c.toNat == 45) && prt 1 r) := by
  induction m with
  | nil => simp [prt_low _ _ _ hc]
  | cons x m ih =>
    have hx := hm x (by simp)
    have ih2 := ih (fun y hy => hm y (by simp [hy]))
    rw [List.cons_append, prt, hx]
    by_cases h : x.toNat = 45
    · simp [h, ih2]
    · simp [h]

theorem prt_mark (m r : List UInt8) (c : UInt8) (hc : lowB c.toNat = true) (hm : ∀ x ∈ m, lowB x.toNat = false) : prt 1 (m ++ c :: r) = ((m.isEmpty || mrk m) && prt 1 r) := by
  cases m with
  | nil => simp [prt_low _ _ _ hc]
  | cons x m =>
    have hx := hm x (by simp)
    have hm2 : ∀ y ∈ m, lowB y.toNat = false := fun y hy => hm y (by simp [hy])
    rw [List.cons_append, prt, hx]
    simp only [Bool.false_eq_true, if_false, true_and]
    by_cases h1 : x.toNat = 46
    · obtain rfl := u8 (by omega) h1
      rw [if_pos h1]
      cases m with
      | nil => simp [prt_low _ _ _ hc, mrk]
      | cons y m =>
        have hy := hm2 y (by simp)
        rw [List.cons_append, prt, hy]
        simp [mrk]
    · rw [if_neg h1]
      by_cases h2 : x.toNat = 95
      · obtain rfl := u8 (by omega) h2
        rw [if_pos h2]
        cases m with
        | nil => simp [prt_low _ _ _ hc, mrk]
        | cons y m =>
          have hy := hm2 y (by simp)
          have hm3 : ∀ y ∈ m, lowB y.toNat = false := fun z hz => hm2 z (by simp [hz])
          rw [List.cons_append, prt, hy]
          by_cases h3 : y.toNat = 95
          · obtain rfl := u8 (by omega) h3
            cases m with
            | nil => simp [prt_low _ _ _ hc, mrk]
            | cons z m =>
              have hz := hm3 z (by simp)
              simp only [Bool.false_eq_true, if_false]
              rw [if_neg (by omega), if_neg (by omega), if_neg (by omega), if_pos ⟨by trivial, h3⟩, List.cons_append, prt, hz]
              simp [mrk]
          · have h4 : ¬ y = 95 := fun e => h3 (by rw [e]; rfl)
            simp [h3, mrk, h4]
      · rw [if_neg h2]
        by_cases h3 : x.toNat = 45
        · rw [if_pos h3, prt_hyph m r c hc hm2]
          obtain rfl := u8 (by omega) h3
          simp [mrk]
        · have e1 : ¬ x = 46 := fun e => h1 (by rw [e]; rfl)
          have e2 : ¬ x = 95 := fun e => h2 (by rw [e]; rfl)
          simp [h3, mrk, e1, e2]

/-! ### What the scanner takes: a word, a mark -/
def wd : List UInt8 → Nat
  | [] => 0
  | c :: l => if lowB c.toNat then wd l + 1 else 0
theorem wd_le (l : List UInt8) : wd l ≤ l.length := by
  induction l with
  | nil => simp [wd]
  | cons c l ih => rw [wd]; split <;> simp <;> omega
theorem wd_drop (l : List UInt8) : ∀ k, k ≤ wd l → wd l = k + wd (l.drop k) := by
  induction l with
  | nil => intro k h; simp [wd] at h ⊢; omega
  | cons c l ih =>
    intro k h
    cases k with
    | zero => simp
    | succ k =>
      rw [wd] at h ⊢
      split at h
      · rename_i hc
        rw [if_pos hc, List.drop_succ_cons, ih k (by omega)]
        omega
      · omega
theorem wd_low (l : List UInt8) (k : Nat) (h : k < l.length) (hl : lowB l[k].toNat = true) : wd (l.drop k) = 1 + wd (l.drop (k + 1)) := by
  rw [List.drop_eq_getElem_cons h, wd, if_pos hl, Nat.add_comm]
theorem wd_not (l : List UInt8) (k : Nat) (h : k < l.length) (hl : lowB l[k].toNat = false) : wd (l.drop k) = 0 := by
  rw [List.drop_eq_getElem_cons h, wd, if_neg (by simp [hl])]
theorem wd_end (l : List UInt8) (k : Nat) (h : l.length ≤ k) : wd (l.drop k) = 0 := by
  rw [List.drop_of_length_le h, wd]
/-- Nothing of a word stands at the beginning. -/
def noWd : List UInt8 → Prop
  | [] => True
  | c :: _ => lowB c.toNat = false
theorem noWd_drop (l : List UInt8) : noWd (l.drop (wd l)) := by
  induction l with
  | nil => simp [wd, noWd]
  | cons c l ih =>
    rw [wd]
    split
    · simpa using ih
    · rename_i h; simpa [noWd] using h
theorem rep_wd1 (l : List UInt8) : rep 1 l = rep 1 (l.drop (wd l)) := by
  induction l with
  | nil => simp [wd]
  | cons c l ih =>
    rw [wd]
    split
    · rename_i h
      rw [rep_low _ _ _ h, List.drop_succ_cons]; exact ih
    · simp
theorem rep_wd (l : List UInt8) : rep 0 l = (decide (0 < wd l) && rep 1 (l.drop (wd l))) := by
  cases l with
  | nil => simp [wd, rep]
  | cons c l =>
    rw [wd]
    split
    · rename_i h
      rw [rep_low _ _ _ h, List.drop_succ_cons, rep_wd1 l]
      simp
    · rename_i h
      simp [rep, h]
def hy : List UInt8 → Nat
  | [] => 0
  | c :: l => if c.toNat = 45 then hy l + 1 else 0
theorem hy_le (l : List UInt8) : hy l ≤ l.length := by
  induction l with
  | nil => simp [hy]
  | cons c l ih => rw [hy]; split <;> simp <;> omega
theorem hy_yes (c : UInt8) (l : List UInt8) (h : c.toNat = 45) : hy (c :: l) = hy l + 1 := by rw [hy, if_pos h]
theorem hy_no (c : UInt8) (l : List UInt8) (h : ¬ c.toNat = 45) : hy (c :: l) = 0 := by rw [hy, if_neg h]
/-- How many bytes the mark at the beginning takes. -/
def un : List UInt8 → Nat
  | [] => 1
  | d :: _ => if d.toNat = 95 then 2 else 1
def mk : List UInt8 → Nat
  | [] => 0
  | c :: l => if c.toNat = 95 then un l else if c.toNat = 46 then 1 else hy (c :: l)
theorem mk_le (l : List UInt8) : mk l ≤ l.length := by
  cases l with
  | nil => simp [mk]
  | cons c l =>
    rw [mk]
    split
    · cases l with
      | nil => simp [un]
      | cons d l => simp only [un]; split <;> simp
    · split
      · simp
      · exact hy_le _
theorem rep_two (l : List UInt8) : rep 2 l = rep 0 l := by cases l <;> simp [rep]
theorem rep_hy (l : List UInt8) : rep 4 l = rep 0 (l.drop (hy l)) := by
  induction l with
  | nil => simp [hy, rep]
  | cons c l ih =>
    by_cases h : c.toNat = 45
    · rw [hy_yes c l h, List.drop_succ_cons, ← ih, rep, lowB_not (by omega)]
      simp [h]
    · rw [hy_no c l h]
      simp [rep, h]
theorem rep_mk (l : List UInt8) (h : 0 < mk l) : rep 1 l = rep 0 (l.drop (mk l)) := by
  cases l with
  | nil => simp [mk] at h
  | cons c l =>
    rw [mk] at h ⊢
    by_cases h1 : c.toNat = 95
    · rw [if_pos h1, rep, lowB_not (by omega)]
      rw [if_neg (by simp), if_neg (by omega), if_pos ⟨rfl, h1⟩]
      cases l with
      | nil => simp [rep, un]
      | cons d l =>
        simp only [un]
        by_cases h2 : d.toNat = 95
        · rw [if_pos h2, rep, lowB_not (by omega)]
          rw [if_neg (by simp), if_neg (by omega), if_neg (by omega), if_neg (by omega), if_neg (by omega), if_pos ⟨rfl, h2⟩]
          exact rep_two l
        · rw [if_neg h2]
          simp [rep, h2]
    · rw [if_neg h1] at h ⊢
      by_cases h2 : c.toNat = 46
      · rw [if_pos h2, rep, lowB_not (by omega)]
        rw [if_neg (by simp), if_pos ⟨rfl, h2⟩]
        exact rep_two l
      · rw [if_neg h2] at h ⊢
        by_cases h3 : c.toNat = 45
        · rw [hy_yes c l h3, rep, lowB_not (by omega)]
          rw [if_neg (by simp), if_neg (by omega), if_neg (by omega), if_pos ⟨rfl, h3⟩, rep_hy]
          simp
        · rw [hy_no c l h3] at h; omega
theorem rep_no (c : UInt8) (l : List UInt8) (hw : lowB c.toNat = false) (h : mk (c :: l) = 0) (h2 : ¬ c.toNat = 47) : rep 1 (c :: l) = false := by
  rw [mk] at h
  have e1 : ¬ c.toNat = 95 := by
    intro e
    rw [if_pos e] at h
    cases l with
    | nil => simp [un] at h
    | cons d l => simp only [un] at h; split at h <;> omega
  rw [if_neg e1] at h
  have e2 : ¬ c.toNat = 46 := by intro e; rw [if_pos e] at h; omega
  rw [if_neg e2] at h
  have e3 : ¬ c.toNat = 45 := by intro e; rw [hy_yes c l e] at h; omega
  simp [rep, hw, e1, e2, e3, h2]
theorem rep_slash (c : UInt8) (l : List UInt8) (h : c.toNat = 47) : rep 1 (c :: l) = rep 0 l := by
  rw [rep, lowB_not (by omega)]
  simp [h]
end Plain
end Go.Proofs.YtmgjkomgpkoenaaGreat
