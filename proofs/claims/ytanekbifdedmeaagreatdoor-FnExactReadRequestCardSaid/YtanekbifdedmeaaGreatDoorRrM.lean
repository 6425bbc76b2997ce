/- Where the lines of a message end, and what they say: the mathematics of chapter 16's readers. -/
import Derived.Test.YtanekbifdedmeaaGreatDoorReqM
import Derived.Lib.IndexLaws
import Derived.Lib.ItoaNum
namespace Go.Proofs.YtanekbifdedmeaaGreatDoor
open Go.RowKit Plain
set_option linter.unusedVariables false

namespace Plain
theorem ix_cons (x : UInt8) (t p : List UInt8) : Lib.index (x :: t) p = if p.isPrefixOf (x :: t) then 0 else if (Lib.index t p == -1) = true then -1 else Lib.index t p + 1 := by
  conv => lhs; unfold Lib.index
theorem ix_ge (p : List UInt8) : ∀ s : List UInt8, Lib.index s p = -1 ∨ 0 ≤ Lib.index s p
  | [] => by
    unfold Lib.index
    split
    · exact .inr (Int.le_refl _)
    · exact .inl rfl
  | x :: t => by
    rw [ix_cons]
    split
    · exact .inr (Int.le_refl _)
    · rcases ix_ge p t with h | h
      · rw [h]; exact .inl rfl
      · right
        have hb : (Lib.index t p == -1) = false := by rw [beq_eq_false_iff_ne]; omega
        rw [hb]
        simp only [Bool.false_eq_true, if_false]
        omega
/-- No line ends in it, whatever follows. -/
def NC : List UInt8 → Prop
  | [] => True
  | x :: t => ¬ (x = 13 ∧ t.head? = some 10) ∧ NC t
theorem nc_pre {x : UInt8} {t : List UInt8} (h : NC (x :: t)) (p : List UInt8) (r : List UInt8) : (13 :: 10 :: p : List UInt8).isPrefixOf (x :: (t ++ 13 :: 10 :: r)) = false := by
  rw [Bool.eq_false_iff]
  intro q
  rw [List.isPrefixOf_iff_prefix, List.cons_prefix_cons] at q
  obtain ⟨q1, q2⟩ := q
  cases t with
  | nil =>
    rw [List.nil_append, List.cons_prefix_cons] at q2
    exact absurd q2.1 (by decide)
  | cons y t =>
    rw [List.cons_append, List.cons_prefix_cons] at q2
    exact h.1 ⟨q1.symm, by rw [← q2.1]; rfl⟩
theorem ix_self (p r : List UInt8) : Lib.index (13 :: 10 :: (p ++ r)) (13 :: 10 :: p) = 0 := by
  rw [ix_cons, if_pos (by rw [List.isPrefixOf_iff_prefix, ← List.cons_append, ← List.cons_append]; exact List.prefix_append _ _)]
/-- A piece that begins with the end of a line is sought behind the line. -/
theorem ix_over (p : List UInt8) (r : List UInt8) : ∀ l : List UInt8, NC l → Lib.index (l ++ 13 :: 10 :: r) (13 :: 10 :: p) = if Lib.index (13 :: 10 :: r) (13 :: 10 :: p) = -1 then -1 else l.length + Lib.index (13 :: 10 :: r) (13 :: 10 :: p)
  | [], _ => by
    rw [List.nil_append]
    split
    · assumption
    · simp
  | x :: t, h => by
    have ih := ix_over p r t h.2
    rw [List.cons_append, ix_cons, nc_pre h, ih]
    by_cases q : Lib.index (13 :: 10 :: r) (13 :: 10 :: p) = -1
    · rw [if_pos q, if_pos q]; rfl
    · rw [if_neg q, if_neg q]
      have hp : (0 : Int) ≤ Lib.index (13 :: 10 :: r) (13 :: 10 :: p) ∨ Lib.index (13 :: 10 :: r) (13 :: 10 :: p) = -1 := by
        rcases ix_ge (13 :: 10 :: p) (13 :: 10 :: r) with e | e
        · exact .inr e
        · exact .inl e
      have hb : ((t.length + Lib.index (13 :: 10 :: r) (13 :: 10 :: p) : Int) == -1) = false := by rw [beq_eq_false_iff_ne]; omega
      rw [hb]
      simp only [Bool.false_eq_true, if_false, List.length_cons]
      omega
theorem ix2 (l r : List UInt8) (h : NC l) : Lib.index (l ++ 13 :: 10 :: r) [13, 10] = (l.length : Nat) := by
  have e := ix_self [] r
  rw [List.nil_append] at e
  rw [ix_over [] r l h, e]
  rfl
theorem ix2_or : ∀ s : List UInt8, Lib.index s [13, 10] = -1 ∨ ∃ l r, s = l ++ 13 :: 10 :: r ∧ NC l ∧ Lib.index s [13, 10] = l.length
  | [] => .inl rfl
  | x :: t => by
    rw [ix_cons]
    cases hp : ([13, 10] : List UInt8).isPrefixOf (x :: t) with
    | true =>
      rw [List.isPrefixOf_iff_prefix] at hp
      obtain ⟨r, hr⟩ := hp
      exact .inr ⟨[], r, hr.symm, trivial, rfl⟩
    | false =>
      rcases ix2_or t with h | ⟨l, r, rfl, hn, h⟩
      · rw [h]; exact .inl rfl
      · refine .inr ⟨x :: l, r, rfl, ⟨?_, hn⟩, ?_⟩
        · rintro ⟨rfl, q⟩
          cases l with
          | nil => exact absurd q (by decide)
          | cons y l =>
            obtain rfl : y = 10 := Option.some.inj q
            rw [Bool.eq_false_iff] at hp
            exact hp (by rw [List.isPrefixOf_iff_prefix]; exact ⟨l ++ 13 :: 10 :: r, rfl⟩)
        · rw [h]
          have hb : (((l.length : Nat) : Int) == -1) = false := by rw [beq_eq_false_iff_ne]; omega
          rw [hb]
          simp
theorem ix4_none : ∀ s : List UInt8, Lib.index s [13, 10] = -1 → Lib.index s [13, 10, 13, 10] = -1
  | [], _ => rfl
  | x :: t, h => by
    rw [ix_cons] at h ⊢
    have hp : ([13, 10] : List UInt8).isPrefixOf (x :: t) = false := by
      cases hp : ([13, 10] : List UInt8).isPrefixOf (x :: t) with
      | false => rfl
      | true => rw [hp, if_pos rfl] at h; exact absurd h (by decide)
    rw [hp] at h
    have ht : Lib.index t [13, 10] = -1 := by
      by_cases q : Lib.index t [13, 10] = -1
      · exact q
      · rcases ix2_or t with h2 | ⟨l, r, _, _, h2⟩
        · exact h2
        · rw [h2] at h
          have hb : (((l.length : Nat) : Int) == -1) = false := by rw [beq_eq_false_iff_ne]; omega
          rw [hb] at h
          simp at h
          omega
    have hp4 : ([13, 10, 13, 10] : List UInt8).isPrefixOf (x :: t) = false := by
      rw [Bool.eq_false_iff] at hp ⊢
      intro q
      apply hp
      rw [List.isPrefixOf_iff_prefix] at q ⊢
      exact List.IsPrefix.trans ⟨[13, 10], rfl⟩ q
    rw [hp4, ix4_none t ht]
    rfl
/-- Where the head ends. -/
def endF (s : List UInt8) : Int := Lib.index (13 :: 10 :: s) [13, 10, 13, 10]
theorem end_none {s : List UInt8} (h : Lib.index s [13, 10] = -1) : endF s = -1 := by
  have h4 := ix4_none s h
  unfold endF
  have hs : ([13, 10] : List UInt8).isPrefixOf s = false := by
    cases s with
    | nil => rfl
    | cons x t =>
      rw [ix_cons] at h
      cases hp : ([13, 10] : List UInt8).isPrefixOf (x :: t) with
      | false => rfl
      | true => rw [hp, if_pos rfl] at h; exact absurd h (by decide)
  have e10 : Lib.index (10 :: s) [13, 10, 13, 10] = -1 := by
    rw [ix_cons, show ([13, 10, 13, 10] : List UInt8).isPrefixOf (10 :: s) = false from by rw [List.isPrefixOf]; rfl, h4]
    rfl
  rw [ix_cons, show ([13, 10, 13, 10] : List UInt8).isPrefixOf (13 :: 10 :: s) = ([13, 10] : List UInt8).isPrefixOf s from by rw [List.isPrefixOf, List.isPrefixOf]; simp, hs, e10]
  rfl
theorem end_here (r : List UInt8) : endF (13 :: 10 :: r) = 0 := ix_self [13, 10] r
theorem end_line {l : List UInt8} (h : NC l) (hne : l ≠ []) (r : List UInt8) : endF (l ++ 13 :: 10 :: r) = if endF r = -1 then -1 else l.length + 2 + endF r := by
  have ho := ix_over [13, 10] r l h
  have hp : (0 : Int) ≤ endF r ∨ endF r = -1 := by
    rcases ix_ge [13, 10, 13, 10] (13 :: 10 :: r) with e | e
    · exact .inr e
    · exact .inl e
  change Lib.index (l ++ 13 :: 10 :: r) [13, 10, 13, 10] = if endF r = -1 then -1 else l.length + endF r at ho
  have hs : ([13, 10] : List UInt8).isPrefixOf (l ++ 13 :: 10 :: r) = false := by
    cases l with
    | nil => exact absurd rfl hne
    | cons x t => exact nc_pre h [] r
  have e10 : Lib.index (10 :: (l ++ 13 :: 10 :: r)) [13, 10, 13, 10] = if endF r = -1 then -1 else l.length + 1 + endF r := by
    rw [ix_cons, show ([13, 10, 13, 10] : List UInt8).isPrefixOf (10 :: (l ++ 13 :: 10 :: r)) = false from by rw [List.isPrefixOf]; rfl, ho]
    by_cases q : endF r = -1
    · rw [if_pos q, if_pos q]; rfl
    · rw [if_neg q, if_neg q]
      have hb : ((l.length + endF r : Int) == -1) = false := by rw [beq_eq_false_iff_ne]; omega
      rw [hb]
      simp only [Bool.false_eq_true, if_false]
      omega
  conv => lhs; unfold endF
  rw [ix_cons, show ([13, 10, 13, 10] : List UInt8).isPrefixOf (13 :: 10 :: (l ++ 13 :: 10 :: r)) = ([13, 10] : List UInt8).isPrefixOf (l ++ 13 :: 10 :: r) from by rw [List.isPrefixOf, List.isPrefixOf]; simp, hs, e10]
  by_cases q : endF r = -1
  · rw [if_pos q, if_pos q]; rfl
  · rw [if_neg q, if_neg q]
    have hb : ((l.length + 1 + endF r : Int) == -1) = false := by rw [beq_eq_false_iff_ne]; omega
    rw [hb]
    simp only [Bool.false_eq_true, if_false]
    omega
/-- Lines, each with its end. -/
def lnS (ls : List (List UInt8)) : List UInt8 := (ls.map fun l => l ++ [13, 10]).flatten
theorem lnS_nil : lnS [] = [] := rfl
theorem lnS_cons (l : List UInt8) (ls : List (List UInt8)) : lnS (l :: ls) = l ++ 13 :: 10 :: lnS ls := by
  unfold lnS
  rw [List.map_cons, List.flatten_cons, List.append_assoc]
  rfl
/-- The lines of a head and what stands behind. -/
def linF : Nat → List UInt8 → Option (List (List UInt8) × List UInt8)
  | 0, _ => none
  | f + 1, s =>
    if Lib.index s [13, 10] < 0 then none
    else if Lib.index s [13, 10] = 0 then some ([], s.drop 2)
    else match linF f (s.drop ((Lib.index s [13, 10]).toNat + 2)) with
      | none => none
      | some (ls, b) => some (s.take (Lib.index s [13, 10]).toNat :: ls, b)
theorem linF_no {f : Nat} {s : List UInt8} (h : Lib.index s [13, 10] = -1) : linF (f + 1) s = none := by rw [linF, h]; rfl
theorem linF_end {f : Nat} (r : List UInt8) : linF (f + 1) (13 :: 10 :: r) = some ([], r) := by
  have e := ix2 [] r trivial
  rw [List.nil_append, List.length_nil] at e
  rw [linF, e]
  rfl
theorem linF_line {f : Nat} {l : List UInt8} (h : NC l) (hne : l ≠ []) (r : List UInt8) : linF (f + 1) (l ++ 13 :: 10 :: r) = match linF f r with
      | none => none
      | some (ls, b) => some (l :: ls, b) := by
  have e := ix2 l r h
  have h1 : 1 ≤ l.length := List.length_pos_iff.2 hne
  rw [linF, e, if_neg (by omega), if_neg (by omega), Int.toNat_natCast, List.take_left]
  rw [show l.length + 2 = (l ++ [13, 10]).length from by simp, show l ++ 13 :: 10 :: r = (l ++ [13, 10]) ++ r from by simp, List.drop_left]
theorem line_or (s : List UInt8) : Lib.index s [13, 10] = -1 ∨ (∃ r, s = 13 :: 10 :: r) ∨ ∃ l r, s = l ++ 13 :: 10 :: r ∧ NC l ∧ l ≠ [] := by
  rcases ix2_or s with h | ⟨l, r, e, hn, _⟩
  · exact .inl h
  · cases l with
    | nil => exact .inr (.inl ⟨r, e⟩)
    | cons x t => exact .inr (.inr ⟨x :: t, r, e, hn, by simp⟩)
/-- The lines, by the end of the head. -/
theorem linF_is : ∀ (f : Nat) (s : List UInt8), s.length < f →
    (endF s = -1 ∧ linF f s = none) ∨ ∃ ls b, linF f s = some (ls, b) ∧ s = lnS ls ++ 13 :: 10 :: b ∧ endF s = ((lnS ls).length : Nat) ∧ ∀ l ∈ ls, NC l ∧ l ≠ []
  | 0, s, h => by omega
  | f + 1, s, h => by
    rcases line_or s with q | ⟨r, rfl⟩ | ⟨l, r, rfl, hn, hne⟩
    · exact .inl ⟨end_none q, linF_no q⟩
    · exact .inr ⟨[], r, linF_end r, rfl, end_here r, fun l hl => by simp at hl⟩
    · rw [linF_line hn hne, end_line hn hne]
      rcases linF_is f r (by simp at h; omega) with ⟨q1, q2⟩ | ⟨ls, b, q1, q2, q3, q4⟩
      · rw [q1, q2]; exact .inl ⟨rfl, rfl⟩
      · rw [q1, q3]
        refine .inr ⟨l :: ls, b, rfl, by rw [lnS_cons, q2]; simp, ?_, fun x hx => ?_⟩
        · rw [if_neg (by omega), lnS_cons]
          simp
          omega
        · rcases List.mem_cons.1 hx with rfl | hx
          · exact ⟨hn, hne⟩
          · exact q4 x hx
/-- Small letters for capital ones. -/
def smlB (b : UInt8) : UInt8 := if 65 ≤ b ∧ b ≤ 90 then b + 32 else b
def lowL (l : List UInt8) : List UInt8 := l.map smlB
def bU (l : List UInt8) : ByteArray := ⟨l.toArray⟩
theorem bU_data (l : List UInt8) : (bU l).data.toList = l := by simp [bU]
theorem bU_self (s : ByteArray) : bU s.data.toList = s := by apply ByteArray.ext; simp [bU]
theorem bU_of {s : ByteArray} {l : List UInt8} (h : s.data.toList = l) : s = bU l := by rw [← h, bU_self]
/-- A line's row. -/
def rowF (l : List UInt8) : Hd := (bU (lowL (l.take (Lib.index l [58]).toNat)), bU (trmL (l.drop ((Lib.index l [58]).toNat + 1))))
structure St where
  rows : List Hd
  len : Int
  told : Bool
/-- What a line does to what was read. -/
def adlF (num : List UInt8 → Int) (s : St) (l : List UInt8) : Option St :=
  if Lib.index l [58] < 0 then none
  else if (rowF l).1.data.toList = clenL then
    (if s.told = true ∨ num (rowF l).2.data.toList < 0 then none else some ⟨s.rows, num (rowF l).2.data.toList, true⟩)
  else if hrwB (rowF l) = true ∧ (s.rows ++ [rowF l]).length ≤ 20 then some ⟨s.rows ++ [rowF l], s.len, s.told⟩ else none
/-- What the lines of a head say, as the specification reads them. -/
def fldF (num : List UInt8 → Int) : List (List UInt8) → St → Option St
  | [], s => some s
  | l :: ls, s =>
    if Lib.index l [58] < 0 then none
    else if (rowF l).1.data.toList = clenL then
      (if s.told = true ∨ num (rowF l).2.data.toList < 0 then none else fldF num ls ⟨s.rows, num (rowF l).2.data.toList, true⟩)
    else fldF num ls ⟨s.rows ++ [rowF l], s.len, s.told⟩
theorem fldF_pre (num : List UInt8 → Int) : ∀ (ls : List (List UInt8)) (s s' : St), fldF num ls s = some s' → s.rows <+: s'.rows
  | [], s, s', h => by rw [fldF] at h; cases h; exact List.prefix_refl _
  | l :: ls, s, s', h => by
    rw [fldF] at h
    split at h
    · cases h
    · split at h
      · split at h
        · cases h
        · exact fldF_pre num ls ⟨s.rows, num (rowF l).2.data.toList, true⟩ s' h
      · exact List.IsPrefix.trans ⟨_, rfl⟩ (fldF_pre num ls _ s' h)
theorem fit_pre {a b : List Hd} (h : a <+: b) (hb : fitB hrwB b = true) : fitB hrwB a = true := by
  unfold fitB at hb ⊢
  obtain ⟨c, rfl⟩ := h
  rw [Bool.and_eq_true, decide_eq_true_eq, List.all_append, Bool.and_eq_true] at hb
  rw [Bool.and_eq_true, decide_eq_true_eq]
  exact ⟨by have := hb.1; rw [List.length_append] at this; omega, hb.2.1⟩
def okS (o : Option St) : Option St := match o with
  | none => none
  | some s => if fitB hrwB s.rows = true then some s else none
/-- Line by line it comes to the same. -/
theorem fold_fld (num : List UInt8 → Int) : ∀ (ls : List (List UInt8)) (s : St), fitB hrwB s.rows = true → ls.foldlM (adlF num) s = okS (fldF num ls s)
  | [], s, h => by
    rw [fldF, okS, if_pos h]
    rfl
  | l :: ls, s, h => by
    rw [List.foldlM_cons, fldF]
    unfold adlF
    by_cases h1 : Lib.index l [58] < 0
    · rw [if_pos h1, if_pos h1]; rfl
    rw [if_neg h1, if_neg h1]
    by_cases h2 : (rowF l).1.data.toList = clenL
    · rw [if_pos h2, if_pos h2]
      by_cases h3 : s.told = true ∨ num (rowF l).2.data.toList < 0
      · rw [if_pos h3, if_pos h3]; rfl
      · rw [if_neg h3, if_neg h3]
        exact fold_fld num ls _ h
    · rw [if_neg h2, if_neg h2]
      by_cases h3 : hrwB (rowF l) = true ∧ (s.rows ++ [rowF l]).length ≤ 20
      · rw [if_pos h3]
        refine fold_fld num ls _ ?_
        unfold fitB at h ⊢
        rw [Bool.and_eq_true, decide_eq_true_eq] at h ⊢
        exact ⟨h3.2, by rw [List.all_append, h.2]; simp [h3.1]⟩
      · rw [if_neg h3]
        have hno : ∀ b : List Hd, (s.rows ++ [rowF l]) <+: b → fitB hrwB b = true → False := by
          intro b hb hf
          have := fit_pre hb hf
          unfold fitB at this
          rw [Bool.and_eq_true, decide_eq_true_eq, List.all_append, Bool.and_eq_true] at this
          exact h3 ⟨by have := this.2.2; simpa using this, this.1⟩
        cases hq : fldF num ls ⟨s.rows ++ [rowF l], s.len, s.told⟩ with
        | none => rfl
        | some s' =>
          have := fldF_pre num ls _ _ hq
          rw [okS, if_neg (fun q => hno _ this q)]
          rfl
/-- The head, line by line. -/
def hdF (num : List UInt8 → Int) : Nat → List UInt8 → St → Option (St × List UInt8)
  | 0, _, _ => none
  | f + 1, s, st =>
    if Lib.index s [13, 10] < 0 then none
    else if Lib.index s [13, 10] = 0 then some (st, s.drop 2)
    else match adlF num st (s.take (Lib.index s [13, 10]).toNat) with
      | none => none
      | some st' => hdF num f (s.drop ((Lib.index s [13, 10]).toNat + 2)) st'
theorem hdF_is (num : List UInt8 → Int) : ∀ (f : Nat) (s : List UInt8) (st : St), hdF num f s st = match linF f s with
      | none => none
      | some (ls, b) => match ls.foldlM (adlF num) st with
        | none => none
        | some st' => some (st', b)
  | 0, s, st => rfl
  | f + 1, s, st => by
    rw [hdF, linF]
    by_cases h1 : Lib.index s [13, 10] < 0
    · rw [if_pos h1, if_pos h1]
    rw [if_neg h1, if_neg h1]
    by_cases h2 : Lib.index s [13, 10] = 0
    · rw [if_pos h2, if_pos h2]; rfl
    rw [if_neg h2, if_neg h2]
    cases hl : linF f (s.drop ((Lib.index s [13, 10]).toNat + 2)) with
    | none =>
      cases ha : adlF num st (s.take (Lib.index s [13, 10]).toNat) with
      | none => rfl
      | some st' =>
        have := hdF_is num f (s.drop ((Lib.index s [13, 10]).toNat + 2)) st'
        rw [hl] at this
        exact this
    | some p =>
      obtain ⟨ls, b⟩ := p
      simp only
      rw [List.foldlM_cons]
      cases ha : adlF num st (s.take (Lib.index s [13, 10]).toNat) with
      | none => rfl
      | some st' =>
        have := hdF_is num f (s.drop ((Lib.index s [13, 10]).toNat + 2)) st'
        rw [hl] at this
        exact this
/-- Headers and body of what stands behind the first line: a code, and what was read. -/
def talF (num : List UInt8 → Int) (s : List UInt8) : Int × List Hd × List UInt8 := match hdF num (s.length + 1) s ⟨[], 0, false⟩ with
  | none => (3, [], [])
  | some (st, b) => if (b.length : Int) = st.len then (0, st.rows, b) else (4, [], [])
end Plain
end Go.Proofs.YtanekbifdedmeaaGreatDoor
