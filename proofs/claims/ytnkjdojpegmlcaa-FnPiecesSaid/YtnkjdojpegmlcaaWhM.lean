/- Pieces put together again, as plain mathematics. -/
import Derived.Test.YtnkjdojpegmlcaaRcM
import Derived.Test.YtnkjdojpegmlcaaRdM
namespace Go.Proofs.Ytnkjdojpegmlcaa
open Go.RowKit Plain
set_option linter.unusedVariables false

namespace Plain
/-- Place, number of pieces and bytes of the piece that a frame's body tells. -/
def bodR (b : ByteArray) : Option (Int × Int × ByteArray) := match stT b (stN b (stN b (some ((), 0)))) with
  | none => none
  | some ((((_, a), c), x), p) => if p = b.size ∧ a < c then some (a, c, x) else none
/-- The piece that a text is. -/
def pieceR (s : ByteArray) : Option (Int × Int × ByteArray) := match readF s with
  | ([(k, b)], _, c) => if c = 0 ∧ k = 3 then bodR b else none
  | _ => none
/-- What a reader of pieces tells. -/
def PcIs (o : Option (Int × Int × ByteArray)) (g : Bool) (a c : Int) (x : ByteArray) : Prop := (g = false ∧ o = none) ∨ (g = true ∧ o = some (a, c, x))
theorem bodR_is {b : ByteArray} {a c : Int} {x : ByteArray} {p : Nat} {f : Bool} (h : HasR (stT b (stN b (stN b (some ((), 0))))) f ((((), a), c), x) p) : PcIs (bodR b) ((!f && decide (p = b.size)) && decide (a < c)) a c x := by
  unfold bodR
  rcases h with ⟨rfl, h⟩ | ⟨rfl, h⟩
  · rw [h]; exact .inl ⟨rfl, rfl⟩
  · rw [h]
    by_cases h1 : p = b.size ∧ a < c
    · exact .inr ⟨by simp [h1], if_pos h1⟩
    · refine .inl ⟨?_, if_neg h1⟩
      rw [Bool.eq_false_iff]
      intro q
      simp at q
      exact h1 q
/-- The text at a place. -/
def lk (L : List (Int × ByteArray)) (a : Int) : Option ByteArray := (L.find? fun y => decide (y.1 = a)).map (·.2)
theorem lk_nil (a : Int) : lk [] a = none := rfl
theorem lk_cons (y : Int × ByteArray) (L : List (Int × ByteArray)) (a : Int) : lk (y :: L) a = if y.1 = a then some y.2 else lk L a := by
  unfold lk
  rw [List.find?_cons]
  by_cases h : y.1 = a <;> simp [h]
theorem lk_snoc (L : List (Int × ByteArray)) (y : Int × ByteArray) (a : Int) : lk (L ++ [y]) a = match lk L a with | some x => some x | none => if y.1 = a then some y.2 else none := by
  induction L with
  | nil => rw [List.nil_append, lk_cons, lk_nil]
  | cons z L ih =>
    rw [List.cons_append, lk_cons, lk_cons, ih]
    by_cases h : z.1 = a <;> simp [h]
theorem lk_none {L : List (Int × ByteArray)} {a : Int} (h : lk L a = none) : a ∉ L.map (·.1) := by
  induction L with
  | nil => simp
  | cons z L ih =>
    rw [lk_cons] at h
    by_cases q : z.1 = a
    · rw [if_pos q] at h; cases h
    · rw [if_neg q] at h
      rw [List.map_cons, List.mem_cons]
      rintro (e | e)
      · exact q e.symm
      · exact ih h e
/-- The specification's look through what was read: none: another text is there. -/
def scn (a : Int) (x : ByteArray) : List (Int × ByteArray) → Bool → Option Bool
  | [], t => some t
  | y :: L, t => if y.1 = a then (if y.2 = x then scn a x L true else none) else scn a x L t
theorem scn_no (a : Int) (x : ByteArray) (t : Bool) (L : List (Int × ByteArray)) (h : a ∉ L.map (·.1)) : scn a x L t = some t := by
  induction L with
  | nil => rfl
  | cons z L ih =>
    rw [List.map_cons, List.mem_cons, not_or] at h
    rw [scn, if_neg (fun e => h.1 e.symm), ih h.2]
theorem scn_lk (a : Int) (x : ByteArray) (L : List (Int × ByteArray)) (h : (L.map (·.1)).Nodup) : scn a x L false = match lk L a with | none => some false | some y => if y = x then some true else none := by
  induction L with
  | nil => rfl
  | cons z L ih =>
    rw [List.map_cons, List.nodup_cons] at h
    rw [scn, lk_cons]
    by_cases q : z.1 = a
    · rw [if_pos q, if_pos q]
      show _ = if z.2 = x then some true else none
      by_cases e : z.2 = x
      · rw [if_pos e, if_pos e, scn_no]
        rw [← q]; exact h.1
      · rw [if_neg e, if_neg e]
    · rw [if_neg q, if_neg q, ih h.2]
/-- The specification's look for the text of a place, put behind s. -/
def cat (a : Int) : List (Int × ByteArray) → ByteArray → ByteArray
  | [], s => s
  | y :: L, s => if y.1 = a then cat a L (s ++ y.2) else cat a L s
theorem cat_no (a : Int) (L : List (Int × ByteArray)) (s : ByteArray) (h : a ∉ L.map (·.1)) : cat a L s = s := by
  induction L generalizing s with
  | nil => rfl
  | cons z L ih =>
    rw [List.map_cons, List.mem_cons, not_or] at h
    rw [cat, if_neg (fun e => h.1 e.symm), ih _ h.2]
theorem cat_lk (a : Int) (L : List (Int × ByteArray)) (s : ByteArray) (h : (L.map (·.1)).Nodup) : cat a L s = s ++ (lk L a).getD ⟨#[]⟩ := by
  induction L generalizing s with
  | nil => rw [lk_nil]; exact (ByteArray.append_empty).symm
  | cons z L ih =>
    rw [List.map_cons, List.nodup_cons] at h
    rw [cat, lk_cons]
    by_cases q : z.1 = a
    · rw [if_pos q, if_pos q, cat_no]
      · rfl
      · rw [← q]; exact h.1
    · rw [if_neg q, if_neg q, ih _ h.2]
/-- The first n places, put together. -/
def joinL (L : List (Int × ByteArray)) : Nat → ByteArray
  | 0 => ⟨#[]⟩
  | n + 1 => joinL L n ++ (lk L n).getD ⟨#[]⟩
/-- What is known behind some pieces: the number that they tell, and the texts by their places. -/
def whS (i : Nat) (c : Int) (L : List (Int × ByteArray)) (s : ByteArray) : Option (Int × List (Int × ByteArray)) := match pieceR s with
  | none => none
  | some (a, n, x) => if 0 < i ∧ n ≠ c then none else match lk L a with
    | none => some (n, L ++ [(a, x)])
    | some y => if y = x then some (n, L) else none
def whG : Nat → Int → List (Int × ByteArray) → List ByteArray → Option (Int × List (Int × ByteArray))
  | _, c, L, [] => some (c, L)
  | i, c, L, s :: r => match whS i c L s with
    | none => none
    | some (n, M) => whG (i + 1) n M r
def endR (o : Option (Int × List (Int × ByteArray))) : ByteArray × Bool := match o with
  | none => (⟨#[]⟩, false)
  | some (c, L) => if (L.length : Int) = c then (joinL L L.length, true) else (⟨#[]⟩, false)
/-- What Whole answers. -/
def wholeR (ps : List ByteArray) : ByteArray × Bool := if ps.length ≤ 2000 then endR (whG 0 0 [] ps) else (⟨#[]⟩, false)
end Plain
end Go.Proofs.Ytnkjdojpegmlcaa
