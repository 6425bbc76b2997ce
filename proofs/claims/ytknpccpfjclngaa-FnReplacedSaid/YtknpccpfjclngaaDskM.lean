/- Disks as plain mathematics: files, ops, what an op does; and how they lie in rows. -/
import Derived.Test.YtknpccpfjclngaaGAB
namespace Go.Proofs.Ytknpccpfjclngaa
open Go.RowKit Plain
set_option linter.unusedVariables false

namespace Plain
abbrev Fl := ByteArray × ByteArray
def nmB (s : ByteArray) : Bool := decide (1 ≤ s.size) && decide (s.size ≤ 100)
def lessN (a b : ByteArray) : Bool := Op.bytesLess a.toList b.toList
def eqN (a b : ByteArray) : Bool := a.toList == b.toList
theorem lessN_iff (a b : ByteArray) : lessN a b = true ↔ ltB a b := less_ltB a b
theorem eqN_iff (a b : ByteArray) : eqN a b = true ↔ a = b := beq_bytes a b
theorem lessN_self (a : ByteArray) : lessN a a = false := by
  cases h : lessN a a with
  | false => rfl
  | true => exact absurd ((lessN_iff a a).1 h) (ltB_irrefl a)
theorem eqN_self (a : ByteArray) : eqN a a = true := (eqN_iff a a).2 rfl
theorem less_not {a b : ByteArray} (h : lessN a b = true) : lessN b a = false ∧ eqN b a = false := by
  have h1 := (lessN_iff a b).1 h
  constructor
  · cases h2 : lessN b a with
    | false => rfl
    | true => exact absurd (ltB_trans h1 ((lessN_iff b a).1 h2)) (ltB_irrefl a)
  · cases h2 : eqN b a with
    | false => rfl
    | true => rw [(eqN_iff b a).1 h2] at h1; exact absurd h1 (ltB_irrefl a)
theorem less_or {a b : ByteArray} (h : lessN a b = false) : (lessN b a || eqN b a) = true := by
  cases h2 : eqN b a with
  | true => simp
  | false =>
    have hne : a ≠ b := fun e => by rw [e, eqN_self] at h2; simp at h2
    have : ltB b a := ltB_tri (fun h3 => by rw [(lessN_iff a b).2 h3] at h; simp at h) hne
    rw [(lessN_iff b a).2 this]; rfl
/-- Names of their form, rising; behind p. -/
def okF : Option ByteArray → List Fl → Bool
  | _, [] => true
  | none, f :: t => nmB f.1 && okF (some f.1) t
  | some p, f :: t => (nmB f.1 && lessN p f.1) && okF (some f.1) t
def sumF : List Fl → Nat
  | [] => 0
  | f :: t => f.2.size + sumF t
def filesB (fs : List Fl) : Bool := decide (fs.length ≤ 60) && (okF none fs && decide (sumF fs ≤ 200000))
def prevN (fs : List Fl) : Nat → Option ByteArray
  | 0 => none
  | k + 1 => (fs[k]?).map fun f => f.1
theorem okF_step (fs : List Fl) (k : Nat) (h : k < fs.length) : okF (prevN fs k) (fs.drop k) = ((nmB fs[k].1 && (match prevN fs k with | none => true | some p => lessN p fs[k].1)) && okF (prevN fs (k + 1)) (fs.drop (k + 1))) := by
  rw [List.drop_eq_getElem_cons h]
  have e : prevN fs (k + 1) = some fs[k].1 := by rw [prevN, List.getElem?_eq_getElem h]; rfl
  rw [e]
  cases hp : prevN fs k with
  | none => rw [okF]; simp
  | some p => rw [okF]
theorem sumF_drop (fs : List Fl) (k : Nat) (h : k < fs.length) : sumF (fs.drop k) = fs[k].2.size + sumF (fs.drop (k + 1)) := by rw [List.drop_eq_getElem_cons h, sumF]
/-- The place of the first file of this name. -/
def atF (n : ByteArray) : List Fl → Option Nat
  | [] => none
  | f :: t => if eqN f.1 n then some 0 else (atF n t).map (· + 1)
theorem atF_yes (n : ByteArray) (fs : List Fl) (k : Nat) (h : k < fs.length) (he : eqN fs[k].1 n = true) : atF n (fs.drop k) = some 0 := by rw [List.drop_eq_getElem_cons h, atF, if_pos he]
theorem atF_no (n : ByteArray) (fs : List Fl) (k : Nat) (h : k < fs.length) (he : eqN fs[k].1 n = false) : atF n (fs.drop k) = (atF n (fs.drop (k + 1))).map (· + 1) := by rw [List.drop_eq_getElem_cons h, atF, if_neg (by rw [he]; simp)]
theorem atF_lt (n : ByteArray) (fs : List Fl) (i : Nat) (h : atF n fs = some i) : ∃ hi : i < fs.length, fs[i].1 = n := by
  induction fs generalizing i with
  | nil => simp [atF] at h
  | cons f t ih =>
    rw [atF] at h
    by_cases he : eqN f.1 n = true
    · rw [if_pos he] at h
      obtain rfl : 0 = i := by simpa using h
      exact ⟨by simp, by simpa using (eqN_iff _ _).1 he⟩
    · rw [if_neg he] at h
      cases ha : atF n t with
      | none => rw [ha] at h; simp at h
      | some j =>
        rw [ha] at h
        obtain rfl : j + 1 = i := by simpa using h
        obtain ⟨hj, e⟩ := ih j ha
        exact ⟨by simpa using hj, by simpa using e⟩
/-- The files with one of this name and data. -/
def putG (n d : ByteArray) : Bool → List Fl → List Fl
  | true, [] => []
  | false, [] => [(n, d)]
  | b, f :: t => (if !b && !lessN f.1 n then [(n, d)] else []) ++ ((if eqN f.1 n then [] else [f]) ++ putG n d (b || !lessN f.1 n) t)
def putF (fs : List Fl) (n d : ByteArray) : List Fl := putG n d false fs
def cutF (n : ByteArray) : List Fl → List Fl
  | [] => []
  | f :: t => (if eqN f.1 n then [] else [f]) ++ cutF n t
theorem putG_step (n d : ByteArray) (b : Bool) (fs : List Fl) (k : Nat) (h : k < fs.length) : putG n d b (fs.drop k) = (if !b && !lessN fs[k].1 n then [(n, d)] else []) ++ ((if eqN fs[k].1 n then [] else [fs[k]]) ++ putG n d (b || !lessN fs[k].1 n) (fs.drop (k + 1))) := by
  rw [List.drop_eq_getElem_cons h]
  cases b <;> rw [putG]
theorem cutF_step (n : ByteArray) (fs : List Fl) (k : Nat) (h : k < fs.length) : cutF n (fs.drop k) = (if eqN fs[k].1 n then [] else [fs[k]]) ++ cutF n (fs.drop (k + 1)) := by
  rw [List.drop_eq_getElem_cons h, cutF]
def formB (o : Dop) : Bool := (decide (1 ≤ o.kind) && decide (o.kind ≤ 3)) && nmB o.name && (if o.kind = 2 then nmB o.to && emp o.data else emp o.to && (decide (o.kind = 1) || emp o.data))
/-- Files behind an op; false: it finds no file. -/
def doF (fs : List Fl) (o : Dop) : List Fl × Bool :=
  if o.kind = 1 then (putF fs o.name (match atF o.name fs with | some i => (fs.getD i (⟨#[]⟩, ⟨#[]⟩)).2 ++ o.data | none => o.data), true)
  else match atF o.name fs with
    | none => (fs, false)
    | some i => (if o.kind = 2 then putF (cutF o.name fs) o.to (fs.getD i (⟨#[]⟩, ⟨#[]⟩)).2 else cutF o.name fs, true)
def sameF : List Fl → List Fl → Bool
  | [], [] => true
  | f :: s, g :: t => (eqN f.1 g.1 && eqN f.2 g.2) && sameF s t
  | _, _ => false
def runF : List Fl → List Dop → Option (List Fl)
  | fs, [] => some fs
  | fs, o :: t => if (doF fs o).2 && (formB o && filesB (doF fs o).1) then runF (doF fs o).1 t else none
def diskB (live safe : List Fl) (ops : List Dop) : Bool := filesB live && (filesB safe && (decide (ops.length ≤ 200) && (match runF safe ops with | none => false | some now => sameF now live)))
end Plain

/-- Files as elements. -/
def fileE : Elem Fl where
  E := 65
  S := 24
  n := 2
  bytes := 32
  zero := .agg #[.string ⟨#[]⟩, .string ⟨#[]⟩]
  enc := fun f => [.string f.1, .string f.2]
  hund := Try.underlying24
  hinfo := by kernel_rfl
  hz := rfl
  hn := by decide
  hb := by decide
  hlen := fun _ => rfl
  hone := fun x u hu => by simp at hu; rcases hu with rfl | rfl <;> rfl
/-- Ops as elements. -/
def dopE : Elem Dop where
  E := 50
  S := 25
  n := 4
  bytes := 56
  zero := .agg #[.int .i64 0, .string ⟨#[]⟩, .string ⟨#[]⟩, .string ⟨#[]⟩]
  enc := fun o => [.int .i64 o.kind, .string o.name, .string o.to, .string o.data]
  hund := Try.underlying25
  hinfo := by kernel_rfl
  hz := rfl
  hn := by decide
  hb := by decide
  hlen := fun _ => rfl
  hone := fun x u hu => by simp at hu; rcases hu with rfl | rfl | rfl | rfl <;> rfl
theorem RowAt.file {W : World} {a : Option Addr} {xs : List Fl} (h : RowAt fileE W a xs) (i : Nat) (hi : i < xs.length) : ∃ g, a = some ⟨g, 0, none⟩ ∧ g < W.heap.size ∧ W.cell? ⟨g, i * 2, none⟩ = some (.string xs[i].1) ∧ W.cell? ⟨g, i * 2 + 1, none⟩ = some (.string xs[i].2) := by
  obtain ⟨g, e1, hl, h1⟩ := h i hi
  exact ⟨g, e1, hl, (h1 0 (by decide)).1, (h1 1 (by decide)).1⟩
theorem RowAt.dop {W : World} {a : Option Addr} {xs : List Dop} (h : RowAt dopE W a xs) (i : Nat) (hi : i < xs.length) : ∃ g, a = some ⟨g, 0, none⟩ ∧ g < W.heap.size ∧ W.cell? ⟨g, i * 4, none⟩ = some (.int .i64 xs[i].kind) ∧ W.cell? ⟨g, i * 4 + 1, none⟩ = some (.string xs[i].name) ∧ W.cell? ⟨g, i * 4 + 2, none⟩ = some (.string xs[i].to) ∧ W.cell? ⟨g, i * 4 + 3, none⟩ = some (.string xs[i].data) := by
  obtain ⟨g, e1, hl, h1⟩ := h i hi
  exact ⟨g, e1, hl, (h1 0 (by decide)).1, (h1 1 (by decide)).1, (h1 2 (by decide)).1, (h1 3 (by decide)).1⟩
end Go.Proofs.Ytknpccpfjclngaa
