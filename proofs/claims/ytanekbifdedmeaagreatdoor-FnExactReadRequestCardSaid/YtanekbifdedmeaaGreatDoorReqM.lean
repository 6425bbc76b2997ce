/- Right requests, as mathematics. -/
import Derived.Test.YtanekbifdedmeaaGreatDoorHdrR
namespace Go.Proofs.YtanekbifdedmeaaGreatDoor.Plain
open Go.RowKit
set_option linter.unusedVariables false

/-- From the k-th byte on all are of a kind. -/
def allF (p : Nat → Bool) (s : ByteArray) (k : Nat) : Bool := (s.data.toList.drop k).all fun c => p c.toNat
theorem allF_step (p : Nat → Bool) (s : ByteArray) (k : Nat) (h : k < s.size) : allF p s k = (p s[k].toNat && allF p s (k + 1)) := by
  unfold allF
  rw [List.drop_eq_getElem_cons (by simpa using h)]
  rfl
theorem allF_end (p : Nat → Bool) (s : ByteArray) (k : Nat) (h : s.size ≤ k) : allF p s k = true := by
  unfold allF
  rw [List.drop_of_length_le (by simpa using h)]
  rfl
/-- lo to hi bytes, all of a kind. -/
def texB (lo hi : Nat) (p : Nat → Bool) (s : ByteArray) : Bool := decide (lo ≤ s.size) && decide (s.size ≤ hi) && allF p s 0
theorem texB_no {lo hi : Nat} {p : Nat → Bool} {s : ByteArray} (h : s.size < lo ∨ hi < s.size) : texB lo hi p s = false := by
  unfold texB
  rcases h with h | h
  · simp [show ¬ lo ≤ s.size from by omega]
  · simp [show ¬ s.size ≤ hi from by omega]
theorem texB_yes {lo hi : Nat} {p : Nat → Bool} {s : ByteArray} (h : lo ≤ s.size) (h2 : s.size ≤ hi) : texB lo hi p s = allF p s 0 := by
  unfold texB
  simp [h, h2]
theorem texB_ext {lo hi : Nat} {p q : Nat → Bool} {s : ByteArray} (h : ∀ c, p c = q c) : texB lo hi p s = texB lo hi q s := by rw [show p = q from funext h]

def capC (c : Nat) : Bool := decide (65 ≤ c) && decide (c ≤ 90)
def visC (c : Nat) : Bool := decide (33 ≤ c) && decide (c ≤ 126)
def pthC (c : Nat) : Bool := visC c && !decide (c = 63) && !decide (c = 35)
def qryC (c : Nat) : Bool := visC c && !decide (c = 38) && !decide (c = 61) && !decide (c = 35)
def nmeC (c : Nat) : Bool := decide (97 ≤ c) && decide (c ≤ 122) || decide (c = 45)
def valC (c : Nat) : Bool := visC c || decide (c = 32)

/-- low to 126, and none of some. -/
def lowC (low : Nat) (none : ByteArray) (c : Nat) : Bool := decide (low ≤ c) && decide (c ≤ 126) && !(none.data.toList.any fun b => decide (b.toNat = c))
theorem low_pth (c : Nat) : lowC 33 ⟨#[63, 35]⟩ c = pthC c := by
  unfold lowC pthC visC
  rw [Bool.eq_iff_iff]
  simp
  omega
theorem low_qry (c : Nat) : lowC 33 ⟨#[38, 61, 35]⟩ c = qryC c := by
  unfold lowC qryC visC
  rw [Bool.eq_iff_iff]
  simp
  omega
theorem low_val (c : Nat) : lowC 32 ⟨#[]⟩ c = valC c := by
  unfold lowC valC visC
  rw [Bool.eq_iff_iff]
  simp
  omega

/-- Neither begins nor ends with a blank. -/
def endB (s : ByteArray) : Bool := decide (s.size = 0) || (!decide ((s.data.toList.headD 0).toNat = 32) && !decide ((s.data.toList.getLastD 0).toNat = 32))
def pathB (s : ByteArray) : Bool := texB 1 400 pthC s && decide ((s.data.toList.headD 0).toNat = 47)
def qrwB (h : Hd) : Bool := texB 1 60 qryC h.1 && texB 0 200 qryC h.2
def clenL : List UInt8 := [99, 111, 110, 116, 101, 110, 116, 45, 108, 101, 110, 103, 116, 104]
def valB (s : ByteArray) : Bool := texB 0 500 valC s && endB s
def hrwB (h : Hd) : Bool := !(h.1.toList == clenL) && texB 1 60 nmeC h.1 && valB h.2
/-- At most 20 rows, each of a kind. -/
def fitB (p : Hd → Bool) (ls : List Hd) : Bool := decide (ls.length ≤ 20) && ls.all p
def askB (m p : ByteArray) (qs : List Hd) : Bool := texB 1 10 capC m && pathB p && fitB qrwB qs
theorem fitB_no {p : Hd → Bool} {ls : List Hd} (h : 20 < ls.length) : fitB p ls = false := by unfold fitB; simp [show ¬ ls.length ≤ 20 from by omega]
theorem fitB_yes {p : Hd → Bool} {ls : List Hd} (h : ls.length ≤ 20) : fitB p ls = (ls.drop 0).all p := by unfold fitB; simp [h]
theorem allH_step (p : Hd → Bool) (ls : List Hd) (k : Nat) (h : k < ls.length) : (ls.drop k).all p = (p ls[k] && (ls.drop (k + 1)).all p) := by
  rw [List.drop_eq_getElem_cons h]
  rfl
theorem allH_end (p : Hd → Bool) (ls : List Hd) (k : Nat) (h : ls.length ≤ k) : (ls.drop k).all p = true := by
  rw [List.drop_of_length_le h]
  rfl

/-- A list without the blanks at both its ends. -/
def trmL (l : List UInt8) : List UInt8 := (l.reverse.dropWhile fun c => c == 32).reverse.dropWhile fun c => c == 32
theorem dw_len {α : Type} (p : α → Bool) (l : List α) : (l.dropWhile p).length ≤ l.length := (List.dropWhile_sublist p).length_le
theorem dw_same {α : Type} (p : α → Bool) (l : List α) : l.dropWhile p = l ↔ ∀ x ∈ l.head?, p x = false := by
  cases l with
  | nil => simp
  | cons x t =>
    rw [List.dropWhile_cons]
    cases hp : p x with
    | false => simp [hp]
    | true =>
      simp only [if_true, List.head?_cons, Option.mem_some_iff, forall_eq', hp, Bool.true_eq_false, iff_false]
      intro h
      have := dw_len p t
      rw [h, List.length_cons] at this
      omega
theorem trm_len (l : List UInt8) : (trmL l).length ≤ (l.reverse.dropWhile fun c => c == 32).length := by
  unfold trmL
  have := dw_len (fun c : UInt8 => c == 32) (l.reverse.dropWhile fun c => c == 32).reverse
  simpa using this
theorem trm_same (l : List UInt8) : trmL l = l ↔ (∀ x ∈ l.head?, (x == 32) = false) ∧ (∀ x ∈ l.getLast?, (x == 32) = false) := by
  constructor
  · intro h
    have h1 : l.reverse.dropWhile (fun c => c == 32) = l.reverse := by
      have a := trm_len l
      rw [h] at a
      exact (List.dropWhile_sublist _).eq_of_length_le (by simpa using a)
    have h2 := (dw_same _ l.reverse).1 h1
    rw [List.head?_reverse] at h2
    unfold trmL at h
    rw [h1, List.reverse_reverse] at h
    exact ⟨(dw_same _ _).1 h, h2⟩
  · rintro ⟨h1, h2⟩
    unfold trmL
    rw [(dw_same _ l.reverse).2 (by rwa [List.head?_reverse]), List.reverse_reverse, (dw_same _ l).2 h1]
theorem u8_32 (x : UInt8) : (x == 32) = false ↔ ¬ x.toNat = 32 := by
  rw [beq_eq_false_iff_ne]
  constructor
  · intro h h2
    exact h (UInt8.toNat_inj.1 (by simpa using h2))
  · intro h h2
    subst h2
    exact h rfl
theorem trm_end (s : ByteArray) : endB s = true ↔ trmL s.data.toList = s.data.toList := by
  rw [trm_same]
  unfold endB
  have hz : s.size = s.data.toList.length := by simp
  rw [hz]
  generalize s.data.toList = l
  cases l with
  | nil => simp
  | cons x t =>
    have e1 : (x :: t).getLastD 0 = (x :: t).getLast (by simp) := rfl
    have e2 : (x :: t).headD 0 = x := rfl
    rw [e1, e2, List.getLast?_eq_some_getLast (by simp), List.head?_cons]
    generalize (x :: t).getLast (by simp) = y
    simp only [List.length_cons, Option.mem_some_iff, forall_eq', u8_32, Bool.or_eq_true, Bool.and_eq_true, Bool.not_eq_true', decide_eq_true_eq, decide_eq_false_iff_not]
    constructor
    · rintro (h | h)
      · omega
      · exact h
    · exact .inr
end Go.Proofs.YtanekbifdedmeaaGreatDoor.Plain
