/- Frames in bytes, as plain mathematics: the frame with which bytes begin; all frames of bytes. -/
import Derived.Test.YtnkjdojpegmlcaaShaM
import Derived.Test.YtnkjdojpegmlcaaShaD
import Derived.Test.YtnkjdojpegmlcaaCrcT
namespace Go.Proofs.Ytnkjdojpegmlcaa.Plain
open Go Go.RowKit
set_option linter.unusedVariables false

def bAt (r : ByteArray) (i : Nat) : Nat := (r.data.toList.getD i 0).toNat
theorem bAt_get (r : ByteArray) (i : Nat) (h : i < r.size) : r[i].toNat = bAt r i := by
  unfold bAt
  rw [List.getD, List.getElem?_eq_getElem (by simpa using h)]
  rfl
theorem bAt_lt (r : ByteArray) (i : Nat) : bAt r i < 256 := UInt8.toNat_lt _

/-- The number in four bytes, the lowest first. -/
def wdI (r : ByteArray) : Int := hiI (bAt r 3) (bAt r 2) (bAt r 1) (bAt r 0)
theorem wdI_word (r : ByteArray) : 0 ≤ wdI r ∧ wdI r < 4294967296 := by unfold wdI hiI; exact bits_word _ _ _

theorem or_bv (x y : Int) : bits .or .u32 x y = (((BitVec.ofInt 32 x) ||| (BitVec.ofInt 32 y)).toNat : Int) := by
  unfold bits
  show IntKind.wrap .u32 ((BitVec.ofInt 32 x ||| BitVec.ofInt 32 y).toNat : Int) = _
  rw [IntKind.wrap_u32']
  have := ((BitVec.ofInt 32 x) ||| (BitVec.ofInt 32 y)).isLt
  omega
theorem bv_back (v : BitVec 32) : BitVec.ofInt 32 (v.toNat : Int) = v := by
  apply BitVec.eq_of_toNat_eq
  rw [BitVec.toNat_ofInt]
  have := v.isLt
  omega
/-- The same number, put together from the other side. -/
theorem low_hi (a b c d : Int) : bits .or .u32 (bits .or .u32 (bits .or .u32 d (c * 256)) (b * 65536)) (a * 16777216) = hiI a b c d := by
  unfold hiI
  simp only [or_bv, bv_back]
  congr 2
  ac_rfl

/-- How the bytes r begin: a fault's code, or 0 and how many bytes the frame has. -/
def szI (r : ByteArray) : Int × Nat :=
  if bAt r 0 < 1 ∨ 100 < bAt r 0 then (2, 0)
  else if r.size < 5 then (1, 0)
  else if 20000 < wdI (r.extract 1 5) then (3, 0)
  else if r.size < 9 + (wdI (r.extract 1 5)).toNat then (1, 0)
  else (0, 9 + (wdI (r.extract 1 5)).toNat)
/-- The same with the bytes' sum. -/
def frC (r : ByteArray) : Int := if (szI r).1 ≠ 0 then (szI r).1 else if crcI (r.extract 0 ((szI r).2 - 4)) = wdI (r.extract ((szI r).2 - 4) (szI r).2) then 0 else 4
def frN (r : ByteArray) : Nat := (szI r).2
def frB (r : ByteArray) : ByteArray := r.extract 5 (frN r - 4)
def frm (r : ByteArray) : Int × ByteArray := (((bAt r 0 : Nat) : Int), frB r)

theorem szI_ok {r : ByteArray} (h : (szI r).1 = 0) : 9 ≤ (szI r).2 ∧ (szI r).2 ≤ r.size ∧ (szI r).2 ≤ 20009 ∧ 1 ≤ bAt r 0 ∧ bAt r 0 ≤ 100 := by
  unfold szI at *
  split at h
  · simp at h
  · rename_i h1
    split at h
    · simp at h
    · split at h
      · simp at h
      · rename_i h3
        split at h
        · simp at h
        · rename_i h4
          rw [if_neg h1, if_neg (by omega), if_neg h3, if_neg h4]
          have := (wdI_word (r.extract 1 5)).1
          simp only
          omega
theorem frC_ok {r : ByteArray} (h : frC r = 0) : (szI r).1 = 0 := by
  unfold frC at h
  split at h
  · rename_i h1; exact absurd h h1
  · rename_i h1; simpa using h1

/-- All frames from place p on, when done of them are read: the frames, the place, the code. -/
def run (s : ByteArray) : Nat → Nat → Nat → List (Int × ByteArray) × Nat × Int
  | 0, p, done => ([], p, 0)
  | f + 1, p, done =>
    if s.size ≤ p then ([], p, 0)
    else if done = 2000 then ([], p, 5)
    else if frC (s.extract p s.size) ≠ 0 then ([], p, frC (s.extract p s.size))
    else (frm (s.extract p s.size) :: (run s f (p + frN (s.extract p s.size)) (done + 1)).1, (run s f (p + frN (s.extract p s.size)) (done + 1)).2)
theorem run_end (s : ByteArray) (f p done : Nat) (h : s.size ≤ p) : run s (f + 1) p done = ([], p, 0) := by rw [run, if_pos h]
theorem run_many (s : ByteArray) (f p : Nat) (h : ¬ s.size ≤ p) : run s (f + 1) p 2000 = ([], p, 5) := by rw [run, if_neg h, if_pos rfl]
theorem run_code (s : ByteArray) (f p done : Nat) (h : ¬ s.size ≤ p) (h2 : done ≠ 2000) (h3 : frC (s.extract p s.size) ≠ 0) : run s (f + 1) p done = ([], p, frC (s.extract p s.size)) := by
  rw [run, if_neg h, if_neg h2, if_pos h3]
theorem run_next (s : ByteArray) (f p done : Nat) (h : ¬ s.size ≤ p) (h2 : done ≠ 2000) (h3 : frC (s.extract p s.size) = 0) : run s (f + 1) p done = (frm (s.extract p s.size) :: (run s f (p + frN (s.extract p s.size)) (done + 1)).1, (run s f (p + frN (s.extract p s.size)) (done + 1)).2) := by
  rw [run, if_neg h, if_neg h2, if_neg (by simp [h3])]
def readF (s : ByteArray) : List (Int × ByteArray) × Nat × Int := run s 2001 0 0
/-- The state of a reader that has read the frames F and stands at p. -/
def Mid (s : ByteArray) (F : List (Int × ByteArray)) (p : Nat) : Prop := F.length ≤ 2000 ∧ p ≤ s.size ∧ readF s = (F ++ (run s (2001 - F.length) p F.length).1, (run s (2001 - F.length) p F.length).2)
theorem Mid.start (s : ByteArray) : Mid s [] 0 := by
  refine ⟨Nat.zero_le _, Nat.zero_le _, ?_⟩
  rw [List.nil_append, List.length_nil, Nat.sub_zero]
  unfold readF
  exact rfl
theorem rest_size (s : ByteArray) (p : Nat) : (s.extract p s.size).size = s.size - p := by simp
theorem Mid.next {s : ByteArray} {F : List (Int × ByteArray)} {p : Nat} (h : Mid s F p) (h1 : ¬ s.size ≤ p) (h2 : F.length ≠ 2000) (h3 : frC (s.extract p s.size) = 0) :
    Mid s (F ++ [frm (s.extract p s.size)]) (p + frN (s.extract p s.size)) := by
  obtain ⟨a, b, c⟩ := h
  have hz := (szI_ok (frC_ok h3)).2.1
  rw [rest_size] at hz
  refine ⟨by simp; omega, by unfold frN; omega, ?_⟩
  rw [c, show 2001 - F.length = (2001 - F.length - 1) + 1 from by omega, run_next s _ p _ h1 h2 h3]
  simp only [List.length_append, List.length_cons, List.length_nil, List.append_assoc, List.singleton_append]
  rw [show 2001 - (F.length + (0 + 1)) = 2001 - F.length - 1 from by omega]
theorem Mid.ends {s : ByteArray} {F : List (Int × ByteArray)} {p : Nat} (h : Mid s F p) (h1 : s.size ≤ p) : readF s = (F, p, 0) := by
  obtain ⟨a, b, c⟩ := h
  rw [c, show 2001 - F.length = (2001 - F.length - 1) + 1 from by omega, run_end s _ p _ h1]
  simp
theorem Mid.many {s : ByteArray} {F : List (Int × ByteArray)} {p : Nat} (h : Mid s F p) (h1 : ¬ s.size ≤ p) (h2 : F.length = 2000) : readF s = (F, p, 5) := by
  obtain ⟨a, b, c⟩ := h
  rw [h2] at c
  rw [c, show 2001 - 2000 = 0 + 1 from rfl, run_many s _ p h1]
  simp
theorem Mid.code {s : ByteArray} {F : List (Int × ByteArray)} {p : Nat} (h : Mid s F p) (h1 : ¬ s.size ≤ p) (h2 : F.length ≠ 2000) (h3 : frC (s.extract p s.size) ≠ 0) : readF s = (F, p, frC (s.extract p s.size)) := by
  obtain ⟨a, b, c⟩ := h
  rw [c, show 2001 - F.length = (2001 - F.length - 1) + 1 from by omega, run_code s _ p _ h1 h2 h3]
  simp
end Go.Proofs.Ytnkjdojpegmlcaa.Plain
