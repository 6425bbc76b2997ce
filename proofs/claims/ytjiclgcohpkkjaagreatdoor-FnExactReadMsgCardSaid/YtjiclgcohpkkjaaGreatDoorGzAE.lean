/- Texts of one kind, put together. -/
import Derived.Test.YtjiclgcohpkkjaaGreatDoorGzAD
import Derived.Test.YtjiclgcohpkkjaaGreatDoorCrcT
import Derived.Test.YtjiclgcohpkkjaaGreatDoorWf
import Derived.Test.YtjiclgcohpkkjaaGreatDoorCrcW
import Derived.Test.YtjiclgcohpkkjaaGreatDoorGzAB
import Derived.Test.YtjiclgcohpkkjaaGreatDoorGzAC
import Derived.Laws.OwnMore
import Derived.Laws.MakeOwn

/- Frames in bytes, as plain mathematics: the frame with which bytes begin; all frames of bytes. -/
namespace Go.Proofs.YtjiclgcohpkkjaaGreatDoor.Plain
open Go Go.RowKit
set_option linter.unusedVariables false

def bAt (r : ByteArray) (i : Nat) : Nat := (r.data.toList.getD i 0).toNat
theorem bAt_get (r : ByteArray) (i : Nat) (h : i < r.size) : r[i].toNat = bAt r i := by
  unfold bAt
  rw [List.getD, List.getElem?_eq_getElem (by simpa using h)]
  rfl
theorem bAt_lt (r : ByteArray) (i : Nat) : bAt r i < 256 := UInt8.toNat_lt _

/-- The number in four bytes, the lowest first. -/
def wdI (r : ByteArray) : Int := hiI (bAt r 3) (bAt r 2) (bAt r 1) (bAt r 0)
theorem wdI_word (r : ByteArray) : 0 ≤ wdI r ∧ wdI r < 4294967296 := by unfold wdI hiI; exact bits_word _ _ _

theorem or_bv (x y : Int) : bits .or .u32 x y = (((BitVec.ofInt 32 x) ||| (BitVec.ofInt 32 y)).toNat : Int) := by
  unfold bits
  show IntKind.wrap .u32 ((BitVec.ofInt 32 x ||| BitVec.ofInt 32 y).toNat : Int) = _
  rw [IntKind.wrap_u32']
  have := ((BitVec.ofInt 32 x) ||| (BitVec.ofInt 32 y)).isLt
  omega
theorem bv_back (v : BitVec 32) : BitVec.ofInt 32 (v.toNat : Int) = v := by
  apply BitVec.eq_of_toNat_eq
  rw [BitVec.toNat_ofInt]
  have := v.isLt
  omega
/-- The same number, put together from the other side. -/
theorem low_hi (a b c d : Int) : bits .or .u32 (bits .or .u32 (bits .or .u32 d (c * 256)) (b * 65536)) (a * 16777216) = hiI a b c d := by
  unfold hiI
  simp only [or_bv, bv_back]
  congr 2
  ac_rfl

/-- How the bytes r begin: a fault's code, or 0 and how many bytes the frame has. -/
def szI (r : ByteArray) : Int × Nat :=
  if bAt r 0 < 1 ∨ 100 < bAt r 0 then (2, 0)
  else if r.size < 5 then (1, 0)
  else if 20000 < wdI (r.extract 1 5) then (3, 0)
  else if r.size < 9 + (wdI (r.extract 1 5)).toNat then (1, 0)
  else (0, 9 + (wdI (r.extract 1 5)).toNat)
/-- The same with the bytes' sum. -/
def frC (r : ByteArray) : Int := if (szI r).1 ≠ 0 then (szI r).1 else if crcI (r.extract 0 ((szI r).2 - 4)) = wdI (r.extract ((szI r).2 - 4) (szI r).2) then 0 else 4
def frN (r : ByteArray) : Nat := (szI r).2
def frB (r : ByteArray) : ByteArray := r.extract 5 (frN r - 4)
def frm (r : ByteArray) : Int × ByteArray := (((bAt r 0 : Nat) : Int), frB r)

theorem szI_ok {r : ByteArray} (h : (szI r).1 = 0) : 9 ≤ (szI r).2 ∧ (szI r).2 ≤ r.size ∧ (szI r).2 ≤ 20009 ∧ 1 ≤ bAt r 0 ∧ bAt r 0 ≤ 100 := by
  unfold szI at *
  split at h
  · simp at h
  · rename_i h1
    split at h
    · simp at h
    · split at h
      · simp at h
      · rename_i h3
        split at h
        · simp at h
        · rename_i h4
          rw [if_neg h1, if_neg (by omega), if_neg h3, if_neg h4]
          have := (wdI_word (r.extract 1 5)).1
          simp only
          omega
theorem frC_ok {r : ByteArray} (h : frC r = 0) : (szI r).1 = 0 := by
  unfold frC at h
  split at h
  · rename_i h1; exact absurd h h1
  · rename_i h1; simpa using h1

/-- All frames from place p on, when done of them are read: the frames, the place, the code. -/
def run (s : ByteArray) : Nat → Nat → Nat → List (Int × ByteArray) × Nat × Int
  | 0, p, done => ([], p, 0)
  | f + 1, p, done =>
    if s.size ≤ p then ([], p, 0)
    else if done = 2000 then ([], p, 5)
    else if frC (s.extract p s.size) ≠ 0 then ([], p, frC (s.extract p s.size))
    else (frm (s.extract p s.size) :: (run s f (p + frN (s.extract p s.size)) (done + 1)).1, (run s f (p + frN (s.extract p s.size)) (done + 1)).2)
theorem run_end (s : ByteArray) (f p done : Nat) (h : s.size ≤ p) : run s (f + 1) p done = ([], p, 0) := by rw [run, if_pos h]
theorem run_many (s : ByteArray) (f p : Nat) (h : ¬ s.size ≤ p) : run s (f + 1) p 2000 = ([], p, 5) := by rw [run, if_neg h, if_pos rfl]
theorem run_code (s : ByteArray) (f p done : Nat) (h : ¬ s.size ≤ p) (h2 : done ≠ 2000) (h3 : frC (s.extract p s.size) ≠ 0) : run s (f + 1) p done = ([], p, frC (s.extract p s.size)) := by
  rw [run, if_neg h, if_neg h2, if_pos h3]
theorem run_next (s : ByteArray) (f p done : Nat) (h : ¬ s.size ≤ p) (h2 : done ≠ 2000) (h3 : frC (s.extract p s.size) = 0) : run s (f + 1) p done = (frm (s.extract p s.size) :: (run s f (p + frN (s.extract p s.size)) (done + 1)).1, (run s f (p + frN (s.extract p s.size)) (done + 1)).2) := by
  rw [run, if_neg h, if_neg h2, if_neg (by simp [h3])]
def readF (s : ByteArray) : List (Int × ByteArray) × Nat × Int := run s 2001 0 0
/-- The state of a reader that has read the frames F and stands at p. -/
def Mid (s : ByteArray) (F : List (Int × ByteArray)) (p : Nat) : Prop := F.length ≤ 2000 ∧ p ≤ s.size ∧ readF s = (F ++ (run s (2001 - F.length) p F.length).1, (run s (2001 - F.length) p F.length).2)
theorem Mid.start (s : ByteArray) : Mid s [] 0 := by
  refine ⟨Nat.zero_le _, Nat.zero_le _, ?_⟩
  rw [List.nil_append, List.length_nil, Nat.sub_zero]
  unfold readF
  exact rfl
theorem rest_size (s : ByteArray) (p : Nat) : (s.extract p s.size).size = s.size - p := by simp
theorem Mid.next {s : ByteArray} {F : List (Int × ByteArray)} {p : Nat} (h : Mid s F p) (h1 : ¬ s.size ≤ p) (h2 : F.length ≠ 2000) (h3 : frC (s.extract p s.size) = 0) :
    Mid s (F ++ [frm (s.extract p s.size)]) (p + frN (s.extract p s.size)) := by
  obtain ⟨a, b, c⟩ := h
  have hz := (szI_ok (frC_ok h3)).2.1
  rw [rest_size] at hz
  refine ⟨by simp; omega, by unfold frN; omega, ?_⟩
  rw [c, show 2001 - F.length = (2001 - F.length - 1) + 1 from by omega, run_next s _ p _ h1 h2 h3]
  simp only [List.length_append, List.length_cons, List.length_nil, List.append_assoc, List.singleton_append]
  rw [show 2001 - (F.length + (0 + 1)) = 2001 - F.length - 1 from by omega]
theorem Mid.ends {s : ByteArray} {F : List (Int × ByteArray)} {p : Nat} (h : Mid s F p) (h1 : s.size ≤ p) : readF s = (F, p, 0) := by
  obtain ⟨a, b, c⟩ := h
  rw [c, show 2001 - F.length = (2001 - F.length - 1) + 1 from by omega, run_end s _ p _ h1]
  simp
theorem Mid.many {s : ByteArray} {F : List (Int × ByteArray)} {p : Nat} (h : Mid s F p) (h1 : ¬ s.size ≤ p) (h2 : F.length = 2000) : readF s = (F, p, 5) := by
  obtain ⟨a, b, c⟩ := h
  rw [h2] at c
  rw [c, show 2001 - 2000 = 0 + 1 from rfl, run_many s _ p h1]
  simp
theorem Mid.code {s : ByteArray} {F : List (Int × ByteArray)} {p : Nat} (h : Mid s F p) (h1 : ¬ s.size ≤ p) (h2 : F.length ≠ 2000) (h3 : frC (s.extract p s.size) ≠ 0) : readF s = (F, p, frC (s.extract p s.size)) := by
  obtain ⟨a, b, c⟩ := h
  rw [c, show 2001 - F.length = (2001 - F.length - 1) + 1 from by omega, run_code s _ p _ h1 h2 h3]
  simp
end Go.Proofs.YtjiclgcohpkkjaaGreatDoor.Plain


/- A frame is read back from its bytes; with one byte turned, but in its length, it is not read. -/
namespace Go.Proofs.YtjiclgcohpkkjaaGreatDoor.Plain
open Go Go.RowKit
set_option linter.unusedVariables false

theorem or_nat (x y : Nat) (hx : x < 4294967296) (hy : y < 4294967296) : bits .or .u32 (x : Int) (y : Int) = ((x ||| y : Nat) : Int) := by
  rw [or_bv, BitVec.toNat_or]
  have e : ∀ z : Nat, z < 4294967296 → (BitVec.ofInt 32 (z : Int)).toNat = z := fun z hz => by rw [BitVec.toNat_ofInt]; omega
  rw [e x hx, e y hy]
theorem hi_sum (a b c d : Nat) (ha : a < 256) (hb : b < 256) (hc : c < 256) (hd : d < 256) : hiI a b c d = ((16777216 * a + 65536 * b + 256 * c + d : Nat) : Int) := by
  unfold hiI
  have e1 : (a : Int) * 16777216 = ((2 ^ 24 * a : Nat) : Int) := by omega
  have e2 : (b : Int) * 65536 = ((2 ^ 16 * b : Nat) : Int) := by omega
  have e3 : (c : Int) * 256 = ((2 ^ 8 * c : Nat) : Int) := by omega
  rw [e1, e2, e3, or_nat _ _ (by omega) (by omega), ← Nat.two_pow_add_eq_or_of_lt (by omega), or_nat _ _ (by omega) (by omega)]
  rw [show 2 ^ 24 * a + 2 ^ 16 * b = 2 ^ 16 * (2 ^ 8 * a + b) from by omega, ← Nat.two_pow_add_eq_or_of_lt (by omega), or_nat _ _ (by omega) (by omega)]
  rw [show 2 ^ 16 * (2 ^ 8 * a + b) + 2 ^ 8 * c = 2 ^ 8 * (2 ^ 16 * a + 2 ^ 8 * b + c) from by omega, ← Nat.two_pow_add_eq_or_of_lt (by omega)]
  first | done | (congr 1; omega)
theorem wd_sum (r : ByteArray) : wdI r = ((16777216 * bAt r 3 + 65536 * bAt r 2 + 256 * bAt r 1 + bAt r 0 : Nat) : Int) := hi_sum _ _ _ _ (bAt_lt _ _) (bAt_lt _ _) (bAt_lt _ _) (bAt_lt _ _)

theorem bAt_strOf (xs : List Int) (i : Nat) (h : i < xs.length) (h0 : 0 ≤ xs[i]) (h1 : xs[i] < 256) : (bAt (strOfNums xs) i : Int) = xs[i] := by
  unfold bAt
  rw [strOfNums_data, List.getD, List.getElem?_map, List.getElem?_eq_getElem h]
  simp
  omega
theorem wd_four (x : Int) (h0 : 0 ≤ x) (h1 : x < 4294967296) : wdI (strOfNums (fourL x)) = x := by
  rw [wd_sum]
  have a0 : (bAt (strOfNums (fourL x)) 0 : Int) = x % 256 := bAt_strOf (fourL x) 0 (by simp [fourL]) (by simp [fourL]; omega) (by simp [fourL]; omega)
  have a1 : (bAt (strOfNums (fourL x)) 1 : Int) = x / 256 % 256 := bAt_strOf (fourL x) 1 (by simp [fourL]) (by simp [fourL]; omega) (by simp [fourL]; omega)
  have a2 : (bAt (strOfNums (fourL x)) 2 : Int) = x / 65536 % 256 := bAt_strOf (fourL x) 2 (by simp [fourL]) (by simp [fourL]; omega) (by simp [fourL]; omega)
  have a3 : (bAt (strOfNums (fourL x)) 3 : Int) = x / 16777216 := bAt_strOf (fourL x) 3 (by simp [fourL]) (by simp [fourL]; omega) (by simp [fourL]; omega)
  omega

theorem bAt_extract (r : ByteArray) (a b j : Nat) (h : a + j < b) (hb : b ≤ r.size) : bAt (r.extract a b) j = bAt r (a + j) := by
  rw [← bAt_get _ j (by simp; omega), ← bAt_get _ (a + j) (by omega), ByteArray.getElem_extract]
theorem bAt_out (r : ByteArray) (j : Nat) (h : r.size ≤ j) : bAt r j = 0 := by
  unfold bAt
  rw [List.getD, List.getElem?_eq_none (by simpa using h)]
  rfl
theorem ext_bAt (r t : ByteArray) (hsz : r.size = t.size) (h : ∀ j, j < r.size → bAt r j = bAt t j) : r = t := by
  apply ByteArray.ext
  apply Array.ext'
  apply List.ext_getElem
  · simpa using hsz
  · intro i h1 h2
    have h1' : i < r.size := by simpa using h1
    have h2' : i < t.size := by simpa using h2
    have e := h i h1'
    rw [← bAt_get r i h1', ← bAt_get t i h2'] at e
    exact UInt8.toNat_inj.1 e
theorem pre_of (a b : ByteArray) : (a ++ b).extract 0 a.size = a := by
  apply ByteArray.ext
  apply Array.ext'
  rw [extract_list, app_list, ← len_list a]
  simp

/-- What a frame's bytes are made of. -/
theorem frame_parts (k : Int) (body : ByteArray) (h0 : 1 ≤ k) (h1 : k ≤ 100) (h2 : body.size ≤ 20000) :
    (frameB k body).size = body.size + 9 ∧ (bAt (frameB k body) 0 : Int) = k ∧ wdI ((frameB k body).extract 1 5) = body.size ∧ (frameB k body).extract 5 (body.size + 5) = body ∧
    (frameB k body).extract 0 (body.size + 5) = sealB k body ∧ (frameB k body).extract (body.size + 5) (body.size + 9) = strOfNums (fourL (crcI (sealB k body))) := by
  have e : frameB k body = sealB k body ++ strOfNums (fourL (crcI (sealB k body))) := by unfold frameB; rw [if_pos ⟨h0, h1, h2⟩]
  have hs := seal_size k body
  have h4 := four_size (crcI (sealB k body))
  have h5 := four_size body.size
  have h6 := one_size k
  have hsz : (frameB k body).size = body.size + 9 := by rw [e, ByteArray.size_append, hs, h4]; omega
  refine ⟨hsz, ?_, ?_, ?_, ?_, ?_⟩
  · have := bAt_strOf [k] 0 (by simp) (by simp; omega) (by simp; omega)
    have e2 : frameB k body = strOfNums [k] ++ (strOfNums (fourL body.size) ++ (body ++ strOfNums (fourL (crcI (sealB k body))))) := by rw [e]; unfold sealB; simp only [ByteArray.append_assoc]
    have hx := pre_of (strOfNums [k]) (strOfNums (fourL body.size) ++ (body ++ strOfNums (fourL (crcI (sealB k body)))))
    rw [← e2, h6] at hx
    have hy := bAt_extract (frameB k body) 0 1 0 (by omega) (by omega)
    rw [hx, Nat.add_zero] at hy
    rw [← hy]
    simpa using this
  · have e2 : frameB k body = strOfNums [k] ++ (strOfNums (fourL body.size) ++ (body ++ strOfNums (fourL (crcI (sealB k body))))) := by rw [e]; unfold sealB; simp only [ByteArray.append_assoc]
    have hx := mid_of (strOfNums [k]) (strOfNums (fourL body.size)) (body ++ strOfNums (fourL (crcI (sealB k body))))
    rw [← e2, h6, h5] at hx
    rw [hx]
    exact wd_four _ (by omega) (by omega)
  · have e2 : frameB k body = (strOfNums [k] ++ strOfNums (fourL body.size)) ++ (body ++ strOfNums (fourL (crcI (sealB k body)))) := by rw [e]; unfold sealB; simp only [ByteArray.append_assoc]
    have hx := mid_of (strOfNums [k] ++ strOfNums (fourL body.size)) body (strOfNums (fourL (crcI (sealB k body))))
    rw [← e2, ByteArray.size_append, h6, h5] at hx
    rw [show body.size + 5 = 1 + 4 + body.size from by omega]
    exact hx
  · have hx := pre_of (sealB k body) (strOfNums (fourL (crcI (sealB k body))))
    rw [← e, hs] at hx
    rw [show body.size + 5 = 5 + body.size from by omega]
    exact hx
  · have hx := rest_of (sealB k body) (strOfNums (fourL (crcI (sealB k body))))
    rw [← e, hs, hsz] at hx
    rw [show body.size + 5 = 5 + body.size from by omega]
    exact hx

theorem frame_back (k : Int) (body : ByteArray) (h0 : 1 ≤ k) (h1 : k ≤ 100) (h2 : body.size ≤ 20000) :
    szI (frameB k body) = (0, body.size + 9) ∧ frC (frameB k body) = 0 ∧ frm (frameB k body) = (k, body) := by
  obtain ⟨p1, p2, p3, p4, p5, p6⟩ := frame_parts k body h0 h1 h2
  have hsz : szI (frameB k body) = (0, body.size + 9) := by
    unfold szI
    rw [if_neg (by omega), if_neg (by omega), p3, if_neg (by omega), Int.toNat_natCast, if_neg (by omega)]
    rw [Nat.add_comm]
  have hr := crcI_range (sealB k body)
  refine ⟨hsz, ?_, ?_⟩
  · unfold frC
    rw [hsz, if_neg (by simp)]
    simp only
    rw [show body.size + 9 - 4 = body.size + 5 from by omega, p5, p6, wd_four _ hr.1 hr.2, if_pos rfl]
  · unfold frm frB frN
    rw [hsz]
    simp only
    rw [show body.size + 9 - 4 = body.size + 5 from by omega, p4, p2]

theorem read_one (s : ByteArray) (hs : 1 ≤ s.size) (h : frC s = 0) (hn : (szI s).2 = s.size) : readF s = ([frm s], s.size, 0) := by
  have hx : s.extract 0 s.size = s := by apply ByteArray.ext; apply Array.ext'; rw [extract_list, List.drop_zero, Nat.sub_zero, ← len_list s, List.take_length]
  have m0 := Mid.start s
  have m1 := m0.next (by omega) (by simp) (by rw [hx]; exact h)
  rw [hx] at m1
  have hfn : frN s = s.size := hn
  rw [hfn] at m1
  simpa using m1.ends (by omega)
theorem read_none (s : ByteArray) (hs : 1 ≤ s.size) (h : frC s ≠ 0) : readF s = ([], 0, frC s) := by
  have hx : s.extract 0 s.size = s := by apply ByteArray.ext; apply Array.ext'; rw [extract_list, List.drop_zero, Nat.sub_zero, ← len_list s, List.take_length]
  have := (Mid.start s).code (by omega) (by simp) (by rw [hx]; exact h)
  rwa [hx] at this

/-! ### One byte turned -/
theorem steps_inj {x y : Int} (hx : 0 ≤ x ∧ x < 4294967296) (hy : 0 ≤ y ∧ y < 4294967296) (h : stepsI 8 x = stepsI 8 y) : x = y := by
  obtain ⟨a, rfl⟩ := word_of hx.1 hx.2
  obtain ⟨b, rfl⟩ := word_of hy.1 hy.2
  rw [stepsI_word, stepsI_word] at h
  have : bsteps 8 a = bsteps 8 b := BitVec.eq_of_toNat_eq (by omega)
  rw [bsteps_inj 8 a b this]
theorem xor_left {x y c : Int} (hx : 0 ≤ x ∧ x < 4294967296) (hy : 0 ≤ y ∧ y < 4294967296) (hc : 0 ≤ c ∧ c < 4294967296) (h : bits .xor .u32 x c = bits .xor .u32 y c) : x = y := by
  obtain ⟨a, rfl⟩ := word_of hx.1 hx.2
  obtain ⟨b, rfl⟩ := word_of hy.1 hy.2
  obtain ⟨d, rfl⟩ := word_of hc.1 hc.2
  rw [xor_word, xor_word] at h
  have h2 : a ^^^ d = b ^^^ d := BitVec.eq_of_toNat_eq (by omega)
  have h3 : (a ^^^ d) ^^^ d = (b ^^^ d) ^^^ d := by rw [h2]
  simp only [BitVec.xor_assoc, BitVec.xor_self, BitVec.xor_zero] at h3
  rw [h3]
theorem xor_right {x c d : Int} (hx : 0 ≤ x ∧ x < 4294967296) (hc : 0 ≤ c ∧ c < 4294967296) (hd : 0 ≤ d ∧ d < 4294967296) (h : bits .xor .u32 x c = bits .xor .u32 x d) : c = d := by
  obtain ⟨a, rfl⟩ := word_of hx.1 hx.2
  obtain ⟨b, rfl⟩ := word_of hc.1 hc.2
  obtain ⟨e, rfl⟩ := word_of hd.1 hd.2
  rw [xor_word, xor_word] at h
  have h2 : a ^^^ b = a ^^^ e := BitVec.eq_of_toNat_eq (by omega)
  have h3 : a ^^^ (a ^^^ b) = a ^^^ (a ^^^ e) := by rw [h2]
  simp only [← BitVec.xor_assoc, BitVec.xor_self, BitVec.zero_xor] at h3
  rw [h3]
theorem crcAt_step (s : ByteArray) (k : Nat) : crcAt s (k + 1) = stepsI 8 (bits .xor .u32 (crcAt s k) (bAt s k : Int)) := rfl
theorem crc_diff (s t : ByteArray) (i : Nat) (hsz : s.size = t.size) (hi : i < s.size) (hne : bAt s i ≠ bAt t i) (heq : ∀ j, j ≠ i → bAt s j = bAt t j) : crcI s ≠ crcI t := by
  have hw : ∀ (r : ByteArray) (j : Nat), (0 : Int) ≤ (bAt r j : Int) ∧ (bAt r j : Int) < 4294967296 := fun r j => by have := bAt_lt r j; omega
  have pre : ∀ k, k ≤ i → crcAt s k = crcAt t k := by
    intro k
    induction k with
    | zero => intro _; rfl
    | succ k ih => intro h; rw [crcAt_step, crcAt_step, ih (by omega), heq k (by omega)]
  have post : ∀ k, i < k → crcAt s k ≠ crcAt t k := by
    intro k
    induction k with
    | zero => intro h; omega
    | succ k ih =>
      intro h e
      rw [crcAt_step, crcAt_step] at e
      have e2 := steps_inj (bits_u32_range _ _ _) (bits_u32_range _ _ _) e
      by_cases hk : k = i
      · subst hk
        rw [pre k (Nat.le_refl _)] at e2
        have := xor_right (crcAt_range t k) (hw s k) (hw t k) e2
        omega
      · rw [heq k hk] at e2
        exact ih (by omega) (xor_left (crcAt_range s k) (crcAt_range t k) (hw t k) e2)
  intro e
  unfold crcI at e
  rw [← hsz] at e
  have := xor_right (by decide) (crcAt_range s s.size) (crcAt_range t s.size) e
  exact post s.size hi this

theorem wd_diff (r t : ByteArray) (i : Nat) (hi : i < 4) (hne : bAt r i ≠ bAt t i) (heq : ∀ j, j ≠ i → bAt r j = bAt t j) : wdI r ≠ wdI t := by
  intro e
  rw [wd_sum, wd_sum] at e
  have r0 := bAt_lt r 0; have r1 := bAt_lt r 1; have r2 := bAt_lt r 2; have r3 := bAt_lt r 3
  have t0 := bAt_lt t 0; have t1 := bAt_lt t 1; have t2 := bAt_lt t 2; have t3 := bAt_lt t 3
  match i, hi with
  | 0, _ => omega
  | 1, _ => omega
  | 2, _ => omega
  | 3, _ => omega

theorem wd_same (r t : ByteArray) (h : ∀ j, j < 4 → bAt r j = bAt t j) : wdI r = wdI t := by
  rw [wd_sum, wd_sum, h 0 (by omega), h 1 (by omega), h 2 (by omega), h 3 (by omega)]

/-- The sum is no more that of the bytes. -/
theorem bad_sum (s t : ByteArray) (i n : Nat) (hsz : s.size = n) (hts : t.size = n) (hn : 9 ≤ n) (hi : i < n) (hne : bAt s i ≠ bAt t i) (heq : ∀ j, j ≠ i → bAt s j = bAt t j)
    (hcrc : crcI (s.extract 0 (n - 4)) = wdI (s.extract (n - 4) n)) : crcI (t.extract 0 (n - 4)) ≠ wdI (t.extract (n - 4) n) := by
  have z1 : (t.extract 0 (n - 4)).size = n - 4 := by simp; omega
  have z2 : (s.extract 0 (n - 4)).size = n - 4 := by simp; omega
  have z3 : (t.extract (n - 4) n).size = 4 := by simp; omega
  have z4 : (s.extract (n - 4) n).size = 4 := by simp; omega
  by_cases hlo : i < n - 4
  · have e1 : wdI (t.extract (n - 4) n) = wdI (s.extract (n - 4) n) := wd_same _ _ (fun j hj => by
      rw [bAt_extract t (n - 4) n j (by omega) (by omega), bAt_extract s (n - 4) n j (by omega) (by omega)]
      exact (heq (n - 4 + j) (by omega)).symm)
    rw [e1, ← hcrc]
    refine crc_diff _ _ i (z1.trans z2.symm) (by rw [z1]; exact hlo) ?_ ?_
    · rw [bAt_extract t 0 (n - 4) i (by omega) (by omega), bAt_extract s 0 (n - 4) i (by omega) (by omega), Nat.zero_add]
      exact fun e => hne e.symm
    · intro j hj
      by_cases hjn : j < n - 4
      · rw [bAt_extract t 0 (n - 4) j (by omega) (by omega), bAt_extract s 0 (n - 4) j (by omega) (by omega), Nat.zero_add]
        exact (heq j hj).symm
      · rw [bAt_out _ _ (by rw [z1]; omega), bAt_out _ _ (by rw [z2]; omega)]
  · have e1 : crcI (t.extract 0 (n - 4)) = crcI (s.extract 0 (n - 4)) := by
      congr 1
      apply ext_bAt _ _ (z1.trans z2.symm)
      intro j hj
      rw [z1] at hj
      rw [bAt_extract t 0 (n - 4) j (by omega) (by omega), bAt_extract s 0 (n - 4) j (by omega) (by omega), Nat.zero_add]
      exact (heq j (by omega)).symm
    rw [e1, hcrc]
    refine wd_diff _ _ (i - (n - 4)) (by omega) ?_ ?_
    · rw [bAt_extract t (n - 4) n _ (by omega) (by omega), bAt_extract s (n - 4) n _ (by omega) (by omega), show n - 4 + (i - (n - 4)) = i from by omega]
      exact hne
    · intro j hj
      by_cases hjn : j < 4
      · rw [bAt_extract t (n - 4) n j (by omega) (by omega), bAt_extract s (n - 4) n j (by omega) (by omega)]
        exact heq _ (by omega)
      · rw [bAt_out _ _ (by rw [z4]; omega), bAt_out _ _ (by rw [z3]; omega)]

/-- A frame s, of which t has one byte turned, but in its length. -/
theorem bit_found (s t : ByteArray) (i n : Nat) (hs : szI s = (0, n)) (hsz : s.size = n) (hts : t.size = n) (hok : frC s = 0) (hi : i < n) (hi4 : ¬ (1 ≤ i ∧ i ≤ 4)) (hne : bAt s i ≠ bAt t i) (heq : ∀ j, j ≠ i → bAt s j = bAt t j) : frC t ≠ 0 := by
  have h0 : (szI s).1 = 0 := by rw [hs]
  obtain ⟨q1, q2, q3, q4, q5⟩ := szI_ok h0
  rw [hs] at q1 q2 q3
  simp only at q1 q2 q3
  have hw : wdI (t.extract 1 5) = wdI (s.extract 1 5) := wd_same _ _ (fun j hj => by
    rw [bAt_extract t 1 5 j (by omega) (by omega), bAt_extract s 1 5 j (by omega) (by omega)]
    exact (heq (1 + j) (by omega)).symm)
  have hcrc : crcI (s.extract 0 (n - 4)) = wdI (s.extract (n - 4) n) := by
    unfold frC at hok
    rw [hs, if_neg (by simp)] at hok
    simp only at hok
    split at hok
    · assumption
    · simp at hok
  by_cases hk : bAt t 0 < 1 ∨ 100 < bAt t 0
  · have : szI t = (2, 0) := by unfold szI; rw [if_pos hk]
    unfold frC
    rw [this]
    simp
  · have hst : szI t = (0, n) := by
      unfold szI at hs ⊢
      rw [if_neg (by omega), if_neg (by omega)] at hs
      rw [if_neg hk, if_neg (by omega), hw]
      split at hs
      · simp at hs
      · rename_i h3
        rw [if_neg h3]
        split at hs
        · simp at hs
        · rename_i h4
          rw [hts, ← hsz, if_neg h4]
          rw [← hsz] at hs
          exact hs
    unfold frC
    rw [hst, if_neg (by simp)]
    simp only
    have hbad := bad_sum s t i n hsz hts q1 hi hne heq hcrc
    rw [if_neg hbad]
    simp
end Go.Proofs.YtjiclgcohpkkjaaGreatDoor.Plain


/- Rows of texts, as the exact laws copy, measure and compare them. -/
namespace Go.Proofs.YtjiclgcohpkkjaaGreatDoor
open Go.RowKit Plain
set_option linter.unusedVariables false

namespace Plain
/-- The slice at a holds the texts ls. -/
def StrsAt (W : World) (a : Option Addr) (ls : List ByteArray) : Prop := ∀ i (h : i < ls.length), ∃ g o, a = some ⟨g, o, none⟩ ∧ g < W.heap.size ∧ W.cell? ⟨g, o + i, none⟩ = some (.string ls[i])
theorem StrsAt.below {W W' : World} {a : Option Addr} {ls : List ByteArray} (h : StrsAt W a ls) (hb : Below W.heap.size W W') : StrsAt W' a ls := fun i hi => by
  obtain ⟨g, o, e, hl, hc⟩ := h i hi
  exact ⟨g, o, e, Nat.lt_of_lt_of_le hl hb.size, (hb.cell (p := ⟨g, o + i, none⟩) hl).trans hc⟩
theorem StrsAt.via {W W' : World} {B : Nat} {a : Option Addr} {ls : List ByteArray} (h : StrsAt W a ls) (hb : Below B W W') (hB : W.heap.size ≤ B) : StrsAt W' a ls := h.below (hb.mono hB)
/-- An argument that is a slice of texts. -/
def StrsRow (W : World) (a : Option Addr) (n c : Nat) (ls : List ByteArray) : Prop := ls.length = n ∧ n ≤ maxLen ∧ (∀ l ∈ ls, l.size ≤ maxLen) ∧ StrsAt W a ls
theorem StrsAt.of_cells {W : World} {x : Addr} {ss : List ByteArray} {n : Nat} (hn : n ≤ ss.length) (h : ∀ i, i < ss.length → W.cell? (x.add i) = some (.string (ss.getD i ByteArray.empty))) : StrsAt W (some x) (ss.take n) := by
  intro i hi
  rw [List.length_take] at hi
  have hc := h i (by omega)
  obtain ⟨b, off, spot⟩ := x
  have hspot : spot = none := by simpa [Addr.add] using World.cell?_spot (h 0 (by omega))
  subst hspot
  rw [show (⟨b, off, none⟩ : Addr).add i = ⟨b, off + i, none⟩ from by unfold Addr.add; split <;> simp_all] at hc
  refine ⟨b, off, rfl, lt_of_cell hc, ?_⟩
  rw [hc, List.getElem_take, List.getD, List.getElem?_eq_getElem (show i < ss.length by omega), Option.getD_some]
theorem StrsAt.nil (W : World) (a : Option Addr) : StrsAt W a [] := fun i h => by simp at h
end Plain
theorem RowAt.strs {W : World} {a : Option Addr} {xs : List ByteArray} (h : RowAt strE W a xs) : StrsAt W a xs := fun i hi => by
  obtain ⟨g, e, hl, hc, hf⟩ := h.str i hi
  exact ⟨g, 0, e, hl, by rw [Nat.zero_add]; exact hc⟩

theorem flat_str (xs : List ByteArray) : xs.flatMap strE.enc = xs.map Value.string := by
  show xs.flatMap (fun s => [Value.string s]) = _
  induction xs with
  | nil => rfl
  | cons x l ih => rw [List.flatMap_cons, ih]; rfl
theorem OwnR.setS {W : World} {B g n cap k : Nat} {xs : List ByteArray} (h : OwnR strE W B (.slice (some ⟨g, 0, none⟩) n cap) xs) (hn : xs.length = n) (y : ByteArray) :
    OwnR strE (W.setCell ⟨g, k, none⟩ (.string y)) B (.slice (some ⟨g, 0, none⟩) n cap) (xs.set k y) := by
  unfold OwnR at h ⊢
  rw [flat_str] at h ⊢
  rw [List.length_set]
  subst hn
  rw [List.map_set]
  exact (World.ownsRow.stored h k (.string y)).1
def zerosS (n : Nat) : Array Value := madeCells #[.string ⟨#[]⟩] (n * 1)
theorem make_strs (n : Nat) (w : World) (hn : n ≤ 10000000) : (Instr.makeSlice 101 (.int .i64 n) (.int .i64 n)).run Tryz.prog w = .ok (.slice (some ⟨w.heap.size, 0, none⟩) n n) (w.alloc (.cells (zerosS n) 9)) := by
  obtain ⟨i0, hi, hz0, hz1, hz2⟩ := info_parts strE.hinfo
  have hb : i0.bytes = 16 := hz2
  have := run_make w 101 9 i0 (.string ⟨#[]⟩) Tryz.underlying101 hi hz0 .i64 .i64 n n (by omega) (by omega) (by rw [hb]; omega) (by omega)
  have hs : i0.size = 1 := hz1
  rw [hs] at this
  exact this
theorem own_zerosS (n : Nat) (w : World) (hn : n ≤ 10000000) : OwnR strE (w.alloc (.cells (zerosS n) 9)) w.heap.size (.slice (some ⟨w.heap.size, 0, none⟩) n n) (List.replicate n ⟨#[]⟩) := by
  unfold OwnR
  rw [flat_str, List.length_replicate]
  have := World.ownsRow_lit (base := w.heap.size) (e := 9) (size := 1) w (zerosS n) n (Nat.le_refl _) (by unfold maxLen; omega) (by simp [zerosS, size_madeCells])
  rw [show (zerosS n).toList = (List.replicate n (⟨#[]⟩ : ByteArray)).map Value.string from by
    unfold zerosS; rw [toList_madeCells_one, Nat.mul_one, List.map_replicate]] at this
  exact this



namespace Plain
def sumZ (ls : List ByteArray) : Nat := (ls.map fun l => l.size).sum
/-- What is left of a purse behind a row of texts; less than nought: it was too small. -/
def szL (ls : List ByteArray) (left : Int) : Int := if left < ls.length + sumZ ls then -1 else left - (ls.length + sumZ ls)
theorem sumZ_cons (x : ByteArray) (ls : List ByteArray) : sumZ (x :: ls) = x.size + sumZ ls := by simp [sumZ]
theorem sumZ_drop (ls : List ByteArray) (k : Nat) (h : k < ls.length) : sumZ (ls.drop k) = ls[k].size + sumZ (ls.drop (k + 1)) := by rw [List.drop_eq_getElem_cons h, sumZ_cons]
theorem sumZ_end (ls : List ByteArray) (k : Nat) (h : ls.length ≤ k) : sumZ (ls.drop k) = 0 := by rw [List.drop_of_length_le h]; rfl
theorem sumZ_mem (ls : List ByteArray) (x : ByteArray) (h : x ∈ ls) : x.size ≤ sumZ ls := by
  induction ls with
  | nil => simp at h
  | cons y l ih =>
    rw [sumZ_cons]
    rcases List.mem_cons.1 h with rfl | h
    · omega
    · have := ih h; omega
end Plain



end Go.Proofs.YtjiclgcohpkkjaaGreatDoor
