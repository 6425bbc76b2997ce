/- Texts of one kind, put together. -/
import Derived.Test.YtakalfckhailjaaGreatGAA
import Derived.Test.YtakalfckhailjaaGreatGAB
import Derived.Test.YtakalfckhailjaaGreatGAC
import Derived.Test.YtakalfckhailjaaGreatGAE
import Derived.Test.YtakalfckhailjaaGreatGAH
import Derived.Deep.RegionLaw
import Derived.Laws.Rows
import Derived.OneCell
import Derived.ArgAppend
import Derived.Laws.IdiomStrings
import Derived.Deep.MidRow
import Derived.Lib.SlBytesConst

/- Frames in bytes, as plain mathematics: the frame with which bytes begin; all frames of bytes. -/
namespace Go.Proofs.YtakalfckhailjaaGreat.Plain
open Go Go.RowKit
set_option linter.unusedVariables false

def bAt (r : ByteArray) (i : Nat) : Nat := (r.data.toList.getD i 0).toNat
theorem bAt_get (r : ByteArray) (i : Nat) (h : i < r.size) : r[i].toNat = bAt r i := by
  unfold bAt
  rw [List.getD, List.getElem?_eq_getElem (by simpa using h)]
  rfl
theorem bAt_lt (r : ByteArray) (i : Nat) : bAt r i < 256 := UInt8.toNat_lt _

/-- The number in four bytes, the lowest first. -/
def wdI (r : ByteArray) : Int := hiI (bAt r 3) (bAt r 2) (bAt r 1) (bAt r 0)
theorem wdI_word (r : ByteArray) : 0 ≤ wdI r ∧ wdI r < 4294967296 := by unfold wdI hiI; exact bits_word _ _ _

theorem or_bv (x y : Int) : bits .or .u32 x y = (((BitVec.ofInt 32 x) ||| (BitVec.ofInt 32 y)).toNat : Int) := by
  unfold bits
  show IntKind.wrap .u32 ((BitVec.ofInt 32 x ||| BitVec.ofInt 32 y).toNat : Int) = _
  rw [IntKind.wrap_u32']
  have := ((BitVec.ofInt 32 x) ||| (BitVec.ofInt 32 y)).isLt
  omega
theorem bv_back (v : BitVec 32) : BitVec.ofInt 32 (v.toNat : Int) = v := by
  apply BitVec.eq_of_toNat_eq
  rw [BitVec.toNat_ofInt]
  have := v.isLt
  omega
/-- The same number, put together from the other side. -/
theorem low_hi (a b c d : Int) : bits .or .u32 (bits .or .u32 (bits .or .u32 d (c * 256)) (b * 65536)) (a * 16777216) = hiI a b c d := by
  unfold hiI
  simp only [or_bv, bv_back]
  congr 2
  ac_rfl

/-- How the bytes r begin: a fault's code, or 0 and how many bytes the frame has. -/
def szI (r : ByteArray) : Int × Nat :=
  if bAt r 0 < 1 ∨ 100 < bAt r 0 then (2, 0)
  else if r.size < 5 then (1, 0)
  else if 20000 < wdI (r.extract 1 5) then (3, 0)
  else if r.size < 9 + (wdI (r.extract 1 5)).toNat then (1, 0)
  else (0, 9 + (wdI (r.extract 1 5)).toNat)
/-- The same with the bytes' sum. -/
def frC (r : ByteArray) : Int := if (szI r).1 ≠ 0 then (szI r).1 else if crcI (r.extract 0 ((szI r).2 - 4)) = wdI (r.extract ((szI r).2 - 4) (szI r).2) then 0 else 4
def frN (r : ByteArray) : Nat := (szI r).2
def frB (r : ByteArray) : ByteArray := r.extract 5 (frN r - 4)
def frm (r : ByteArray) : Int × ByteArray := (((bAt r 0 : Nat) : Int), frB r)

theorem szI_ok {r : ByteArray} (h : (szI r).1 = 0) : 9 ≤ (szI r).2 ∧ (szI r).2 ≤ r.size ∧ (szI r).2 ≤ 20009 ∧ 1 ≤ bAt r 0 ∧ bAt r 0 ≤ 100 := by
  unfold szI at *
  split at h
  · simp at h
  · rename_i h1
    split at h
    · simp at h
    · split at h
      · simp at h
      · rename_i h3
        split at h
        · simp at h
        · rename_i h4
          rw [if_neg h1, if_neg (by omega), if_neg h3, if_neg h4]
          have := (wdI_word (r.extract 1 5)).1
          simp only
          omega
theorem frC_ok {r : ByteArray} (h : frC r = 0) : (szI r).1 = 0 := by
  unfold frC at h
  split at h
  · rename_i h1; exact absurd h h1
  · rename_i h1; simpa using h1

/-- All frames from place p on, when done of them are read: the frames, the place, the code. -/
def run (s : ByteArray) : Nat → Nat → Nat → List (Int × ByteArray) × Nat × Int
  | 0, p, done => ([], p, 0)
  | f + 1, p, done =>
    if s.size ≤ p then ([], p, 0)
    else if done = 2000 then ([], p, 5)
    else if frC (s.extract p s.size) ≠ 0 then ([], p, frC (s.extract p s.size))
    else (frm (s.extract p s.size) :: (run s f (p + frN (s.extract p s.size)) (done + 1)).1, (run s f (p + frN (s.extract p s.size)) (done + 1)).2)
theorem run_end (s : ByteArray) (f p done : Nat) (h : s.size ≤ p) : run s (f + 1) p done = ([], p, 0) := by rw [run, if_pos h]
theorem run_many (s : ByteArray) (f p : Nat) (h : ¬ s.size ≤ p) : run s (f + 1) p 2000 = ([], p, 5) := by rw [run, if_neg h, if_pos rfl]
theorem run_code (s : ByteArray) (f p done : Nat) (h : ¬ s.size ≤ p) (h2 : done ≠ 2000) (h3 : frC (s.extract p s.size) ≠ 0) : run s (f + 1) p done = ([], p, frC (s.extract p s.size)) := by
  rw [run, if_neg h, if_neg h2, if_pos h3]
theorem run_next (s : ByteArray) (f p done : Nat) (h : ¬ s.size ≤ p) (h2 : done ≠ 2000) (h3 : frC (s.extract p s.size) = 0) : run s (f + 1) p done = (frm (s.extract p s.size) :: (run s f (p + frN (s.extract p s.size)) (done + 1)).1, (run s f (p + frN (s.extract p s.size)) (done + 1)).2) := by
  rw [run, if_neg h, if_neg h2, if_neg (by simp [h3])]
def readF (s : ByteArray) : List (Int × ByteArray) × Nat × Int := run s 2001 0 0
/-- The state of a reader that has read the frames F and stands at p. -/
def Mid (s : ByteArray) (F : List (Int × ByteArray)) (p : Nat) : Prop := F.length ≤ 2000 ∧ p ≤ s.size ∧ readF s = (F ++ (run s (2001 - F.length) p F.length).1, (run s (2001 - F.length) p F.length).2)
theorem Mid.start (s : ByteArray) : Mid s [] 0 := by
  refine ⟨Nat.zero_le _, Nat.zero_le _, ?_⟩
  rw [List.nil_append, List.length_nil, Nat.sub_zero]
  unfold readF
  exact rfl
theorem rest_size (s : ByteArray) (p : Nat) : (s.extract p s.size).size = s.size - p := by simp
theorem Mid.next {s : ByteArray} {F : List (Int × ByteArray)} {p : Nat} (h : Mid s F p) (h1 : ¬ s.size ≤ p) (h2 : F.length ≠ 2000) (h3 : frC (s.extract p s.size) = 0) :
    Mid s (F ++ [frm (s.extract p s.size)]) (p + frN (s.extract p s.size)) := by
  obtain ⟨a, b, c⟩ := h
  have hz := (szI_ok (frC_ok h3)).2.1
  rw [rest_size] at hz
  refine ⟨by simp; omega, by unfold frN; omega, ?_⟩
  rw [c, show 2001 - F.length = (2001 - F.length - 1) + 1 from by omega, run_next s _ p _ h1 h2 h3]
  simp only [List.length_append, List.length_cons, List.length_nil, List.append_assoc, List.singleton_append]
  rw [show 2001 - (F.length + (0 + 1)) = 2001 - F.length - 1 from by omega]
theorem Mid.ends {s : ByteArray} {F : List (Int × ByteArray)} {p : Nat} (h : Mid s F p) (h1 : s.size ≤ p) : readF s = (F, p, 0) := by
  obtain ⟨a, b, c⟩ := h
  rw [c, show 2001 - F.length = (2001 - F.length - 1) + 1 from by omega, run_end s _ p _ h1]
  simp
theorem Mid.many {s : ByteArray} {F : List (Int × ByteArray)} {p : Nat} (h : Mid s F p) (h1 : ¬ s.size ≤ p) (h2 : F.length = 2000) : readF s = (F, p, 5) := by
  obtain ⟨a, b, c⟩ := h
  rw [h2] at c
  rw [c, show 2001 - 2000 = 0 + 1 from rfl, run_many s _ p h1]
  simp
theorem Mid.code {s : ByteArray} {F : List (Int × ByteArray)} {p : Nat} (h : Mid s F p) (h1 : ¬ s.size ≤ p) (h2 : F.length ≠ 2000) (h3 : frC (s.extract p s.size) ≠ 0) : readF s = (F, p, frC (s.extract p s.size)) := by
  obtain ⟨a, b, c⟩ := h
  rw [c, show 2001 - F.length = (2001 - F.length - 1) + 1 from by omega, run_code s _ p _ h1 h2 h3]
  simp
end Go.Proofs.YtakalfckhailjaaGreat.Plain


/- Texts and numbers behind one another: TakeNumber, PutText, TakeText of both programs by their contracts. -/
namespace Go.Proofs.YtakalfckhailjaaGreat
open Go.RowKit Plain
set_option linter.unusedVariables false

theorem numV_none {r : Option (Nat × Nat)} (h : r = none) : numV r = .tuple #[.int .i64 0, .bool false] := by subst h; rfl
theorem numV_some {r : Option (Nat × Nat)} {v l : Nat} (h : r = some (v, l)) : numV r = .tuple #[.int .i64 v, .bool true] := by subst h; rfl



theorem impl_PutText (s : ByteArray) (w : World) (hs : s.size ≤ 1000000000000) :
    Calls Tryz.prog 59 #[.string s] w fun e w' => e = .returned (.string (putT s)) ∧ Below w.heap.size w w' := by
  unfold putT
  by_cases h : s.size ≤ 20000
  · rw [if_pos h]
    have hu := putS_size (s.size : Int)
    go_enter Tryz.func59, Tryz.ntmps59
    go_wp2_with fail
    refine (impl_PutNumber _ _).mono ?_
    rintro e w1 ⟨rfl, hb⟩
    go_wp2
    go_ret
    exact ⟨rfl, hb⟩
  · rw [if_neg h]
    go_enter Tryz.func59, Tryz.ntmps59
    go_wp2
    go_ret
    exact ⟨rfl, Below.refl _ _⟩

theorem spec_PutText (s : ByteArray) (w : World) (hs : s.size ≤ 1000000000000) :
    Calls Tryz.prog 62 #[.string s] w fun e w' => e = .returned (.string (putT s)) ∧ Below w.heap.size w w' := by
  unfold putT
  by_cases h : s.size ≤ 20000
  · rw [if_pos h]
    have hu := putS_size (s.size : Int)
    go_enter Tryz.func62, Tryz.ntmps62
    go_wp2_with fail
    refine (spec_PutNumber _ _).mono ?_
    rintro e w1 ⟨rfl, hb⟩
    go_wp2
    go_ret
    exact ⟨rfl, hb⟩
  · rw [if_neg h]
    go_enter Tryz.func62, Tryz.ntmps62
    go_wp2
    go_ret
    exact ⟨rfl, Below.refl _ _⟩

/-- What the reader's field answers, and where its cursor stands behind it. -/
def fldV (s : ByteArray) (p : Nat) (r : Option (Nat × Nat)) : Value := match r with
  | none => .tuple #[.string ByteArray.empty, .bool false]
  | some (l, v) => .tuple #[.string (s.extract (p + l) (p + l + v)), .bool true]
def fldAt (p : Nat) (r : Option (Nat × Nat)) : Nat := match r with
  | none => p
  | some (l, v) => p + l + v

set_option maxHeartbeats 1000000 in
theorem field_ok (b off : Nat) (s : ByteArray) (p : Nat) (w : World) (hc0 : w.cell? ⟨b, off, none⟩ = some (.string s)) (hc1 : w.cell? ⟨b, off + 1, none⟩ = some (.int .i64 p))
    (hf : w.frozen? ⟨b, off + 1, none⟩ = false) (hs : s.size ≤ 1000000000000) (hp : p ≤ s.size) :
    Calls Tryz.prog 118 #[.pointer (some ⟨b, off, none⟩)] w fun e w' => e = .returned (fldV s p (tkT s p)) ∧ OnlyAt ⟨b, off + 1, none⟩ w w' ∧ w'.cell? ⟨b, off + 1, none⟩ = some (.int .i64 (fldAt p (tkT s p))) := by
  have hbl := lt_of_cell hc0
  cases hr : tkN s p with
  | none =>
    rw [tkT_none hr]
    have HN := hide hr
    clear hr
    go_enter Tryz.func118, Tryz.ntmps118
    go_wp2_with fail
    refine (number_ok b off s p _ hc0 hc1 hf hs hp).mono ?_
    rintro e w1 ⟨rfl, ho, hc⟩
    rw [numV_none (unhide HN)]
    have hf1 : w1.frozen? ⟨b, off + 1, none⟩ = false := (ho.frozen ⟨b, off + 1, none⟩ hbl).trans hf
    go_wp2
    go_ret2
    exact ⟨rfl, ho.trans (OnlyAt.setCell _ _ _), World.cell?_setCell_same _ _ _ hc⟩
  | some vl =>
    obtain ⟨v, l⟩ := vl
    have hle := tkN_le hr
    by_cases hv : v ≤ 20000
    · by_cases hfit : p + l + v ≤ s.size
      · rw [tkT_some hr hv hfit]
        have HN := hide hr
        clear hr
        go_enter Tryz.func118, Tryz.ntmps118
        go_wp2_with fail
        refine (number_ok b off s p _ hc0 hc1 hf hs hp).mono ?_
        rintro e w1 ⟨rfl, ho, hc⟩
        rw [numV_some (unhide HN)]
        have hf1 : w1.frozen? ⟨b, off + 1, none⟩ = false := (ho.frozen ⟨b, off + 1, none⟩ hbl).trans hf
        have hc1' : w1.cell? ⟨b, off + 1, none⟩ = some (.int .i64 ((p + l : Nat) : Int)) := by rw [hc, unhide HN]; rfl
        have hc0' : w1.cell? ⟨b, off, none⟩ = some (.string s) := (ho.cell ⟨b, off, none⟩ hbl (by simp)).trans hc0
        clear hc
        go_wp2_with fail
        refine (take_ok b off s (p + l) v _ hc0' hc1' hf1 hs (by omega) (by omega) (by omega)).mono ?_
        rintro e w2 ⟨rfl, ho2, hc2⟩
        rw [Int.toNat_natCast]
        go_wp2
        go_ret2
        exact ⟨rfl, ho.trans ho2, by rw [hc2]; unfold fldAt; go_num⟩
      · rw [tkT_not hr (by omega)]
        have HN := hide hr
        clear hr
        go_enter Tryz.func118, Tryz.ntmps118
        go_wp2_with fail
        refine (number_ok b off s p _ hc0 hc1 hf hs hp).mono ?_
        rintro e w1 ⟨rfl, ho, hc⟩
        rw [numV_some (unhide HN)]
        have hf1 : w1.frozen? ⟨b, off + 1, none⟩ = false := (ho.frozen ⟨b, off + 1, none⟩ hbl).trans hf
        have hc1' : w1.cell? ⟨b, off + 1, none⟩ = some (.int .i64 ((p + l : Nat) : Int)) := by rw [hc, unhide HN]; rfl
        have hc0' : w1.cell? ⟨b, off, none⟩ = some (.string s) := (ho.cell ⟨b, off, none⟩ hbl (by simp)).trans hc0
        clear hc
        go_wp2_with fail
        refine (take_short b off s (p + l) v _ hc0' hc1' hs (by omega) (by omega) (by omega)).mono ?_
        rintro e w2 ⟨rfl, kk, rfl⟩
        go_wp2
        go_ret2
        exact ⟨rfl, (ho.drewN kk).trans (OnlyAt.setCell _ _ _), World.cell?_setCell_same _ _ _ hc1'⟩
    · rw [tkT_not hr (by omega)]
      have HN := hide hr
      clear hr
      go_enter Tryz.func118, Tryz.ntmps118
      go_wp2_with fail
      refine (number_ok b off s p _ hc0 hc1 hf hs hp).mono ?_
      rintro e w1 ⟨rfl, ho, hc⟩
      rw [numV_some (unhide HN)]
      have hf1 : w1.frozen? ⟨b, off + 1, none⟩ = false := (ho.frozen ⟨b, off + 1, none⟩ hbl).trans hf
      go_wp2
      go_ret2
      exact ⟨rfl, ho.trans (OnlyAt.setCell _ _ _), World.cell?_setCell_same _ _ _ hc⟩

/-- What TakeText answers. -/
def textV (s : ByteArray) : Value := match tkT s 0 with
  | none => .tuple #[.string ByteArray.empty, .string ByteArray.empty, .bool false]
  | some (l, v) => .tuple #[.string (s.extract l (l + v)), .string (s.extract (l + v) s.size), .bool true]
theorem textV_none {s : ByteArray} (h : tkT s 0 = none) : textV s = .tuple #[.string ByteArray.empty, .string ByteArray.empty, .bool false] := by unfold textV; rw [h]
theorem textV_some {s : ByteArray} {l v : Nat} (h : tkT s 0 = some (l, v)) : textV s = .tuple #[.string (s.extract l (l + v)), .string (s.extract (l + v) s.size), .bool true] := by unfold textV; rw [h]

set_option maxHeartbeats 1000000 in
theorem spec_TakeText (s : ByteArray) (w : World) (hs : s.size ≤ 1000000000000) :
    Calls Tryz.prog 121 #[.string s] w fun e w' => e = .returned (textV s) ∧ Below w.heap.size w w' := by
  cases hr : tkN s 0 with
  | none =>
    rw [textV_none (tkT_none hr)]
    have HN := hide hr
    clear hr
    go_enter Tryz.func121, Tryz.ntmps121
    go_wp2_with fail
    refine (spec_TakeNumber s _ hs).mono ?_
    rintro e w1 ⟨rfl, kk, rfl⟩
    rw [takeV_none (unhide HN)]
    go_wp2
    go_ret3
    exact ⟨rfl, below_drewN (Below.refl _ _) _⟩
  | some vl =>
    obtain ⟨v, l⟩ := vl
    have hle := tkN_le hr
    have hsz : (s.extract l s.size).size = s.size - l := by rw [ByteArray.size_extract]; omega
    by_cases hfit : v ≤ 20000 ∧ 0 + l + v ≤ s.size
    · rw [textV_some (tkT_some hr hfit.1 hfit.2)]
      have hv := hfit.1
      have hv2 : l + v ≤ s.size := by omega
      have e1 := hide (ext_front s l v hv2)
      have e2 := hide (ext_back s l v hv2)
      have HN := hide hr
      clear hr hfit
      go_enter Tryz.func121, Tryz.ntmps121
      go_wp2_with fail
      refine (spec_TakeNumber s _ hs).mono ?_
      rintro e w1 ⟨rfl, kk, rfl⟩
      rw [takeV_some (unhide HN)]
      go_wp2
      go_region
      all_goals (try go_wp2)
      all_goals go_ret3
      all_goals exact ⟨by rw [← unhide e1, ← unhide e2]; rfl, (below_drewN (Below.refl _ _) kk).drew⟩
    · rw [textV_none (tkT_not hr hfit)]
      have HN := hide hr
      clear hr
      go_enter Tryz.func121, Tryz.ntmps121
      go_wp2_with fail
      refine (spec_TakeNumber s _ hs).mono ?_
      rintro e w1 ⟨rfl, kk, rfl⟩
      rw [takeV_some (unhide HN)]
      by_cases hv : v ≤ 20000
      all_goals
        go_wp2
        go_ret3
        exact ⟨rfl, below_drewN (Below.refl _ _) _⟩



end Go.Proofs.YtakalfckhailjaaGreat


/- Worlds that differ in some blocks alone; rows that lie elsewhere. -/
namespace Go.Proofs.YtakalfckhailjaaGreat
open Go.RowKit Plain
set_option linter.unusedVariables false

namespace Plain
/-- Nothing has changed but blocks of which p is so, and new blocks. -/
structure OnlyP (p : Nat → Prop) (w w' : World) : Prop where
  os : w'.os = w.os
  tape : w'.tape = w.tape
  output : w'.output = w.output
  size : w.heap.size ≤ w'.heap.size
  block : ∀ k, k < w.heap.size → ¬ p k → w'.heap[k]? = w.heap[k]?
theorem OnlyP.of {p : Nat → Prop} {w w' : World} (h : Below w.heap.size w w') : OnlyP p w w' := ⟨h.os, h.tape, h.output, h.size, fun k hk _ => h.block k hk⟩
theorem OnlyP.row {p : Nat → Prop} {a : Option Addr} {w w' : World} (h : OnlyRow a w w') (hp : ∀ g o, a = some ⟨g, o, none⟩ → p g) : OnlyP p w w' := ⟨h.os, h.tape, h.output, h.size, fun k hk hn => h.block k hk fun o e => hn (hp k o e)⟩
theorem OnlyP.trans {p : Nat → Prop} {u v w : World} (h : OnlyP p u v) (h2 : OnlyP p v w) : OnlyP p u w :=
  ⟨h2.os.trans h.os, h2.tape.trans h.tape, h2.output.trans h.output, Nat.le_trans h.size h2.size, fun k hk hne => (h2.block k (Nat.lt_of_lt_of_le hk h.size) hne).trans (h.block k hk hne)⟩
theorem OnlyP.below {p : Nat → Prop} {w w' : World} {B : Nat} (h : OnlyP p w w') (hB : ∀ g, p g → B ≤ g) (hBw : B ≤ w.heap.size) : Below B w w' :=
  ⟨h.os, h.tape, h.output, h.size, fun k hk => h.block k (Nat.lt_of_lt_of_le hk hBw) (fun e => by have := hB k e; omega)⟩
/-- The block that a slice lies in. -/
def inB (a : Option Addr) (g : Nat) : Prop := ∃ o, a = some ⟨g, o, none⟩
end Plain
theorem RowAt.offP {α : Type} {e : Elem α} {p : Nat → Prop} {w w' : World} {a : Option Addr} {xs : List α} (h : RowAt e w a xs) (ho : OnlyP p w w') (hne : ∀ g, inB a g → ¬ p g) : RowAt e w' a xs := fun i hi => by
  obtain ⟨g, e1, hl, hc⟩ := h i hi
  have hb := ho.block g hl (hne g ⟨0, e1⟩)
  exact ⟨g, e1, Nat.lt_of_lt_of_le hl ho.size, fun j hj => ⟨(World.cell?_of_block (a := ⟨g, i * e.n + j, none⟩) hb).trans (hc j hj).1, (World.frozen?_of_block (a := ⟨g, i * e.n + j, none⟩) hb).trans (hc j hj).2⟩⟩
theorem RowAt.offR {α : Type} {e : Elem α} {w w' : World} {a b : Option Addr} {xs : List α} (h : RowAt e w a xs) (ho : OnlyRow b w w') (hne : ∀ g, inB a g → ¬ inB b g) : RowAt e w' a xs := h.offP (OnlyP.row (p := inB b) ho fun g o e => ⟨o, e⟩) hne
theorem OwnR.bl {α : Type} {e : Elem α} {w : World} {B n c : Nat} {a : Option Addr} {ls : List α} (h : OwnR e w B (.slice a n c) ls) : ∀ g, inB a g → B ≤ g ∧ g < w.heap.size := by
  rintro g ⟨o, rfl⟩
  exact World.ownsRow.lt h g rfl
end Go.Proofs.YtakalfckhailjaaGreat


/- A whole row is appended to a row of the call's own. -/
namespace Go.Proofs.YtakalfckhailjaaGreat
open Go.RowKit Plain
set_option linter.unusedVariables false

/-- How a slice's address may be. -/
def Plain.AdG (ad : Option Addr) (c : Nat) : Prop := (ad = none ∧ c = 0) ∨ ∃ g, ad = some ⟨g, 0, none⟩
theorem OwnR.adG {α : Type} {e : Elem α} {W : World} {B : Nat} {ad : Option Addr} {n c : Nat} {xs : List α} (h : OwnR e W B (.slice ad n c) xs) : AdG ad c := by
  rcases h.2 with ⟨e1, _⟩ | ⟨g, cap, cur, e1, _⟩
  · simp at e1; exact .inl ⟨e1.1, e1.2.2⟩
  · simp at e1; exact .inr ⟨g, e1.1⟩

theorem appGG {α : Type} {e : Elem α} {ops : Array Oper} {rest : List Oper} {o : Oper} {a : Act} {Q : Exit → Act → World → Prop} (hgd : o.guard = none) (s x : Operand)
    (ho : o.op = .call { callee := .builtin .append, args := #[s, x], argTypes := #[e.S, e.S] })
    {w : World} {B : Nat} {v : Value} {xs ys : List α} (hown : OwnR e w B v xs) (hs : a.eval s = v) (ad : Option Addr) (m c : Nat) (hx : a.eval x = .slice ad m c) (hy : ys.length = m) (hr : RowAt e w ad ys) (had : AdG ad c)
    (hlen : xs.length + m < 100000000) (hB : B ≤ w.heap.size)
    (h : ∀ v' w', OwnR e w' B v' (xs ++ ys) → Below B w w' → wpList Tryz.prog ops Q rest (a.put o.dst v') w') :
    wpList Tryz.prog ops Q (o :: rest) a w := by
  obtain ⟨i0, hi, hz0, hz1, hz2⟩ := info_parts e.hinfo
  subst hy
  rcases had with ⟨rfl, rfl⟩ | ⟨g, rfl⟩
  · have hys : ys = [] := by
      cases ys with
      | nil => rfl
      | cons y l => obtain ⟨g, e1, _⟩ := hr 0 (by simp); simp at e1
    subst hys
    refine wpList_plain hgd fun K hK => ?_
    have hrun := run_append_owned_none (P := Tryz.prog) w B e.S o.type e.E i0 e.n e.hund hi v xs.length (xs.flatMap e.enc) hown
    have hx2 : a.eval x = .slice none 0 0 := hx
    unfold Oper.wp execOp
    simp only [ho, resolve, invoke, builtin, Sem.run_bind, Sem.run_pure, Result.andThen_ok, List.map_toArray, List.map_cons, List.map_nil, hs, hx2, hrun]
    exact hK _ _ (h v w (by rw [List.append_nil]; exact hown) (Below.refl _ _))
  · have hby := e.hb
    refine wpList_append_own _ hgd s x e.S ho B e.E i0 e.zero e.n e.bytes e.hund hi hz0 hz1 hz2 e.hz e.hn v xs.length (xs.flatMap e.enc) hs hown
      ⟨g, 0, none⟩ ys.length c (ys.flatMap e.enc) hx (flat_len e.enc e.n e.hlen ys) ?_ ?_ (by unfold maxLen; omega) ?_ hB ?_
    · intro j u hj
      have hjl : j < ys.length * e.n := by
        have := (List.getElem?_eq_some_iff.1 hj).1
        rw [flat_len e.enc e.n e.hlen] at this
        exact this
      have hn := e.hn
      have hq : j / e.n < ys.length := Nat.div_lt_of_lt_mul (by rw [Nat.mul_comm]; exact hjl)
      have hm : j % e.n < e.n := Nat.mod_lt _ hn
      have hd : j / e.n * e.n + j % e.n = j := by rw [Nat.mul_comm]; exact Nat.div_add_mod j e.n
      obtain ⟨g', e1, hl, hc⟩ := hr (j / e.n) hq
      cases e1
      have h1 := (hc (j % e.n) hm).1
      rw [hd] at h1
      have h2 := flat_get e.enc e.n e.hlen ys (j / e.n) (j % e.n) hq hm
      rw [hd] at h2
      rw [show (⟨g, 0, none⟩ : Addr).add j = ⟨g, j, none⟩ from by unfold Addr.add; split <;> simp_all, h1, ← h2]
      exact hj
    · intro u hu
      obtain ⟨y, _, hy⟩ := List.mem_flatMap.1 hu
      exact e.hone y u hy
    · exact Nat.le_trans (Nat.mul_le_mul_left _ hby) (by omega)
    · intro v' w' h1 h2 _
      refine h v' w' ?_ (own_below hown h2 hB)
      unfold OwnR
      rw [List.flatMap_append, List.length_append]
      exact h1

end Go.Proofs.YtakalfckhailjaaGreat


/- The text that DrawSum draws is short. -/
namespace Go.Proofs.YtakalfckhailjaaGreat
open Go.RowKit Plain
set_option linter.unusedVariables false

theorem Plain.Rd.onlyB {w w' : World} {R B : Nat} {a : Option Addr} {len cap : Nat} {zs : List Int} (h : Rd w R a len cap zs) (hb : Below B w w') (hR : R < B) : Rd w' R a len cap zs := by
  obtain ⟨p, h⟩ := h
  refine ⟨p, ⟨(hb.cell (p := ⟨R, 0, none⟩) hR).trans h.c0, (hb.cell (p := ⟨R, 1, none⟩) hR).trans h.c1, (hb.frozen (p := ⟨R, 1, none⟩) hR).trans h.fz, h.le, h.small, ?_, h.apart⟩⟩
  rcases h.row with hr | ⟨x, hx, h1, h2, h3, h4, h5⟩
  · exact .inl hr
  · refine .inr ⟨x, hx, h1, h2, h3, fun i hi => ?_, h5⟩
    have hbk : (x.add i).block = x.block := by unfold Addr.add; split <;> rfl
    rw [hb.cell (p := x.add i) (by rw [hbk]; have := h.apart x hx (by omega); omega)]
    exact h4 i hi

end Go.Proofs.YtakalfckhailjaaGreat


/- A row that is owned, behind a cell that is written elsewhere. -/
namespace Go.Proofs.YtakalfckhailjaaGreat
open Go.RowKit Plain
set_option linter.unusedVariables false

theorem OwnR.onlN {α : Type} {e : Elem α} {W w' : World} {B : Nat} {v : Value} {xs : List α} {q : Addr} (h : OwnR e W B v xs) (ho : OnlyAt q W w') (hq : q.block < B) : OwnR e w' B v xs := by
  have hlt := h.lt
  refine ⟨h.1, ?_⟩
  rcases h.2 with ⟨a, c⟩ | ⟨g, cap, cur, rfl, c, d, r⟩
  · exact .inl ⟨a, c⟩
  · exact .inr ⟨g, cap, cur, rfl, c, (ho.block g (hlt g rfl) (by omega)).trans d, r⟩
end Go.Proofs.YtakalfckhailjaaGreat


/- Bytes of a string in a row of the call's own, and a byte appended to them. -/
namespace Go.Proofs.YtakalfckhailjaaGreat
open Go.RowKit Plain
set_option linter.unusedVariables false

/-- Block g, of cap places, of the call's own (from B on), holds the bytes xs; all of it may be written. -/
def OwnP (W : World) (B g cap : Nat) (xs : List Int) : Prop :=
  B ≤ g ∧ g < W.heap.size ∧ xs.length ≤ cap ∧ (∀ j, j < xs.length → W.cell? ⟨g, j, none⟩ = some (.int .u8 (xs.getD j 0))) ∧ (∀ j, j < cap → (W.cell? ⟨g, j, none⟩).isSome = true ∧ W.frozen? ⟨g, j, none⟩ = false)

theorem OwnP.keep {W W' : World} {B g cap : Nat} {xs : List Int} (h : OwnP W B g cap xs) (hg : W'.heap[g]? = W.heap[g]?) (hs : W.heap.size ≤ W'.heap.size) : OwnP W' B g cap xs := by
  obtain ⟨h1, h2, h3, h4, h5⟩ := h
  refine ⟨h1, Nat.lt_of_lt_of_le h2 hs, h3, fun j hj => ?_, fun j hj => ?_⟩
  · rw [World.cell?_of_block (w := W) hg]; exact h4 j hj
  · rw [World.cell?_of_block (w := W) hg, World.frozen?_of_block (w := W) hg]; exact h5 j hj

theorem OwnP.range {W : World} {B g cap : Nat} {xs : List Int} (h : OwnP W B g cap xs) : W.rangeAt g 0 (xs.map (Value.int .u8)) := by
  intro j v hv
  have hl : j < xs.length := by have := (List.getElem?_eq_some_iff.1 hv).1; simpa using this
  rw [Nat.zero_add, h.2.2.2.1 j hl, ← hv]
  simp [List.getD, List.getElem?_eq_getElem hl]

theorem bytes_own (s : ByteArray) (w : World) : ∃ cap w', (convert 9 22 (.string s)).run Tryz.prog w = .ok (.slice (some ⟨w.heap.size, 0, none⟩) s.size cap) w' ∧ OwnP w' w.heap.size w.heap.size cap (bL s) ∧ Below w.heap.size w w' := by
  have hge := grownCap_ge w s.size 0 5
  refine ⟨_, _, run_bytes_of_string w 9 22 5 s Tryz.underlying9 Tryz.underlying22 Tryz.underlying5, ?_, ?_⟩
  · generalize grownCap w s.size 0 5 = cap at hge
    have hsz : (bytesRow s cap).size = cap := by simp [bytesRow]; omega
    have hnew := h_new w.drew (.cells (bytesRow s cap) 5 ((bytesRow s cap).size, (bytesRow s cap).size + 1)) (n := w.heap.size) rfl
    refine ⟨Nat.le_refl _, by simp, by rw [bL_length]; exact hge, fun j hj => ?_, fun j hj => ?_⟩
    · rw [bL_length] at hj
      rw [cell_of_row _ _ j _ _ _ hnew, bytesRow, Array.getElem?_append_left (by simpa using hj)]
      have hj' : j < s.data.size := hj
      simp [bL, List.getD, Array.getElem?_eq_getElem hj']
    · constructor
      · rw [cell_of_row _ _ j _ _ _ hnew, Array.getElem?_eq_getElem (by omega)]; rfl
      · unfold World.frozen?
        rw [hnew]
        simp
        omega
  · exact ((Below.refl _ w).drew).alloc (Nat.le_refl _) _

theorem OwnP.drew {W : World} {B g cap : Nat} {xs : List Int} (h : OwnP W B g cap xs) : OwnP W.drew B g cap xs := h
end Go.Proofs.YtakalfckhailjaaGreat


/- Bytes of the call's own: a byte of them changed; a beginning of them as a text; bytes that are written out. -/
namespace Go.Proofs.YtakalfckhailjaaGreat
open Go.RowKit Plain
set_option linter.unusedVariables false

theorem conv_pre (W : World) (B g cap n c : Nat) (xs : List Int) (h : OwnP W B g cap xs) (hn : n ≤ xs.length) : (convert 22 9 (.slice (some ⟨g, 0, none⟩) n c)).run Tryz.prog W = .ok (.string (strOfNums (xs.take n))) W :=
  run_convert_bytes_arg W _ _ Tryz.underlying22 Tryz.underlying5 g 0 n c (xs.take n) (by rw [List.length_take]; omega) (fun i hi => by
    rw [Nat.zero_add, h.2.2.2.1 i (by omega)]
    simp [List.getD, hi]) _ Tryz.underlying9

theorem OwnP.set {W : World} {B g cap : Nat} {xs : List Int} (h : OwnP W B g cap xs) (i : Nat) (hi : i < xs.length) (y : Int) : OwnP (W.setCell ⟨g, i, none⟩ (.int .u8 y)) B g cap (xs.set i y) := by
  obtain ⟨h1, h2, h3, h4, h5⟩ := h
  refine ⟨h1, by simpa using h2, by simpa using h3, fun j hj => ?_, fun j hj => ?_⟩
  · by_cases e : i = j
    · subst e
      rw [World.cell?_setCell_same' _ _ _ (h5 i (by omega)).1]
      simp [List.getD, hi]
    · rw [World.cell?_setCell_other _ ⟨g, i, none⟩ ⟨g, j, none⟩ _ (fun q => e (congrArg Addr.off q)), h4 j (by simpa using hj)]
      simp [List.getD, e]
  · refine ⟨?_, by simpa using (h5 j hj).2⟩
    by_cases e : i = j
    · subst e; rw [World.cell?_setCell_same' _ _ _ (h5 i (by omega)).1]; rfl
    · rw [World.cell?_setCell_other _ ⟨g, i, none⟩ ⟨g, j, none⟩ _ (fun q => e (congrArg Addr.off q))]; exact (h5 j hj).1

end Go.Proofs.YtakalfckhailjaaGreat

