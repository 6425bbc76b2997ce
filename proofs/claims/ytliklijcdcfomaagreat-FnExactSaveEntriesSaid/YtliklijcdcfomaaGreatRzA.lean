/- Texts of one kind, put together. -/
import Derived.Test.YtliklijcdcfomaaGreatSzA
import Derived.Test.YtliklijcdcfomaaGreatAzD
import Derived.Test.YtliklijcdcfomaaGreatAzC
import Derived.Test.YtliklijcdcfomaaGreatAzB
import Derived.Deep.RegionHeld3
import Derived.Test.YtliklijcdcfomaaGreatFzA
import Derived.Deep.QuietTactic
import Derived.BigQuiet
import Derived.Test.YtliklijcdcfomaaGreatCzA

/- Frames in bytes, as plain mathematics: the frame with which bytes begin; all frames of bytes. -/
namespace Go.Proofs.YtliklijcdcfomaaGreat.Plain
open Go Go.RowKit
set_option linter.unusedVariables false

def bAt (r : ByteArray) (i : Nat) : Nat := (r.data.toList.getD i 0).toNat
theorem bAt_get (r : ByteArray) (i : Nat) (h : i < r.size) : r[i].toNat = bAt r i := by
  unfold bAt
  rw [List.getD, List.getElem?_eq_getElem (by simpa using h)]
  rfl
theorem bAt_lt (r : ByteArray) (i : Nat) : bAt r i < 256 := UInt8.toNat_lt _

/-- The number in four bytes, the lowest first. -/
def wdI (r : ByteArray) : Int := hiI (bAt r 3) (bAt r 2) (bAt r 1) (bAt r 0)
theorem wdI_word (r : ByteArray) : 0 ≤ wdI r ∧ wdI r < 4294967296 := by unfold wdI hiI; exact bits_word _ _ _

theorem or_bv (x y : Int) : bits .or .u32 x y = (((BitVec.ofInt 32 x) ||| (BitVec.ofInt 32 y)).toNat : Int) := by
  unfold bits
  show IntKind.wrap .u32 ((BitVec.ofInt 32 x ||| BitVec.ofInt 32 y).toNat : Int) = _
  rw [IntKind.wrap_u32']
  have := ((BitVec.ofInt 32 x) ||| (BitVec.ofInt 32 y)).isLt
  omega
theorem bv_back (v : BitVec 32) : BitVec.ofInt 32 (v.toNat : Int) = v := by
  apply BitVec.eq_of_toNat_eq
  rw [BitVec.toNat_ofInt]
  have := v.isLt
  omega
/-- The same number, put together from the other side. -/
theorem low_hi (a b c d : Int) : bits .or .u32 (bits .or .u32 (bits .or .u32 d (c * 256)) (b * 65536)) (a * 16777216) = hiI a b c d := by
  unfold hiI
  simp only [or_bv, bv_back]
  congr 2
  ac_rfl

/-- How the bytes r begin: a fault's code, or 0 and how many bytes the frame has. -/
def szI (r : ByteArray) : Int × Nat :=
  if bAt r 0 < 1 ∨ 100 < bAt r 0 then (2, 0)
  else if r.size < 5 then (1, 0)
  else if 20000 < wdI (r.extract 1 5) then (3, 0)
  else if r.size < 9 + (wdI (r.extract 1 5)).toNat then (1, 0)
  else (0, 9 + (wdI (r.extract 1 5)).toNat)
/-- The same with the bytes' sum. -/
def frC (r : ByteArray) : Int := if (szI r).1 ≠ 0 then (szI r).1 else if crcI (r.extract 0 ((szI r).2 - 4)) = wdI (r.extract ((szI r).2 - 4) (szI r).2) then 0 else 4
def frN (r : ByteArray) : Nat := (szI r).2
def frB (r : ByteArray) : ByteArray := r.extract 5 (frN r - 4)
def frm (r : ByteArray) : Int × ByteArray := (((bAt r 0 : Nat) : Int), frB r)

theorem szI_ok {r : ByteArray} (h : (szI r).1 = 0) : 9 ≤ (szI r).2 ∧ (szI r).2 ≤ r.size ∧ (szI r).2 ≤ 20009 ∧ 1 ≤ bAt r 0 ∧ bAt r 0 ≤ 100 := by
  unfold szI at *
  split at h
  · simp at h
  · rename_i h1
    split at h
    · simp at h
    · split at h
      · simp at h
      · rename_i h3
        split at h
        · simp at h
        · rename_i h4
          rw [if_neg h1, if_neg (by omega), if_neg h3, if_neg h4]
          have := (wdI_word (r.extract 1 5)).1
          simp only
          omega
theorem frC_ok {r : ByteArray} (h : frC r = 0) : (szI r).1 = 0 := by
  unfold frC at h
  split at h
  · rename_i h1; exact absurd h h1
  · rename_i h1; simpa using h1

/-- All frames from place p on, when done of them are read: the frames, the place, the code. -/
def run (s : ByteArray) : Nat → Nat → Nat → List (Int × ByteArray) × Nat × Int
  | 0, p, done => ([], p, 0)
  | f + 1, p, done =>
    if s.size ≤ p then ([], p, 0)
    else if done = 2000 then ([], p, 5)
    else if frC (s.extract p s.size) ≠ 0 then ([], p, frC (s.extract p s.size))
    else (frm (s.extract p s.size) :: (run s f (p + frN (s.extract p s.size)) (done + 1)).1, (run s f (p + frN (s.extract p s.size)) (done + 1)).2)
theorem run_end (s : ByteArray) (f p done : Nat) (h : s.size ≤ p) : run s (f + 1) p done = ([], p, 0) := by rw [run, if_pos h]
theorem run_many (s : ByteArray) (f p : Nat) (h : ¬ s.size ≤ p) : run s (f + 1) p 2000 = ([], p, 5) := by rw [run, if_neg h, if_pos rfl]
theorem run_code (s : ByteArray) (f p done : Nat) (h : ¬ s.size ≤ p) (h2 : done ≠ 2000) (h3 : frC (s.extract p s.size) ≠ 0) : run s (f + 1) p done = ([], p, frC (s.extract p s.size)) := by
  rw [run, if_neg h, if_neg h2, if_pos h3]
theorem run_next (s : ByteArray) (f p done : Nat) (h : ¬ s.size ≤ p) (h2 : done ≠ 2000) (h3 : frC (s.extract p s.size) = 0) : run s (f + 1) p done = (frm (s.extract p s.size) :: (run s f (p + frN (s.extract p s.size)) (done + 1)).1, (run s f (p + frN (s.extract p s.size)) (done + 1)).2) := by
  rw [run, if_neg h, if_neg h2, if_neg (by simp [h3])]
def readF (s : ByteArray) : List (Int × ByteArray) × Nat × Int := run s 2001 0 0
/-- The state of a reader that has read the frames F and stands at p. -/
def Mid (s : ByteArray) (F : List (Int × ByteArray)) (p : Nat) : Prop := F.length ≤ 2000 ∧ p ≤ s.size ∧ readF s = (F ++ (run s (2001 - F.length) p F.length).1, (run s (2001 - F.length) p F.length).2)
theorem Mid.start (s : ByteArray) : Mid s [] 0 := by
  refine ⟨Nat.zero_le _, Nat.zero_le _, ?_⟩
  rw [List.nil_append, List.length_nil, Nat.sub_zero]
  unfold readF
  exact rfl
theorem rest_size (s : ByteArray) (p : Nat) : (s.extract p s.size).size = s.size - p := by simp
theorem Mid.next {s : ByteArray} {F : List (Int × ByteArray)} {p : Nat} (h : Mid s F p) (h1 : ¬ s.size ≤ p) (h2 : F.length ≠ 2000) (h3 : frC (s.extract p s.size) = 0) :
    Mid s (F ++ [frm (s.extract p s.size)]) (p + frN (s.extract p s.size)) := by
  obtain ⟨a, b, c⟩ := h
  have hz := (szI_ok (frC_ok h3)).2.1
  rw [rest_size] at hz
  refine ⟨by simp; omega, by unfold frN; omega, ?_⟩
  rw [c, show 2001 - F.length = (2001 - F.length - 1) + 1 from by omega, run_next s _ p _ h1 h2 h3]
  simp only [List.length_append, List.length_cons, List.length_nil, List.append_assoc, List.singleton_append]
  rw [show 2001 - (F.length + (0 + 1)) = 2001 - F.length - 1 from by omega]
theorem Mid.ends {s : ByteArray} {F : List (Int × ByteArray)} {p : Nat} (h : Mid s F p) (h1 : s.size ≤ p) : readF s = (F, p, 0) := by
  obtain ⟨a, b, c⟩ := h
  rw [c, show 2001 - F.length = (2001 - F.length - 1) + 1 from by omega, run_end s _ p _ h1]
  simp
theorem Mid.many {s : ByteArray} {F : List (Int × ByteArray)} {p : Nat} (h : Mid s F p) (h1 : ¬ s.size ≤ p) (h2 : F.length = 2000) : readF s = (F, p, 5) := by
  obtain ⟨a, b, c⟩ := h
  rw [h2] at c
  rw [c, show 2001 - 2000 = 0 + 1 from rfl, run_many s _ p h1]
  simp
theorem Mid.code {s : ByteArray} {F : List (Int × ByteArray)} {p : Nat} (h : Mid s F p) (h1 : ¬ s.size ≤ p) (h2 : F.length ≠ 2000) (h3 : frC (s.extract p s.size) ≠ 0) : readF s = (F, p, frC (s.extract p s.size)) := by
  obtain ⟨a, b, c⟩ := h
  rw [c, show 2001 - F.length = (2001 - F.length - 1) + 1 from by omega, run_code s _ p _ h1 h2 h3]
  simp
end Go.Proofs.YtliklijcdcfomaaGreat.Plain


/- Entries of a journal: whether they are right, by both programs. -/
namespace Go.Proofs.YtliklijcdcfomaaGreat
open Go.RowKit Plain
set_option linter.unusedVariables false

def Plain.entB (t k : Int) (b : ByteArray) : Bool := ((decide (1 ≤ t) && decide (t ≤ 1000000000000)) && (decide (0 ≤ k) && decide (k ≤ 9))) && decide (b.size ≤ 4000)
theorem Plain.entB_yes {t k : Int} {b : ByteArray} (h : entB t k b = true) : 1 ≤ t ∧ t ≤ 1000000000000 ∧ 0 ≤ k ∧ k ≤ 9 ∧ b.size ≤ 4000 := by
  unfold entB at h
  simp at h
  omega

set_option maxHeartbeats 1000000 in
theorem entryOk_calls (t k : Int) (b : ByteArray) (w : World) (hb : b.size ≤ 1000000000000) :
    Calls Tryz.prog 113 #[.agg #[.int .i64 t, .int .i64 k, .string b]] w fun e w' => e = .returned (.bool (entB t k b)) ∧ Below w.heap.size w w' := by
  obtain ⟨R, hR⟩ : ∃ R, entB t k b = R := ⟨_, rfl⟩
  rw [hR]
  unfold entB at hR
  have HR := hide hR
  clear hR
  go_enter Tryz.func113, Tryz.ntmps113
  go_wp2_with fail
  all_goals go_ret
  all_goals refine ⟨?_, bel1 _ _⟩
  all_goals (show Ending.returned (.bool _) = Ending.returned (.bool _); rw [← unhide HR]; congr 2; rw [Bool.eq_iff_iff]; simp; try omega)

set_option maxHeartbeats 1000000 in
theorem l5Entry_calls (t k : Int) (b : ByteArray) (w : World) (hb : b.size ≤ 1000000000000) :
    Calls Tryz.prog 87 #[.agg #[.int .i64 t, .int .i64 k, .string b]] w fun e w' => e = .returned (.bool (entB t k b)) ∧ Below w.heap.size w w' := by
  obtain ⟨R, hR⟩ : ∃ R, entB t k b = R := ⟨_, rfl⟩
  rw [hR]
  unfold entB at hR
  have HR := hide hR
  clear hR
  go_enter Tryz.func87, Tryz.ntmps87
  go_wp2_with (go_at_call 22; refine (l1In_calls _ _ _ _).mono ?_; rintro e w' ⟨rfl, rfl⟩)
  all_goals go_ret
  all_goals refine ⟨?_, bel1 _ _⟩
  all_goals (show Ending.returned (.bool _) = Ending.returned (.bool _); rw [← unhide HR]; congr 2; rw [Bool.eq_iff_iff]; simp; try omega)

end Go.Proofs.YtliklijcdcfomaaGreat


/- Rows of entries, as the exact laws copy, measure and compare them. -/
namespace Go.Proofs.YtliklijcdcfomaaGreat
open Go.RowKit Plain
set_option linter.unusedVariables false

/-- Entries as elements. -/
def entE : Elem Ent where
  E := 76
  S := 40
  n := 3
  bytes := 32
  zero := .agg #[.int .i64 0, .int .i64 0, .string ⟨#[]⟩]
  enc := fun e => [.int .i64 e.term, .int .i64 e.kind, .string e.body]
  hund := Tryz.underlying40
  hinfo := by kernel_rfl
  hz := rfl
  hn := by decide
  hb := by decide
  hlen := fun _ => rfl
  hone := fun x u hu => by simp at hu; rcases hu with rfl | rfl | rfl <;> rfl

namespace Plain
def totE (fs : List Ent) : Nat := (fs.map fun f => f.body.size).sum
theorem totE_drop (fs : List Ent) (k : Nat) (h : k < fs.length) : totE (fs.drop k) = (fs[k].body.size) + totE (fs.drop (k + 1)) := by rw [totE, List.drop_eq_getElem_cons h, List.map_cons, List.sum_cons]; rfl
theorem totE_end (fs : List Ent) (k : Nat) (h : fs.length ≤ k) : totE (fs.drop k) = 0 := by rw [List.drop_of_length_le h]; rfl
theorem totE_mem (fs : List Ent) (f : Ent) (h : f ∈ fs) : f.body.size ≤ totE fs := by
  induction fs with
  | nil => simp at h
  | cons g t ih =>
    have e : totE (g :: t) = (g.body.size) + totE t := by rw [totE, List.map_cons, List.sum_cons]; rfl
    rw [e]
    rcases List.mem_cons.1 h with rfl | h
    · omega
    · have := ih h; omega
theorem ArgAt.e {W : World} {a : Option Addr} {xs : List Ent} (h : ArgAt 3 entL W a xs) (i : Nat) (hi : i < xs.length) : ∃ g o, a = some ⟨g, o, none⟩ ∧ g < W.heap.size ∧ W.cell? ⟨g, o + i * 3, none⟩ = some (.int .i64 xs[i].term) ∧ W.cell? ⟨g, o + i * 3 + 1, none⟩ = some (.int .i64 xs[i].kind) ∧ W.cell? ⟨g, o + i * 3 + 2, none⟩ = some (.string xs[i].body) := by
  obtain ⟨g, o, e, hl, hc⟩ := h i hi
  exact ⟨g, o, e, hl, hc 0 (by decide), hc 1 (by decide), hc 2 (by decide)⟩
end Plain
theorem RowAt.ex {W : World} {a : Option Addr} {xs : List Ent} (h : RowAt entE W a xs) (i : Nat) (hi : i < xs.length) : ∃ g, a = some ⟨g, 0, none⟩ ∧ g < W.heap.size ∧ W.cell? ⟨g, i * 3, none⟩ = some (.int .i64 xs[i].term) ∧ W.cell? ⟨g, i * 3 + 1, none⟩ = some (.int .i64 xs[i].kind) ∧ W.cell? ⟨g, i * 3 + 2, none⟩ = some (.string xs[i].body) := by
  obtain ⟨g, e, hl, hc⟩ := h i hi
  exact ⟨g, e, hl, (hc 0 (by decide)).1, (hc 1 (by decide)).1, (hc 2 (by decide)).1⟩

theorem toEntry_calls (tm : Int) (kd : Int) (bd : ByteArray) (w : World) : Calls Tryz.prog 48 #[.agg #[.int .i64 tm, .int .i64 kd, .string bd]] w fun e w' => e = .returned (.agg #[.int .i64 tm, .int .i64 kd, .string bd]) ∧ Below w.heap.size w w' := by
  go_enter Tryz.func48, Tryz.ntmps48
  go_wp2
  exact bodyPost_ret (v := .agg #[.int .i64 tm, .int .i64 kd, .string bd]) (by simp [results, Tryz.results48, go_sem]) rfl ⟨rfl, (((Below.refl _ _).alloc (Nat.le_refl _) _).alloc (by simp) _).alloc (by simp; omega) _⟩

theorem szEntry_calls (tm : Int) (kd : Int) (bd : ByteArray) (left : Nat) (w : World) (hl : left ≤ 10000000) (s0 : bd.size ≤ maxLen) :
    Calls Tryz.prog 43 #[.agg #[.int .i64 tm, .int .i64 kd, .string bd], .int .i64 left] w fun e w' => e = .returned (.int .i64 (purse left (bd.size))) ∧ Below w.heap.size w w' := by
  unfold maxLen at s0
  have HB := hide (bel1 w (.cells #[.int .i64 tm, .int .i64 kd, .string bd] 69))
  by_cases h0 : left < bd.size
  · rw [purse_no (by omega)]
    go_enter Tryz.func43, Tryz.ntmps43
    go_wp2
    go_ret
    exact ⟨rfl, unhide HB⟩
  · rw [purse_yes (by omega)]
    go_enter Tryz.func43, Tryz.ntmps43
    go_wp2
    go_ret
    exact ⟨rfl, unhide HB⟩

theorem eqEntry_calls (tm : Int) (kd : Int) (bd : ByteArray) (w : World) : Calls Tryz.prog 55 #[.agg #[.int .i64 tm, .int .i64 kd, .string bd], .agg #[.int .i64 tm, .int .i64 kd, .string bd]] w fun e w' => e = .returned (.bool true) ∧ Below w.heap.size w w' := by
  have HB := hide (belOn (bel1 w (.cells #[.int .i64 tm, .int .i64 kd, .string bd] 76)) (bel1 _ (.cells #[.int .i64 tm, .int .i64 kd, .string bd] 76)))
  go_enter Tryz.func55, Tryz.ntmps55
  go_wp2_with fail
  go_ret
  exact ⟨rfl, unhide HB⟩

set_option maxRecDepth 10000 in
set_option maxHeartbeats 1000000 in
theorem toEntryS_calls (a : Option Addr) (n c : Nat) (ls : List Ent) (w : World) (hn : ls.length = n) (hn2 : n ≤ 1048576) (h : ArgAt 3 entL w a ls) :
    Calls Tryz.prog 14 #[.slice a n c] w fun e w' => ∃ g, e = .returned (.slice (some ⟨g, 0, none⟩) n n) ∧ OwnR entE w' w.heap.size (.slice (some ⟨g, 0, none⟩) n n) ls ∧ Below w.heap.size w w' := by
  have H := hide h
  have HN := hide hn
  have hmk : (Instr.makeSlice 40 (.int .i64 n) (.int .i64 n)).run Tryz.prog w = _ := make_row entE n w (by omega)
  have HO := hide (own_made entE ⟨0, 0, ⟨#[]⟩⟩ rfl n w (by omega))
  have hba : Below w.heap.size w (w.alloc (.cells (madeCells entE.zero.cells (n * entE.n)) entE.E)) := bel1 _ _
  have HBA := hide hba
  have hlt : w.heap.size < (w.alloc (.cells (madeCells entE.zero.cells (n * entE.n)) entE.E)).heap.size := by simp
  generalize w.alloc (.cells (madeCells entE.zero.cells (n * entE.n)) entE.E) = wa at hmk HO HBA hlt hba
  clear h hn hba
  go_enter Tryz.func14, Tryz.ntmps14
  go_wp2_with fail
  go_loopw [4] (fun i wr => ∃ k : Nat, i = .int .i64 k ∧ k ≤ n ∧ Hid (OwnR entE wr w.heap.size (.slice (some ⟨w.heap.size, 0, none⟩) n n) (ls.take k ++ List.replicate (n - k) ⟨0, 0, ⟨#[]⟩⟩)) ∧ Hid (Below w.heap.size w wr)) (fun i _ => n - (intOf i).toNat)
  case atStart => exact ⟨0, rfl, by omega, hide (by simpa using unhide HO), HBA⟩
  case round =>
    obtain ⟨k, rfl, hk, HR, HB⟩ := hrel
    by_cases hlk : k < n
    · have hkl : k < ls.length := by rw [unhide HN]; exact hlk
      obtain ⟨g, o, e1, l1, p0, p1, p2⟩ := ((unhide H).below (unhide HB)).e k hkl
      have hlen : (ls.take k ++ List.replicate (n - k) (⟨0, 0, ⟨#[]⟩⟩ : Ent)).length = n := by rw [List.length_append, List.length_take, List.length_replicate, unhide HN]; omega
      have hset : (ls.take k ++ List.replicate (n - k) (⟨0, 0, ⟨#[]⟩⟩ : Ent)).set k ls[k] = ls.take (k + 1) ++ List.replicate (n - (k + 1)) ⟨0, 0, ⟨#[]⟩⟩ := by
        rw [List.set_append_right _ _ (by rw [List.length_take]; omega), List.length_take, show k - min k ls.length = 0 from by omega, show n - k = (n - (k + 1)) + 1 from by omega, List.replicate_succ, List.set_cons_zero, List.take_succ_eq_append_getElem hkl, List.append_assoc]
        rfl
      generalize (ls.take k ++ List.replicate (n - k) (⟨0, 0, ⟨#[]⟩⟩ : Ent)) = cur at HR hlen hset
      generalize ls[k] = x at p0 p1 p2 hset
      obtain ⟨tm, kd, bd⟩ := x
      simp only at p0 p1 p2
      clear H hkl
      subst e1
      have i0 : (0 : Int) ≤ (k : Int) := by omega
      have i1 : (k : Int) < (n : Int) := by omega
      go_wp2_with fail
      refine (toEntry_calls tm kd bd wr).mono ?_
      rintro e w1 ⟨rfl, hb1⟩
      have hR1 := (unhide HR).keep hb1
      have HB1 := hide (belOn (unhide HB) hb1)
      have hkc : k < cur.length := by omega
      obtain ⟨g', e2, l2, q0, q1, q2⟩ := hR1.at.ex k hkc
      obtain ⟨g'', e3, l3, z⟩ := hR1.at k hkc
      have hg : w.heap.size = g' := by simpa using e2
      subst hg
      have hg : w.heap.size = g'' := by simpa using e3
      subst hg
      have z0 : w1.frozen? ⟨w.heap.size, k * 3, none⟩ = false := (z 0 (by decide)).2
      have z1 : w1.frozen? ⟨w.heap.size, k * 3 + 1, none⟩ = false := (z 1 (by decide)).2
      have z2 : w1.frozen? ⟨w.heap.size, k * 3 + 2, none⟩ = false := (z 2 (by decide)).2
      have hS0 := hR1.setJ hlen k hkc 0 (by decide) (.int .i64 tm) ⟨tm, cur[k].kind, cur[k].body⟩ rfl
      have hS1 := hS0.setJ (by rw [List.length_set]; exact hlen) k (by rw [List.length_set]; exact hkc) 1 (by decide) (.int .i64 kd) ⟨tm, kd, cur[k].body⟩ (by rw [List.getElem_set_self]; rfl)
      rw [List.set_set] at hS1
      have hS2 := hS1.setJ (by rw [List.length_set]; exact hlen) k (by rw [List.length_set]; exact hkc) 2 (by decide) (.string bd) ⟨tm, kd, bd⟩ (by rw [List.getElem_set_self]; rfl)
      rw [List.set_set] at hS2
      have hR3 := hS2
      rw [hset] at hR3
      have HR3 := hide hR3
      generalize cur[k] = y at q0 q1 q2
      clear hb1 hR1 hS0 hS1 hS2 hR3 HR HB z
      go_wp2_with fail
      go_roundw
      case rel => exact ⟨k + 1, by go_num, by omega, HR3, hide ((((unhide HB1).setCell (Nat.le_refl _) _).setCell (Nat.le_refl _) _).setCell (Nat.le_refl _) _)⟩
      case measure => simp [intOf]; omega
    · obtain rfl : k = n := by omega
      have HF := hide (unhide HR)
      rw [show ls.take k ++ List.replicate (k - k) (⟨0, 0, ⟨#[]⟩⟩ : Ent) = ls from by rw [Nat.sub_self, List.replicate_zero, List.append_nil]; exact List.take_of_length_le (by rw [unhide HN]; exact Nat.le_refl _)] at HF
      clear HR
      go_wp2_with fail
      go_ret
      exact ⟨_, rfl, unhide HF, unhide HB⟩

set_option maxRecDepth 10000 in
set_option maxHeartbeats 1000000 in
theorem szEntryS_calls (a : Option Addr) (n c : Nat) (ls : List Ent) (left : Nat) (w : World) (hn : ls.length = n) (hn2 : n ≤ 9223372036854775807) (hs : ∀ l ∈ ls, goodE l) (h1 : left ≤ 10000000) (h : ArgAt 3 entL w a ls) :
    Calls Tryz.prog 12 #[.slice a n c, .int .i64 left] w fun e w' => e = .returned (.int .i64 (purse left (n + totE ls))) ∧ Below w.heap.size w w' := by
  have H := hide h
  have HN := hide hn
  have HS := hide hs
  clear h hn hs
  by_cases hlt : left < n
  · rw [purse_no (by omega)]
    go_enter Tryz.func12, Tryz.ntmps12
    go_wp2_with fail
    go_ret
    exact ⟨rfl, Below.refl _ _⟩
  · obtain ⟨L, hL⟩ : ∃ L : Nat, (left : Int) - (n : Int) = (L : Int) := ⟨left - n, by omega⟩
    rw [purse_step (by omega), hL]
    obtain ⟨R, hR⟩ : ∃ R, purse L (totE ls) = R := ⟨_, rfl⟩
    rw [hR]
    have HR0 := hide hR
    clear hR
    go_enter Tryz.func12, Tryz.ntmps12
    go_wp2_with fail
    go_loopw [1, 5] (fun l i wr => ∃ (k r : Nat), l = .int .i64 r ∧ i = .int .i64 k ∧ k ≤ n ∧ r ≤ 10000000 ∧ Hid (R = purse r (totE (ls.drop k))) ∧ Hid (Below w.heap.size w wr)) (fun _ i _ => n - (intOf i).toNat)
    case atStart => exact ⟨0, L, by rw [← hL], rfl, by omega, by omega, hide (unhide HR0).symm, hide (Below.refl _ _)⟩
    case round =>
      obtain ⟨k, r, rfl, rfl, hk, hr, HR, HB⟩ := hrel
      by_cases hlk : k < n
      · have hkl : k < ls.length := by rw [unhide HN]; exact hlk
        obtain ⟨g, o, e1, l1, p0, p1, p2⟩ := ((unhide H).below (unhide HB)).e k hkl
        have hsz := unhide HS ls[k] (by simp)
        have hst := totE_drop ls k hkl
        generalize ls[k] = x at p0 p1 p2 hsz hst
        obtain ⟨tm, kd, bd⟩ := x
        simp only at p0 p1 p2 hst
        have i0 : (0 : Int) ≤ (k : Int) := by omega
        have i1 : (k : Int) < (n : Int) := by omega
        have HR2 := unhide HR
        rw [hst] at HR2
        obtain ⟨s, hs⟩ : ∃ s, bd.size = s := ⟨_, rfl⟩
        have HZ := hide (fun W => szEntry_calls tm kd bd r W hr hsz.2.2)
        rw [hs] at HR2 HZ
        clear HR hst hsz hs
        by_cases hrx : r < s
        · rw [purse_no (by omega)] at HR2
          have HF := hide HR2
          rw [purse_no (show (r : Int) < (s : Int) by omega)] at HZ
          clear HR2
          subst e1
          go_wp2_with fail
          refine (unhide HZ _).mono ?_
          rintro e w1 ⟨rfl, hb1⟩
          have HB1 := hide (belOn (unhide HB) hb1)
          clear hb1
          go_wp2_with fail
          go_ret
          exact ⟨by rw [unhide HF]; rfl, unhide HB1⟩
        · obtain ⟨r', hr'⟩ : ∃ r' : Nat, (r : Int) - (s : Int) = (r' : Int) := ⟨r - s, by omega⟩
          rw [purse_step (by omega), hr'] at HR2
          have HF := hide HR2
          rw [purse_yes (show ¬ (r : Int) < (s : Int) by omega), hr'] at HZ
          clear HR2
          subst e1
          go_wp2_with fail
          refine (unhide HZ _).mono ?_
          rintro e w1 ⟨rfl, hb1⟩
          have HB1 := hide (belOn (unhide HB) hb1)
          clear hb1
          go_wp2_with fail
          go_roundw
          case rel => exact ⟨k + 1, r', rfl, by go_num, by omega, by omega, HF, HB1⟩
          case measure => simp [intOf]; omega
      · have HF := unhide HR
        rw [totE_end ls k (by rw [unhide HN]; omega), purse_yes (by omega)] at HF
        have HF2 := hide HF
        clear HF HR
        go_wp2_with fail
        go_ret
        exact ⟨by rw [unhide HF2]; simp, unhide HB⟩

set_option maxRecDepth 10000 in
set_option maxHeartbeats 1000000 in
theorem eqEntryS_calls (a1 a2 : Option Addr) (c1 c2 n : Nat) (ls : List Ent) (w : World) (hn : ls.length = n) (hn2 : n ≤ 100000000) (h1 : RowAt entE w a1 ls) (h2 : RowAt entE w a2 ls) :
    Calls Tryz.prog 16 #[.slice a1 n c1, .slice a2 n c2] w fun e w' => e = .returned (.bool true) ∧ Below w.heap.size w w' := by
  have H1 := hide h1
  have H2 := hide h2
  have HN := hide hn
  clear h1 h2 hn
  go_enter Tryz.func16, Tryz.ntmps16
  go_wp2_with fail
  go_loopw [5] (fun i wr => ∃ (k : Nat), i = .int .i64 k ∧ k ≤ n ∧ Hid (Below w.heap.size w wr)) (fun i _ => n - (intOf i).toNat)
  case atStart => exact ⟨0, rfl, by omega, Below.refl _ _⟩
  case round =>
    obtain ⟨k, rfl, hk, HB⟩ := hrel
    by_cases hlt : k < n
    · have hkl : k < ls.length := by rw [unhide HN]; exact hlt
      obtain ⟨g1, e1, l1, p0, p1, p2⟩ := ((unhide H1).below (unhide HB)).ex k hkl
      obtain ⟨g2, e2, l2, q0, q1, q2⟩ := ((unhide H2).below (unhide HB)).ex k hkl
      generalize ls[k] = x at p0 p1 p2 p2 q0 q1 q2
      obtain ⟨tm, kd, bd⟩ := x
      simp only at p0 p1 p2 p2 q0 q1 q2
      clear H1 H2 hkl
      subst e1 e2
      have i0 : (0 : Int) ≤ (k : Int) := by omega
      have i1 : (k : Int) < (n : Int) := by omega
      go_wp2_with fail
      go_region_with (go_at_call 55; refine (eqEntry_calls tm kd bd _).mono ?_; rintro e w1 ⟨rfl, hb1⟩)
      all_goals (try go_wp2_with fail)
      all_goals exact ⟨⟨k + 1, by go_num, by omega, hide (belOn (unhide HB) (bOfDrew hb1))⟩, by simp [intOf]; omega⟩
    · obtain rfl : k = n := by omega
      go_wp2_with fail
      go_ret
      exact ⟨rfl, unhide HB⟩
end Go.Proofs.YtliklijcdcfomaaGreat


/- Journals as plain mathematics; what may stand behind others in a log. -/
namespace Go.Proofs.YtliklijcdcfomaaGreat
open Go.RowKit Plain
set_option linter.unusedVariables false

namespace Plain
def numB (n : Int) : Bool := decide (0 ≤ n) && decide (n ≤ 1000000000000)
def folB (term p : Int) (e : Ent) : Bool := entB e.term e.kind e.body && (decide (e.term ≤ term) && decide (p ≤ e.term))
def okE (term : Int) : Int → List Ent → Bool
  | _, [] => true
  | p, e :: l => folB term p e && okE term e.term l
def prevT (es : List Ent) : Nat → Int
  | 0 => 0
  | k + 1 => ((es[k]?).map fun e => e.term).getD 0
theorem okE_step (term : Int) (es : List Ent) (k : Nat) (h : k < es.length) : okE term (prevT es k) (es.drop k) = (folB term (prevT es k) es[k] && okE term (prevT es (k + 1)) (es.drop (k + 1))) := by
  rw [List.drop_eq_getElem_cons h, okE]
  congr 2
  rw [prevT, List.getElem?_eq_getElem h]
  rfl
def jouB (t v : Int) (es : List Ent) : Bool := (numB t && numB v) && (decide (es.length ≤ 500) && okE t 0 es)
end Plain

set_option maxRecDepth 10000 in
theorem numberOk_calls (n : Int) (w : World) : Calls Tryz.prog 31 #[.int .i64 n] w fun e w' => e = .returned (.bool (numB n)) ∧ w = w' := by
  obtain ⟨R, hR⟩ : ∃ R, numB n = R := ⟨_, rfl⟩
  rw [hR]
  unfold numB at hR
  have HR := hide hR
  clear hR
  go_enter Tryz.func31, Tryz.ntmps31
  go_wp2
  all_goals go_ret
  all_goals refine ⟨?_, rfl⟩
  all_goals (show Ending.returned (.bool _) = Ending.returned (.bool _); rw [← unhide HR]; congr 2; rw [Bool.eq_iff_iff]; simp; try omega)

set_option maxRecDepth 10000 in
set_option maxHeartbeats 2000000 in
theorem follows_calls (tm kd : Int) (bd : ByteArray) (a : Option Addr) (k c : Nat) (es : List Ent) (term : Int) (w : World) (hk : k ≤ es.length) (hk2 : k ≤ 1000000) (hb : bd.size ≤ 1000000000000) (h : RowAt entE w a es) :
    Calls Tryz.prog 90 #[.agg #[.int .i64 tm, .int .i64 kd, .string bd], .slice a k c, .int .i64 term] w fun e w' => e = .returned (.bool (decide (k < 500) && folB term (prevT es k) ⟨tm, kd, bd⟩)) ∧ Below w.heap.size w w' := by
  obtain ⟨W0, hW0⟩ : ∃ W0, W0 = w.alloc (.cells #[.int .i64 tm, .int .i64 kd, .string bd] 76) := ⟨_, rfl⟩
  have hb0 : Below w.heap.size w W0 := by rw [hW0]; exact bel1 _ _
  have hlt : w.heap.size < W0.heap.size := by rw [hW0]; simp
  have c0 : W0.cell? ⟨w.heap.size, 0, none⟩ = some (.int .i64 tm) := by rw [hW0]; simp [go_sem]
  have c1 : W0.cell? ⟨w.heap.size, 1, none⟩ = some (.int .i64 kd) := by rw [hW0]; simp [go_sem]
  have c2 : W0.cell? ⟨w.heap.size, 2, none⟩ = some (.string bd) := by rw [hW0]; simp [go_sem]
  have HC := hide (fun (W : World) (hW : Below W0.heap.size W0 W) => And.intro (bcl hW hlt c0) (And.intro (bcl hW hlt c1) (bcl hW hlt c2)))
  have HFIN := hide (fun (W : World) (hW : Below W0.heap.size W0 W) => belOn hb0 hW)
  have HROW := hide (fun (W : World) (hW : Below W0.heap.size W0 W) => h.below (belOn hb0 hW))
  have HW0 := hide hW0.symm
  clear hb0 hlt c0 c1 c2 hW0 h
  by_cases h5 : k < 500
  · rw [decide_eq_true h5, Bool.true_and]
    unfold folB
    simp only
    have g5 : ¬ (500 : Int) ≤ (k : Int) := by omega
    cases he : entB tm kd bd with
    | false =>
      have HE := hide he
      clear he
      go_enter Tryz.func90, Tryz.ntmps90
      go_wp2_with fail
      rw [unhide HW0]
      refine (entryOk_calls tm kd bd W0 hb).mono ?_
      rintro e w1 ⟨rfl, hb1⟩
      rw [unhide HE]
      have HB1 := hide (unhide HFIN _ hb1)
      clear hb1
      go_wp2_with fail
      go_ret
      exact ⟨rfl, unhide HB1⟩
    | true =>
      have HE := hide he
      have ht1 := (entB_yes he).1
      clear he
      by_cases ht : tm ≤ term
      · rw [decide_eq_true ht]
        rcases Nat.eq_zero_or_pos k with hk0 | hk0
        · subst hk0
          rw [decide_eq_true (show prevT es 0 ≤ tm from by show (0 : Int) ≤ tm; omega)]
          go_enter Tryz.func90, Tryz.ntmps90
          go_wp2_with fail
          rw [unhide HW0]
          refine (entryOk_calls tm kd bd W0 hb).mono ?_
          rintro e w1 ⟨rfl, hb1⟩
          rw [unhide HE]
          have HB1 := hide (unhide HFIN _ hb1)
          obtain ⟨q0, q1, q2⟩ := unhide HC _ hb1
          clear hb1
          go_wp2_with fail
          go_quiet (fail)
          all_goals (try go_wp2_with fail)
          all_goals (try go_ret)
          all_goals exact ⟨rfl, belQ (unhide HB1) _⟩
        · obtain ⟨j, hkj⟩ : ∃ j, k = j + 1 := ⟨k - 1, by omega⟩
          have hj : j < es.length := by omega
          have hp : prevT es k = es[j].term := by rw [hkj, prevT, List.getElem?_eq_getElem hj]; rfl
          rw [hp]
          have HCD := hide (fun (W : World) (hW : Below W0.heap.size W0 W) => (unhide HROW _ hW).ex j hj)
          generalize es[j] = p at HCD
          obtain ⟨pt, pk, pb⟩ := p
          simp only at HCD ⊢
          have j0 : (0 : Int) ≤ (j : Int) := by omega
          have j1 : (j : Int) < (k : Int) := by omega
          have jn : ((k : Int) == 0) = false := by simp; omega
          have jw : IntKind.i64.wrap ((k : Int) - 1) = (j : Int) := by rw [IntKind.wrap_i64]; omega
          clear hp hj HROW hk hkj
          go_enter Tryz.func90, Tryz.ntmps90
          go_wp2_with fail
          rw [unhide HW0]
          refine (entryOk_calls tm kd bd W0 hb).mono ?_
          rintro e w1 ⟨rfl, hb1⟩
          rw [unhide HE]
          have HB1 := hide (unhide HFIN _ hb1)
          obtain ⟨q0, q1, q2⟩ := unhide HC _ hb1
          obtain ⟨g, e1, l1, p0, p1, p2⟩ := unhide HCD _ hb1
          subst e1
          clear hb1
          go_wp2_with fail
          go_quiet (fail)
          all_goals (try go_wp2_with fail)
          all_goals (try go_ret)
          all_goals exact ⟨rfl, belQ (unhide HB1) _⟩
      · rw [decide_eq_false ht]
        go_enter Tryz.func90, Tryz.ntmps90
        go_wp2_with fail
        rw [unhide HW0]
        refine (entryOk_calls tm kd bd W0 hb).mono ?_
        rintro e w1 ⟨rfl, hb1⟩
        rw [unhide HE]
        have HB1 := hide (unhide HFIN _ hb1)
        obtain ⟨q0, q1, q2⟩ := unhide HC _ hb1
        clear hb1
        go_wp2_with fail
        go_ret
        exact ⟨rfl, unhide HB1⟩
  · rw [decide_eq_false h5, Bool.false_and]
    have g5 : (500 : Int) ≤ (k : Int) := by omega
    go_enter Tryz.func90, Tryz.ntmps90
    go_wp2_with fail
    rw [unhide HW0]
    go_ret
    exact ⟨rfl, unhide HFIN _ (Below.refl _ _)⟩
end Go.Proofs.YtliklijcdcfomaaGreat


/- Entries in frames' bodies, as mathematics; logs in bytes. -/
namespace Go.Proofs.YtliklijcdcfomaaGreat
open Go.RowKit Plain
set_option linter.unusedVariables false

namespace Plain
/-- What stands in a frame's body, read without a look at its faults. -/
def rawN (s : ByteArray) (p : Nat) : Int × Nat := ((stp s p).map fun x => x).getD (0, p)
def rawT (s : ByteArray) (p : Nat) : ByteArray × Nat := (txp s p).getD (⟨#[]⟩, p)
def rawE (b : ByteArray) : Ent := ⟨(rawN b 0).1, (rawN b (rawN b 0).2).1, (rawT b (rawN b (rawN b 0).2).2).1⟩
/-- The entry of a frame. -/
def fiveE (f : Int × ByteArray) : Option Ent := match stp f.2 0 with
  | none => none
  | some (t, p) => match stp f.2 p with
    | none => none
    | some (k, q) => match txp f.2 q with
      | none => none
      | some (b, r) => if f.1 = 2 ∧ r = f.2.size ∧ entB t k b = true then some ⟨t, k, b⟩ else none
/-- The entry of a frame that is formed, whether it is right or not. -/
def frE (f : Int × ByteArray) : Option Ent := match stp f.2 0 with
  | none => none
  | some (t, p) => match stp f.2 p with
    | none => none
    | some (k, q) => match txp f.2 q with
      | none => none
      | some (b, r) => if f.1 = 2 ∧ r = f.2.size then some ⟨t, k, b⟩ else none
theorem five_fr (f : Int × ByteArray) : fiveE f = (frE f).filter fun e => entB e.term e.kind e.body := by
  unfold fiveE frE
  cases h1 : stp f.2 0 with
  | none => rfl
  | some x =>
    obtain ⟨t, p⟩ := x
    simp only
    cases h2 : stp f.2 p with
    | none => rfl
    | some y =>
      obtain ⟨k, q⟩ := y
      simp only
      cases h3 : txp f.2 q with
      | none => rfl
      | some z =>
        obtain ⟨b, r⟩ := z
        simp only
        by_cases hc : f.1 = 2 ∧ r = f.2.size
        · rw [if_pos hc]
          cases he : entB t k b with
          | true => rw [if_pos ⟨hc.1, hc.2, rfl⟩]; simp [Option.filter, he]
          | false => rw [if_neg (fun q => by cases q.2.2)]; simp [Option.filter, he]
        · rw [if_neg hc, if_neg (fun q => hc ⟨q.1, q.2.1⟩)]; rfl
theorem frE_of (k : Int) (b : ByteArray) : frE (k, b) = if k = 2 ∧ (tkN b 0).isSome = true ∧ (tkN b (rawN b 0).2).isSome = true ∧ (tkT b (rawN b (rawN b 0).2).2).isSome = true ∧ (rawT b (rawN b (rawN b 0).2).2).2 = b.size then some (rawE b) else none := by
  unfold frE rawE rawN rawT stp txp
  cases h1 : tkN b 0 with
  | none => simp
  | some x =>
    simp only [Option.map_some, Option.getD_some, Nat.zero_add]
    cases h2 : tkN b x.2 with
    | none => simp
    | some y =>
      simp only [Option.map_some, Option.getD_some]
      cases h3 : tkT b (x.2 + y.2) with
      | none => simp
      | some z => simp
/-- The entry that a frame adds to a log, if it does. -/
def accE (term : Int) (acc : List Ent) (f : Int × ByteArray) : Option Ent :=
  if acc.length < 500 then (fiveE f).filter fun e => decide (e.term ≤ term) && decide (prevT acc acc.length ≤ e.term) else none
def logE (term : Int) : List Ent → List (Int × ByteArray) → List Ent
  | acc, [] => acc
  | acc, f :: l => match accE term acc f with
    | some e => logE term (acc ++ [e]) l
    | none => acc
def logF (s : ByteArray) (term : Int) : List Ent := logE term [] (readF s).1
theorem acc_yes {term : Int} {acc : List Ent} {f : Int × ByteArray} {e : Ent} (h : frE f = some e) (h5 : acc.length < 500) (hf : folB term (prevT acc acc.length) e = true) : accE term acc f = some e := by
  unfold accE
  unfold folB at hf
  rw [Bool.and_eq_true] at hf
  rw [if_pos h5, five_fr, h]
  simp only [Option.filter, hf.1, if_true, hf.2]
theorem acc_no {term : Int} {acc : List Ent} {f : Int × ByteArray} (h : ∀ e, frE f = some e → (decide (acc.length < 500) && folB term (prevT acc acc.length) e) = false) : accE term acc f = none := by
  unfold accE
  by_cases h5 : acc.length < 500
  · rw [if_pos h5, five_fr]
    cases he : frE f with
    | none => rfl
    | some e =>
      have := h e he
      rw [decide_eq_true h5, Bool.true_and] at this
      unfold folB at this
      cases hb : entB e.term e.kind e.body with
      | false => simp [Option.filter, hb]
      | true =>
        rw [hb, Bool.true_and] at this
        simp only [Option.filter, hb, if_true, this]
        rfl
  · rw [if_neg h5]
/-- The state of a reader of a log: the entries acc are read, it stands at p. -/
def LMid (s : ByteArray) (term : Int) (acc : List Ent) (p : Nat) : Prop := ∃ F, Mid s F p ∧ F.length = acc.length ∧ acc.length ≤ 500 ∧ ∀ R, (readF s).1 = F ++ R → logF s term = logE term acc R
theorem LMid.start (s : ByteArray) (term : Int) : LMid s term [] 0 := ⟨[], Mid.start s, rfl, Nat.zero_le _, fun R h => by unfold logF; rw [h]; rfl⟩
theorem LMid.ends {s : ByteArray} {term : Int} {acc : List Ent} {p : Nat} (h : LMid s term acc p) (hp : s.size ≤ p) : logF s term = acc := by
  obtain ⟨F, hm, _, _, hr⟩ := h
  rw [hr [] (by rw [hm.ends hp, List.append_nil])]
  rfl
theorem LMid.code {s : ByteArray} {term : Int} {acc : List Ent} {p : Nat} (h : LMid s term acc p) (hp : ¬ s.size ≤ p) (hc : frC (s.extract p s.size) ≠ 0) : logF s term = acc := by
  obtain ⟨F, hm, hl, h5, hr⟩ := h
  rw [hr [] (by rw [hm.code hp (by omega) hc, List.append_nil])]
  rfl
theorem LMid.le {s : ByteArray} {term : Int} {acc : List Ent} {p : Nat} (h : LMid s term acc p) : p ≤ s.size ∧ acc.length ≤ 500 := by
  obtain ⟨F, hm, hl, h5, hr⟩ := h
  exact ⟨hm.2.1, h5⟩
theorem LMid.stop {s : ByteArray} {term : Int} {acc : List Ent} {p : Nat} (h : LMid s term acc p) (hp : ¬ s.size ≤ p) (hc : frC (s.extract p s.size) = 0) (ha : accE term acc (frm (s.extract p s.size)) = none) : logF s term = acc := by
  obtain ⟨F, hm, hl, h5, hr⟩ := h
  obtain ⟨_, _, hn⟩ := hm.next hp (by omega) hc
  rw [hr _ (by rw [hn, List.append_assoc, List.singleton_append]), logE, ha]
theorem LMid.next {s : ByteArray} {term : Int} {acc : List Ent} {p : Nat} {e : Ent} (h : LMid s term acc p) (hp : ¬ s.size ≤ p) (hc : frC (s.extract p s.size) = 0) (ha : accE term acc (frm (s.extract p s.size)) = some e) : LMid s term (acc ++ [e]) (p + frN (s.extract p s.size)) := by
  obtain ⟨F, hm, hl, h5, hr⟩ := h
  have h6 : acc.length < 500 := by
    unfold accE at ha
    by_cases q : acc.length < 500
    · exact q
    · rw [if_neg q] at ha; cases ha
  refine ⟨_, hm.next hp (by omega) hc, by simp [hl], by simp; omega, fun R hR => ?_⟩
  rw [hr _ (by rw [hR, List.append_assoc, List.singleton_append]), logE, ha]
theorem logE_small (term : Int) : ∀ (l : List (Int × ByteArray)) (acc : List Ent), acc.length ≤ 500 → (logE term acc l).length ≤ 500
  | [], acc, h => h
  | f :: l, acc, h => by
    rw [logE]
    cases ha : accE term acc f with
    | none => exact h
    | some e =>
      have h6 : acc.length < 500 := by
        unfold accE at ha
        by_cases q : acc.length < 500
        · exact q
        · rw [if_neg q] at ha; cases ha
      exact logE_small term l _ (by simp; omega)
/-- The vote in a file's bytes. -/
def votF (s : ByteArray) : Option (Int × Int) := match (readF s).1 with
  | [f] => if (readF s).2.2 = 0 ∧ f.1 = 1 then (match stp f.2 0 with
    | none => none
    | some (t, p) => match stp f.2 p with
      | none => none
      | some (v, q) => if q = f.2.size then some (t, v) else none) else none
  | _ => none
end Plain
end Go.Proofs.YtliklijcdcfomaaGreat

