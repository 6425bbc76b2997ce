/- Texts of one kind, put together. -/
import Derived.Test.YtakalfckhailjaaGreatGAB
import Derived.Test.YtakalfckhailjaaGreatGAE
import Derived.Sort.Walk0
import Derived.Deep.RegionWith
import Derived.Deep.QuietTactic
import Derived.BigQuiet

/- Rows of texts marked and looked at again, as the exact laws do it. -/
namespace Go.Proofs.YtakalfckhailjaaGreat
open Go.RowKit Plain
set_option linter.unusedVariables false

namespace Plain
end Plain



end Go.Proofs.YtakalfckhailjaaGreat


/- Texts rising, each once: the specification's l1Rising by its contract. -/
namespace Go.Proofs.YtakalfckhailjaaGreat
open Go.RowKit Plain
set_option linter.unusedVariables false

namespace Plain
def ltB (a b : ByteArray) : Prop := a.data.toList < b.data.toList
theorem ltB_irrefl (a : ByteArray) : ¬ ltB a a := List.lt_irrefl _
theorem ltB_trans {a b c : ByteArray} (h : ltB a b) (h2 : ltB b c) : ltB a c := List.lt_trans h h2
theorem ltB_tri {a b : ByteArray} (h : ¬ ltB a b) (h2 : a ≠ b) : ltB b a := by
  rcases Classical.em (ltB b a) with h3 | h3
  · exact h3
  · exact absurd (ByteArray.ext (Array.toList_inj.1 (List.le_antisymm h3 h))) h2
theorem less_ltB (a b : ByteArray) : Op.bytesLess a.toList b.toList = true ↔ ltB a b := by
  rw [bytesLess_eq, ByteArray.toList_eq, ByteArray.toList_eq, decide_eq_true_iff]; rfl
theorem beq_bytes (a b : ByteArray) : (a.toList == b.toList) = true ↔ a = b := by
  rw [beq_iff_eq, ByteArray.toList_eq, ByteArray.toList_eq]
  exact ⟨fun h => ByteArray.ext (Array.toList_inj.1 h), fun h => by rw [h]⟩
end Plain



end Go.Proofs.YtakalfckhailjaaGreat


/- Disks as plain mathematics: files, ops, what an op does; and how they lie in rows. -/
namespace Go.Proofs.YtakalfckhailjaaGreat
open Go.RowKit Plain
set_option linter.unusedVariables false

namespace Plain
abbrev Fl := ByteArray × ByteArray
def nmB (s : ByteArray) : Bool := decide (1 ≤ s.size) && decide (s.size ≤ 100)
def lessN (a b : ByteArray) : Bool := Op.bytesLess a.toList b.toList
def eqN (a b : ByteArray) : Bool := a.toList == b.toList
theorem lessN_iff (a b : ByteArray) : lessN a b = true ↔ ltB a b := less_ltB a b
theorem eqN_iff (a b : ByteArray) : eqN a b = true ↔ a = b := beq_bytes a b
theorem lessN_self (a : ByteArray) : lessN a a = false := by
  cases h : lessN a a with
  | false => rfl
  | true => exact absurd ((lessN_iff a a).1 h) (ltB_irrefl a)
theorem eqN_self (a : ByteArray) : eqN a a = true := (eqN_iff a a).2 rfl
theorem less_not {a b : ByteArray} (h : lessN a b = true) : lessN b a = false ∧ eqN b a = false := by
  have h1 := (lessN_iff a b).1 h
  constructor
  · cases h2 : lessN b a with
    | false => rfl
    | true => exact absurd (ltB_trans h1 ((lessN_iff b a).1 h2)) (ltB_irrefl a)
  · cases h2 : eqN b a with
    | false => rfl
    | true => rw [(eqN_iff b a).1 h2] at h1; exact absurd h1 (ltB_irrefl a)
theorem less_or {a b : ByteArray} (h : lessN a b = false) : (lessN b a || eqN b a) = true := by
  cases h2 : eqN b a with
  | true => simp
  | false =>
    have hne : a ≠ b := fun e => by rw [e, eqN_self] at h2; simp at h2
    have : ltB b a := ltB_tri (fun h3 => by rw [(lessN_iff a b).2 h3] at h; simp at h) hne
    rw [(lessN_iff b a).2 this]; rfl
/-- Names of their form, rising; behind p. -/
def okF : Option ByteArray → List Fl → Bool
  | _, [] => true
  | none, f :: t => nmB f.1 && okF (some f.1) t
  | some p, f :: t => (nmB f.1 && lessN p f.1) && okF (some f.1) t
def sumF : List Fl → Nat
  | [] => 0
  | f :: t => f.2.size + sumF t
def filesB (fs : List Fl) : Bool := decide (fs.length ≤ 60) && (okF none fs && decide (sumF fs ≤ 200000))
def prevN (fs : List Fl) : Nat → Option ByteArray
  | 0 => none
  | k + 1 => (fs[k]?).map fun f => f.1
theorem okF_step (fs : List Fl) (k : Nat) (h : k < fs.length) : okF (prevN fs k) (fs.drop k) = ((nmB fs[k].1 && (match prevN fs k with | none => true | some p => lessN p fs[k].1)) && okF (prevN fs (k + 1)) (fs.drop (k + 1))) := by
  rw [List.drop_eq_getElem_cons h]
  have e : prevN fs (k + 1) = some fs[k].1 := by rw [prevN, List.getElem?_eq_getElem h]; rfl
  rw [e]
  cases hp : prevN fs k with
  | none => rw [okF]; simp
  | some p => rw [okF]
theorem sumF_drop (fs : List Fl) (k : Nat) (h : k < fs.length) : sumF (fs.drop k) = fs[k].2.size + sumF (fs.drop (k + 1)) := by rw [List.drop_eq_getElem_cons h, sumF]
/-- The place of the first file of this name. -/
def atF (n : ByteArray) : List Fl → Option Nat
  | [] => none
  | f :: t => if eqN f.1 n then some 0 else (atF n t).map (· + 1)
theorem atF_yes (n : ByteArray) (fs : List Fl) (k : Nat) (h : k < fs.length) (he : eqN fs[k].1 n = true) : atF n (fs.drop k) = some 0 := by rw [List.drop_eq_getElem_cons h, atF, if_pos he]
theorem atF_no (n : ByteArray) (fs : List Fl) (k : Nat) (h : k < fs.length) (he : eqN fs[k].1 n = false) : atF n (fs.drop k) = (atF n (fs.drop (k + 1))).map (· + 1) := by rw [List.drop_eq_getElem_cons h, atF, if_neg (by rw [he]; simp)]
theorem atF_lt (n : ByteArray) (fs : List Fl) (i : Nat) (h : atF n fs = some i) : ∃ hi : i < fs.length, fs[i].1 = n := by
  induction fs generalizing i with
  | nil => simp [atF] at h
  | cons f t ih =>
    rw [atF] at h
    by_cases he : eqN f.1 n = true
    · rw [if_pos he] at h
      obtain rfl : 0 = i := by simpa using h
      exact ⟨by simp, by simpa using (eqN_iff _ _).1 he⟩
    · rw [if_neg he] at h
      cases ha : atF n t with
      | none => rw [ha] at h; simp at h
      | some j =>
        rw [ha] at h
        obtain rfl : j + 1 = i := by simpa using h
        obtain ⟨hj, e⟩ := ih j ha
        exact ⟨by simpa using hj, by simpa using e⟩
/-- The files with one of this name and data. -/
def putG (n d : ByteArray) : Bool → List Fl → List Fl
  | true, [] => []
  | false, [] => [(n, d)]
  | b, f :: t => (if !b && !lessN f.1 n then [(n, d)] else []) ++ ((if eqN f.1 n then [] else [f]) ++ putG n d (b || !lessN f.1 n) t)
def putF (fs : List Fl) (n d : ByteArray) : List Fl := putG n d false fs
def cutF (n : ByteArray) : List Fl → List Fl
  | [] => []
  | f :: t => (if eqN f.1 n then [] else [f]) ++ cutF n t
theorem putG_step (n d : ByteArray) (b : Bool) (fs : List Fl) (k : Nat) (h : k < fs.length) : putG n d b (fs.drop k) = (if !b && !lessN fs[k].1 n then [(n, d)] else []) ++ ((if eqN fs[k].1 n then [] else [fs[k]]) ++ putG n d (b || !lessN fs[k].1 n) (fs.drop (k + 1))) := by
  rw [List.drop_eq_getElem_cons h]
  cases b <;> rw [putG]
theorem cutF_step (n : ByteArray) (fs : List Fl) (k : Nat) (h : k < fs.length) : cutF n (fs.drop k) = (if eqN fs[k].1 n then [] else [fs[k]]) ++ cutF n (fs.drop (k + 1)) := by
  rw [List.drop_eq_getElem_cons h, cutF]
def formB (o : Dop) : Bool := (decide (1 ≤ o.kind) && decide (o.kind ≤ 3)) && nmB o.name && (if o.kind = 2 then nmB o.to && emp o.data else emp o.to && (decide (o.kind = 1) || emp o.data))
/-- Files behind an op; false: it finds no file. -/
def doF (fs : List Fl) (o : Dop) : List Fl × Bool :=
  if o.kind = 1 then (putF fs o.name (match atF o.name fs with | some i => (fs.getD i (⟨#[]⟩, ⟨#[]⟩)).2 ++ o.data | none => o.data), true)
  else match atF o.name fs with
    | none => (fs, false)
    | some i => (if o.kind = 2 then putF (cutF o.name fs) o.to (fs.getD i (⟨#[]⟩, ⟨#[]⟩)).2 else cutF o.name fs, true)
def sameF : List Fl → List Fl → Bool
  | [], [] => true
  | f :: s, g :: t => (eqN f.1 g.1 && eqN f.2 g.2) && sameF s t
  | _, _ => false
def runF : List Fl → List Dop → Option (List Fl)
  | fs, [] => some fs
  | fs, o :: t => if (doF fs o).2 && (formB o && filesB (doF fs o).1) then runF (doF fs o).1 t else none
def diskB (live safe : List Fl) (ops : List Dop) : Bool := filesB live && (filesB safe && (decide (ops.length ≤ 200) && (match runF safe ops with | none => false | some now => sameF now live)))
end Plain

/-- Files as elements. -/
def fileE : Elem Fl where
  E := 67
  S := 24
  n := 2
  bytes := 32
  zero := .agg #[.string ⟨#[]⟩, .string ⟨#[]⟩]
  enc := fun f => [.string f.1, .string f.2]
  hund := Tryz.underlying24
  hinfo := by kernel_rfl
  hz := rfl
  hn := by decide
  hb := by decide
  hlen := fun _ => rfl
  hone := fun x u hu => by simp at hu; rcases hu with rfl | rfl <;> rfl
/-- Ops as elements. -/
def dopE : Elem Dop where
  E := 50
  S := 25
  n := 4
  bytes := 56
  zero := .agg #[.int .i64 0, .string ⟨#[]⟩, .string ⟨#[]⟩, .string ⟨#[]⟩]
  enc := fun o => [.int .i64 o.kind, .string o.name, .string o.to, .string o.data]
  hund := Tryz.underlying25
  hinfo := by kernel_rfl
  hz := rfl
  hn := by decide
  hb := by decide
  hlen := fun _ => rfl
  hone := fun x u hu => by simp at hu; rcases hu with rfl | rfl | rfl | rfl <;> rfl
theorem RowAt.file {W : World} {a : Option Addr} {xs : List Fl} (h : RowAt fileE W a xs) (i : Nat) (hi : i < xs.length) : ∃ g, a = some ⟨g, 0, none⟩ ∧ g < W.heap.size ∧ W.cell? ⟨g, i * 2, none⟩ = some (.string xs[i].1) ∧ W.cell? ⟨g, i * 2 + 1, none⟩ = some (.string xs[i].2) := by
  obtain ⟨g, e1, hl, h1⟩ := h i hi
  exact ⟨g, e1, hl, (h1 0 (by decide)).1, (h1 1 (by decide)).1⟩
theorem RowAt.dop {W : World} {a : Option Addr} {xs : List Dop} (h : RowAt dopE W a xs) (i : Nat) (hi : i < xs.length) : ∃ g, a = some ⟨g, 0, none⟩ ∧ g < W.heap.size ∧ W.cell? ⟨g, i * 4, none⟩ = some (.int .i64 xs[i].kind) ∧ W.cell? ⟨g, i * 4 + 1, none⟩ = some (.string xs[i].name) ∧ W.cell? ⟨g, i * 4 + 2, none⟩ = some (.string xs[i].to) ∧ W.cell? ⟨g, i * 4 + 3, none⟩ = some (.string xs[i].data) := by
  obtain ⟨g, e1, hl, h1⟩ := h i hi
  exact ⟨g, e1, hl, (h1 0 (by decide)).1, (h1 1 (by decide)).1, (h1 2 (by decide)).1, (h1 3 (by decide)).1⟩
end Go.Proofs.YtakalfckhailjaaGreat


/- The specification's files: which are right, the place of one, put, cut. -/
namespace Go.Proofs.YtakalfckhailjaaGreat
open Go.RowKit Plain
set_option linter.unusedVariables false

/-- The files of a row are of a size that a machine bears. -/
def Plain.FitF (fs : List Fl) : Prop := ∀ f ∈ fs, f.1.size ≤ 1000000000000 ∧ f.2.size ≤ 1000000000000

theorem l4Name_calls (s : ByteArray) (w : World) (hs : s.size ≤ 1000000000000) :
    Calls Tryz.prog 102 #[.string s] w fun e w' => e = .returned (.bool (nmB s)) ∧ w = w' := by
  unfold nmB
  by_cases h1 : 1 ≤ s.size
  · by_cases h2 : s.size ≤ 100
    · rw [decide_eq_true h1, decide_eq_true h2]
      have h3 : decide ((s.size : Int) ≤ 100) = true := decide_eq_true (by omega)
      go_enter Tryz.func102, Tryz.ntmps102
      go_wp2
      go_ret
      exact ⟨rfl, rfl⟩
    · rw [decide_eq_true h1, decide_eq_false h2]
      have h3 : decide ((s.size : Int) ≤ 100) = false := decide_eq_false (by omega)
      go_enter Tryz.func102, Tryz.ntmps102
      go_wp2
      go_ret
      exact ⟨rfl, rfl⟩
  · rw [decide_eq_false h1]
    go_enter Tryz.func102, Tryz.ntmps102
    go_wp2
    go_ret
    exact ⟨rfl, rfl⟩

theorem name_quiet (s : ByteArray) (w : World) (n : Nat) (b : Bool) (hs : s.size ≤ 1000000000000) (hb : nmB s = b) :
    Calls Tryz.prog 102 #[.string s] (w.drewN n) fun e w'' => e = .returned (.bool b) ∧ ∃ m, w'' = w.drewN m := by
  subst hb
  refine (l4Name_calls s _ hs).mono ?_
  rintro e w2 ⟨rfl, rfl⟩
  exact ⟨rfl, n, rfl⟩
theorem Plain.belN {B : Nat} {w w' : World} (h : Below B w w') (k : Nat) : Below B w (w'.drewN k) := ⟨h.os, h.tape, h.output, h.size, h.block⟩

set_option maxRecDepth 10000 in
set_option maxHeartbeats 4000000 in
theorem l4Files_calls (a : Option Addr) (n c : Nat) (fs : List Fl) (w : World) (hn : fs.length = n) (hn2 : n ≤ 100000000000) (hf : FitF fs) (h : RowAt fileE w a fs) :
    Calls Tryz.prog 67 #[.slice a n c] w fun e w' => e = .returned (.bool (filesB fs)) ∧ Below w.heap.size w w' := by
  have H := hide h
  have HN := hide hn
  have HF := hide hf
  clear h hf
  have HB : filesB fs = (decide (n ≤ 60) && (okF none fs && decide (sumF fs ≤ 200000))) := by unfold filesB; rw [hn]
  rw [HB]
  clear HB hn
  by_cases hl : n ≤ 60
  · rw [decide_eq_true hl]
    go_enter Tryz.func67, Tryz.ntmps67
    go_wp2_with fail
    go_loopw [3, 4] (fun m i wr => ∃ (k s : Nat), m = .int .i64 s ∧ i = .int .i64 k ∧ k ≤ n ∧ s ≤ k * 1000000000000 ∧ Hid (okF (prevN fs k) (fs.drop k) = okF none fs) ∧ Hid (s + sumF (fs.drop k) = sumF fs) ∧ Hid (Below w.heap.size w wr)) (fun _ i _ => n - (intOf i).toNat)
    case atStart => exact ⟨0, 0, rfl, rfl, by omega, by omega, hide rfl, hide (by simp), hide (Below.refl _ _)⟩
    case round =>
      obtain ⟨k, s, rfl, rfl, hk, hs, HO, HS, HBe⟩ := hrel
      by_cases hkn : k < n
      · have hkl : k < fs.length := by rw [unhide HN]; exact hkn
        obtain ⟨g, e1, l1, p0, p1⟩ := ((unhide H).below (unhide HBe)).file k hkl
        have hfit := unhide HF fs[k] (by simp)
        have hst := okF_step fs k hkl
        have hsu := sumF_drop fs k hkl
        have hprev : ∀ j, k = j + 1 → ∃ p, prevN fs k = some p ∧ wr.cell? ⟨g, j * 2, none⟩ = some (.string p) := by
          intro j hj
          subst hj
          have hjl : j < fs.length := by omega
          obtain ⟨g', e', l', r0, r1⟩ := ((unhide H).below (unhide HBe)).file j hjl
          rw [e1] at e'
          obtain rfl : g = g' := by simpa using e'
          exact ⟨fs[j].1, by rw [prevN, List.getElem?_eq_getElem hjl]; rfl, r0⟩
        generalize fs[k] = f at p0 p1 hfit hst hsu
        obtain ⟨nm, dt⟩ := f
        simp only at p0 p1 hfit hst hsu
        subst e1
        have i0 : (0 : Int) ≤ (k : Int) := by omega
        have i1 : (k : Int) < (n : Int) := by omega
        cases hnm : nmB nm with
        | false =>
          have HR := hide (show okF none fs = false from by rw [← unhide HO, hst, hnm]; rfl)
          have HNM := hide hnm
          clear hst hsu hprev hnm HO HS
          go_wp2_with fail
          go_quiet ((go_at_call 102; exact name_quiet _ _ _ _ hfit.1 (unhide HNM)))
          all_goals (try go_wp2_with fail)
          all_goals go_ret
          all_goals exact ⟨by rw [unhide HR]; rfl, belN (unhide HBe) _⟩
        | true =>
          have HNM := hide hnm
          rw [hnm, Bool.true_and] at hst
          have hsk : s + dt.size ≤ (k + 1) * 1000000000000 := by omega
          have HS2 := hide (show (s + dt.size) + sumF (fs.drop (k + 1)) = sumF fs from by rw [← unhide HS, hsu]; omega)
          have hs60 : s ≤ 60000000000000 := by omega
          clear hnm hsu HS
          cases k with
          | zero =>
            have HO2 := hide (show okF (prevN fs 1) (fs.drop 1) = okF none fs from by rw [← unhide HO, hst]; rfl)
            clear hst hprev HO
            simp only [Nat.zero_mul, Nat.zero_add] at p0 p1
            go_wp2_with fail
            go_quiet ((go_at_call 102; exact name_quiet _ _ _ _ hfit.1 (unhide HNM)))
            all_goals (try go_wp2_with fail)
            all_goals exact ⟨⟨1, s + dt.size, by go_num, by go_num, by omega, hsk, HO2, HS2, hide (belN (unhide HBe) _)⟩, by simp [intOf]; omega⟩
          | succ j =>
            obtain ⟨p, hp, r0⟩ := hprev j rfl
            rw [hp] at hst
            simp only at hst
            have j0 : (0 : Int) ≤ (j : Int) := by omega
            have j1 : (j : Int) < (n : Int) := by omega
            have j2 : (j : Int) + 1 < (n : Int) := by omega
            cases hls : lessN p nm with
            | false =>
              have HR := hide (show okF none fs = false from by rw [← unhide HO, hp, hst, hls]; rfl)
              have hor := less_or hls
              unfold lessN eqN at hor
              clear hst hprev HO hls hp
              go_wp2_with fail
              go_quiet ((go_at_call 102; exact name_quiet _ _ _ _ hfit.1 (unhide HNM)))
              all_goals (try go_wp2_with fail)
              all_goals go_ret
              all_goals exact ⟨by rw [unhide HR]; rfl, belN (unhide HBe) _⟩
            | true =>
              have HO2 := hide (show okF (prevN fs (j + 1 + 1)) (fs.drop (j + 1 + 1)) = okF none fs from by rw [← unhide HO, hp, hst, hls]; rfl)
              obtain ⟨b1, b2⟩ := less_not hls
              unfold lessN at b1
              unfold eqN at b2
              clear hst hprev HO hls hp
              go_wp2_with fail
              go_quiet ((go_at_call 102; exact name_quiet _ _ _ _ hfit.1 (unhide HNM)))
              all_goals (try go_wp2_with fail)
              all_goals exact ⟨⟨j + 1 + 1, s + dt.size, by go_num, by go_num, by omega, hsk, HO2, HS2, hide (belN (unhide HBe) _)⟩, by simp [intOf]; omega⟩
      · obtain rfl : k = n := by omega
        have HO2 := unhide HO
        have HS2 := unhide HS
        rw [List.drop_of_length_le (by rw [unhide HN]; exact Nat.le_refl _)] at HO2 HS2
        have HR := hide (show okF none fs = true from by rw [← HO2]; cases prevN fs k <;> rfl)
        have HT := hide (show sumF fs = s from by rw [← HS2]; rfl)
        clear HO HS HO2 HS2
        by_cases h2 : s ≤ 200000
        · have h3 : decide ((s : Int) ≤ 200000) = true := decide_eq_true (by omega)
          have H3 := hide (decide_eq_true h2)
          go_wp2_with fail
          go_ret
          exact ⟨by rw [unhide HR, unhide HT, unhide H3]; rfl, unhide HBe⟩
        · have h3 : decide ((s : Int) ≤ 200000) = false := decide_eq_false (by omega)
          have H3 := hide (decide_eq_false h2)
          go_wp2_with fail
          go_ret
          exact ⟨by rw [unhide HR, unhide HT, unhide H3]; rfl, unhide HBe⟩
  · rw [decide_eq_false hl]
    go_enter Tryz.func67, Tryz.ntmps67
    go_wp2_with fail
    go_ret
    exact ⟨rfl, Below.refl _ _⟩
end Go.Proofs.YtakalfckhailjaaGreat


/- The specification's files: the place of one, put, cut. -/
namespace Go.Proofs.YtakalfckhailjaaGreat
open Go.RowKit Plain
set_option linter.unusedVariables false

def Plain.atV : Option Nat → Int
  | some i => i
  | none => -1

set_option maxHeartbeats 2000000 in
theorem l4At_calls (a : Option Addr) (n c : Nat) (fs : List Fl) (nm : ByteArray) (w : World) (hn : fs.length = n) (hn2 : n ≤ 100000000) (h : RowAt fileE w a fs) :
    Calls Tryz.prog 30 #[.slice a n c, .string nm] w fun e w' => e = .returned (.int .i64 (atV (atF nm fs))) ∧ w = w' := by
  have H := hide h
  have HN := hide hn
  clear h hn
  go_enter Tryz.func30, Tryz.ntmps30
  go_wp2_with fail
  go_loop [5] (fun i => ∃ k : Nat, i = .int .i64 k ∧ k ≤ n ∧ Hid ((atF nm (fs.drop k)).map (· + k) = atF nm fs)) (fun i => n - (intOf i).toNat)
  case atStart => exact ⟨0, rfl, by omega, hide (by rw [List.drop_zero]; cases atF nm fs <;> rfl)⟩
  case round =>
    obtain ⟨k, rfl, hk, HR⟩ := hrel
    by_cases hkn : k < n
    · have hkl : k < fs.length := by rw [unhide HN]; exact hkn
      obtain ⟨g, e1, l1, p0, p1⟩ := (unhide H).file k hkl
      have h1 := atF_yes nm fs k hkl
      have h2 := atF_no nm fs k hkl
      generalize fs[k] = f at p0 p1 h1 h2
      obtain ⟨fn, fd⟩ := f
      simp only at p0 p1 h1 h2
      subst e1
      have i0 : (0 : Int) ≤ (k : Int) := by omega
      have i1 : (k : Int) < (n : Int) := by omega
      cases he : eqN fn nm with
      | true =>
        have HF := hide (show atF nm fs = some k from by rw [← unhide HR, h1 he]; simp)
        unfold eqN at he
        clear h1 h2 HR
        go_wp2_with fail
        go_ret
        exact ⟨by rw [unhide HF]; rfl, rfl⟩
      | false =>
        have HF := hide (show (atF nm (fs.drop (k + 1))).map (· + (k + 1)) = atF nm fs from by
          rw [← unhide HR, h2 he]
          cases atF nm (fs.drop (k + 1)) with
          | none => rfl
          | some i => simp; omega)
        unfold eqN at he
        clear h1 h2 HR
        go_wp2_with fail
        go_round
        case rel => exact ⟨k + 1, by go_num, by omega, HF⟩
        case measure => simp [intOf]; omega
    · have HF := unhide HR
      rw [List.drop_of_length_le (by rw [unhide HN]; omega)] at HF
      have HFF := hide (show atF nm fs = none from by rw [← HF]; rfl)
      clear HR HF
      go_wp2_with fail
      go_ret
      exact ⟨by rw [unhide HFF]; rfl, rfl⟩

set_option maxRecDepth 10000 in
set_option maxHeartbeats 4000000 in
theorem l4Cut_calls (a : Option Addr) (n c : Nat) (fs : List Fl) (nm : ByteArray) (w : World) (hn : fs.length = n) (hn2 : n ≤ 10000000) (h : RowAt fileE w a fs) :
    Calls Tryz.prog 104 #[.slice a n c, .string nm] w fun e w' => ∃ v, e = .returned v ∧ OwnR fileE w' w.heap.size v (cutF nm fs) ∧ Below w.heap.size w w' := by
  have H := hide h
  have HN := hide hn
  clear h hn
  go_enter Tryz.func104, Tryz.ntmps104
  go_wp2_with fail
  go_loopw [5, 6] (fun v i wr => ∃ (k : Nat) (ds : List Fl), i = .int .i64 k ∧ k ≤ n ∧ ds.length ≤ k ∧ Hid (OwnR fileE wr w.heap.size v ds) ∧ Hid (Below w.heap.size w wr) ∧ w.heap.size ≤ wr.heap.size ∧ Hid (ds ++ cutF nm (fs.drop k) = cutF nm fs)) (fun _ i _ => n - (intOf i).toNat)
  case atStart => exact ⟨0, [], rfl, by omega, by simp, hide (ownR_empty fileE w _ (Nat.le_refl _)), hide ((Below.refl _ _).alloc (Nat.le_refl _) _), by simp, hide rfl⟩
  case round =>
    obtain ⟨k, ds, rfl, hk, hds, HO, HB, hz, HR⟩ := hrel
    by_cases hkn : k < n
    · have hkl : k < fs.length := by rw [unhide HN]; exact hkn
      obtain ⟨g, e1, l1, p0, p1⟩ := ((unhide H).below (unhide HB)).file k hkl
      have hst := cutF_step nm fs k hkl
      generalize fs[k] = f at p0 p1 hst
      obtain ⟨fn, fd⟩ := f
      simp only at p0 p1 hst
      subst e1
      have i0 : (0 : Int) ≤ (k : Int) := by omega
      have i1 : (k : Int) < (n : Int) := by omega
      cases he : eqN fn nm with
      | true =>
        have HF := hide (show ds ++ cutF nm (fs.drop (k + 1)) = cutF nm fs from by rw [← unhide HR, hst, he]; rfl)
        unfold eqN at he
        clear hst HR
        go_wp2_with fail
        go_roundw
        case rel => exact ⟨k + 1, ds, by go_num, by omega, by omega, HO, HB, hz, HF⟩
        case measure => simp [intOf]; omega
      | false =>
        have HF := hide (show (ds ++ [(fn, fd)]) ++ cutF nm (fs.drop (k + 1)) = cutF nm fs from by rw [← unhide HR, hst, he]; simp)
        unfold eqN at he
        clear hst HR
        go_wp2_with (at_builtin; go_must (refine appR (e := fileE) rfl _ _ rfl (unhide HO) rfl (fn, fd) rfl _ rfl rfl (by omega) hz ?_); intro v' w6 hown6 hb6 hg6)
        go_roundw
        case rel => exact ⟨k + 1, ds ++ [(fn, fd)], by go_num, by omega, by simp; omega, hide hown6, hide ((unhide HB).trans hb6), Nat.le_trans hz hb6.size, HF⟩
        case measure => simp [intOf]; omega
    · have HF := unhide HR
      rw [List.drop_of_length_le (by rw [unhide HN]; omega), show cutF nm [] = [] from rfl, List.append_nil] at HF
      subst HF
      clear HR
      go_wp2_with fail
      go_ret
      exact ⟨_, rfl, unhide HO, unhide HB⟩

set_option maxRecDepth 10000 in
set_option maxHeartbeats 4000000 in
theorem l4Put_calls (a : Option Addr) (n c : Nat) (fs : List Fl) (nm d : ByteArray) (w : World) (hn : fs.length = n) (hn2 : n ≤ 10000000) (h : RowAt fileE w a fs) :
    Calls Tryz.prog 103 #[.slice a n c, .string nm, .string d] w fun e w' => ∃ v, e = .returned v ∧ OwnR fileE w' w.heap.size v (putF fs nm d) ∧ Below w.heap.size w w' := by
  have H := hide h
  have HN := hide hn
  clear h hn
  go_enter Tryz.func103, Tryz.ntmps103
  go_wp2_with fail
  go_loopw [7, 8, 9] (fun v b i wr => ∃ (k : Nat) (dn : Bool) (ds : List Fl), b = .bool dn ∧ i = .int .i64 k ∧ k ≤ n ∧ ds.length ≤ 2 * k ∧ Hid (OwnR fileE wr w.heap.size v ds) ∧ Hid (Below w.heap.size w wr) ∧ w.heap.size ≤ wr.heap.size ∧ Hid (ds ++ putG nm d dn (fs.drop k) = putF fs nm d)) (fun _ _ i _ => n - (intOf i).toNat)
  case atStart => exact ⟨0, false, [], rfl, rfl, by omega, by simp, hide (ownR_empty fileE w _ (Nat.le_refl _)), hide ((Below.refl _ _).alloc (Nat.le_refl _) _), by simp, hide rfl⟩
  case round =>
    obtain ⟨k, dn, ds, rfl, rfl, hk, hds, HO, HB, hz, HR⟩ := hrel
    by_cases hkn : k < n
    · have hkl : k < fs.length := by rw [unhide HN]; exact hkn
      have HC := hide (fun (W : World) (hW : Below w.heap.size w W) => ((unhide H).below hW).file k hkl)
      obtain ⟨g, e1, l1, p0, p1⟩ := unhide HC wr (unhide HB)
      have hst := putG_step nm d dn fs k hkl
      generalize fs[k] = f at p0 p1 hst HC
      obtain ⟨fn, fd⟩ := f
      simp only at p0 p1 hst
      subst e1
      have i0 : (0 : Int) ≤ (k : Int) := by omega
      have i1 : (k : Int) < (n : Int) := by omega
      cases dn with
      | true =>
        cases he : eqN fn nm with
        | true =>
          have HF := hide (show ds ++ putG nm d true (fs.drop (k + 1)) = putF fs nm d from by rw [← unhide HR, hst, he]; simp)
          unfold eqN at he
          clear hst HR
          go_wp2_with fail
          go_roundw
          case rel => exact ⟨k + 1, true, ds, rfl, by go_num, by omega, by omega, HO, HB, hz, HF⟩
          case measure => simp [intOf]; omega
        | false =>
          have HF := hide (show (ds ++ [(fn, fd)]) ++ putG nm d true (fs.drop (k + 1)) = putF fs nm d from by rw [← unhide HR, hst, he]; simp)
          unfold eqN at he
          clear hst HR
          go_wp2_with (at_builtin; go_must (refine appR (e := fileE) rfl _ _ rfl (unhide HO) rfl (fn, fd) rfl _ rfl rfl (by omega) hz ?_); intro v' w6 hown6 hb6 hg6)
          go_roundw
          case rel => exact ⟨k + 1, true, ds ++ [(fn, fd)], rfl, by go_num, by omega, by simp; omega, hide hown6, hide ((unhide HB).trans hb6), Nat.le_trans hz hb6.size, HF⟩
          case measure => simp [intOf]; omega
      | false =>
        cases hl : lessN fn nm with
        | true =>
          have he : eqN fn nm = false := by
            cases h : eqN fn nm with
            | false => rfl
            | true => rw [(eqN_iff _ _).1 h, lessN_self] at hl; simp at hl
          have HF := hide (show (ds ++ [(fn, fd)]) ++ putG nm d false (fs.drop (k + 1)) = putF fs nm d from by rw [← unhide HR, hst, he, hl]; simp)
          unfold eqN at he
          unfold lessN at hl
          clear hst HR
          go_wp2_with (at_builtin; go_must (refine appR (e := fileE) rfl _ _ rfl (unhide HO) rfl (fn, fd) rfl _ rfl rfl (by omega) hz ?_); intro v' w6 hown6 hb6 hg6)
          go_roundw
          case rel => exact ⟨k + 1, false, ds ++ [(fn, fd)], rfl, by go_num, by omega, by simp; omega, hide hown6, hide ((unhide HB).trans hb6), Nat.le_trans hz hb6.size, HF⟩
          case measure => simp [intOf]; omega
        | false =>
          cases he : eqN fn nm with
          | true =>
            have HF := hide (show (ds ++ [(nm, d)]) ++ putG nm d true (fs.drop (k + 1)) = putF fs nm d from by rw [← unhide HR, hst, he, hl]; simp)
            unfold eqN at he
            unfold lessN at hl
            clear hst HR
            go_wp2_with (at_builtin; go_must (refine appR (e := fileE) rfl _ _ rfl (unhide HO) rfl (nm, d) rfl _ rfl rfl (by omega) hz ?_); intro v' w6 hown6 hb6 hg6; obtain ⟨g9, e9, l9, p9, r9⟩ := unhide HC w6 ((unhide HB).trans hb6); obtain rfl : g = g9 := by simpa using e9)
            go_roundw
            case rel => exact ⟨k + 1, true, ds ++ [(nm, d)], rfl, by go_num, by omega, by simp; omega, hide hown6, hide ((unhide HB).trans hb6), Nat.le_trans hz hb6.size, HF⟩
            case measure => simp [intOf]; omega
          | false =>
            have HF := hide (show (ds ++ [(nm, d)] ++ [(fn, fd)]) ++ putG nm d true (fs.drop (k + 1)) = putF fs nm d from by rw [← unhide HR, hst, he, hl]; simp)
            unfold eqN at he
            unfold lessN at hl
            clear hst HR
            go_wp2_with (first
              | (at_builtin; refine appR (e := fileE) rfl _ _ rfl (unhide HO6) rfl (fn, fd) rfl _ rfl rfl (by simp; omega) hz6 ?_; intro v8 w8 hown8 hb8 hg8)
              | (at_builtin; refine appR (e := fileE) rfl _ _ rfl (unhide HO) rfl (nm, d) rfl _ rfl rfl (by omega) hz ?_; intro v' w6 hown6 hb6 hg6; have HO6 := hide hown6; have hz6 := Nat.le_trans hz hb6.size; obtain ⟨g9, e9, l9, p9, r9⟩ := unhide HC w6 ((unhide HB).trans hb6); obtain rfl : g = g9 := by simpa using e9))
            go_roundw
            case rel => exact ⟨k + 1, true, ds ++ [(nm, d)] ++ [(fn, fd)], rfl, by go_num, by omega, by simp; omega, hide hown8, hide (((unhide HB).trans hb6).trans hb8), Nat.le_trans hz6 hb8.size, HF⟩
            case measure => simp [intOf]; omega
    · have HF := unhide HR
      rw [List.drop_of_length_le (by rw [unhide HN]; omega)] at HF
      clear HR
      cases dn with
      | true =>
        rw [putG, List.append_nil] at HF
        subst HF
        go_wp2_with fail
        go_ret
        exact ⟨_, rfl, unhide HO, unhide HB⟩
      | false =>
        rw [putG] at HF
        have HFF := hide HF
        clear HF
        go_wp2_with (at_builtin; go_must (refine appR (e := fileE) rfl _ _ rfl (unhide HO) rfl (nm, d) rfl _ rfl rfl (by omega) hz ?_); intro v' w6 hown6 hb6 hg6)
        go_ret
        exact ⟨_, rfl, by rw [← unhide HFF]; exact hown6, (unhide HB).trans hb6⟩
end Go.Proofs.YtakalfckhailjaaGreat

