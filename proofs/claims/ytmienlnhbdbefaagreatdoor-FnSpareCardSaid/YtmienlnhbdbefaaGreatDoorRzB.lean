/- Texts of one kind, put together. -/
import Derived.Test.YtmienlnhbdbefaaGreatDoorRzA
import Derived.Test.YtmienlnhbdbefaaGreatDoorRzE
import Derived.Deep.QuietTactic
import Derived.BigQuiet
import Derived.Laws.BitsAllLaws

/- Manifests as plain mathematics: when one is right, its text, what is read of a text. -/
namespace Go.Proofs.YtmienlnhbdbefaaGreatDoor
open Go.RowKit Plain
set_option linter.unusedVariables false
namespace Plain
def cfgH : ByteArray := ⟨#[99, 111, 110, 102, 105, 103, 32]⟩
def layH : ByteArray := ⟨#[108, 97, 121, 101, 114, 32]⟩
def nlB : ByteArray := ⟨#[10]⟩
def manB (c : ByteArray) (ls : List ByteArray) : Bool := digB c && (decide (1 ≤ ls.length) && decide (ls.length ≤ 40)) && ls.all digB
def laysS : ByteArray → List ByteArray → ByteArray
  | acc, [] => acc
  | acc, l :: ls => laysS (acc ++ (layH ++ l ++ nlB)) ls
def manS (c : ByteArray) (ls : List ByteArray) : ByteArray := if manB c ls then laysS (cfgH ++ c ++ nlB) ls else ⟨#[]⟩
theorem laysS_snoc (acc : ByteArray) (ls : List ByteArray) (x : ByteArray) : laysS acc (ls ++ [x]) = laysS acc ls ++ (layH ++ x ++ nlB) := by
  induction ls generalizing acc with
  | nil => rfl
  | cons l ls ih => rw [List.cons_append, laysS, laysS, ih]
theorem digB_71 {s : ByteArray} (h : digB s = true) : s.size = 71 := by
  unfold digB at h
  simp at h
  exact h.1.1
theorem laysS_size (acc : ByteArray) (ls : List ByteArray) (h : ∀ l ∈ ls, l.size ≤ 71) : (laysS acc ls).size ≤ acc.size + 78 * ls.length := by
  induction ls generalizing acc with
  | nil => simp [laysS]
  | cons l ls ih =>
    rw [laysS]
    have := ih (acc ++ (layH ++ l ++ nlB)) (fun x hx => h x (by simp [hx]))
    have h1 := h l (by simp)
    rw [ByteArray.size_append, ByteArray.size_append, ByteArray.size_append, show layH.size = 6 from rfl, show nlB.size = 1 from rfl] at this
    rw [List.length_cons]
    omega
theorem manB_lays {c : ByteArray} {ls : List ByteArray} (h : manB c ls = true) : digB c = true ∧ 1 ≤ ls.length ∧ ls.length ≤ 40 ∧ ∀ l ∈ ls, digB l = true := by
  unfold manB at h
  simp at h
  exact ⟨h.1.1, h.1.2.1, h.1.2.2, h.2⟩
theorem manB_mk {c : ByteArray} {ls : List ByteArray} (h1 : digB c = true) (h2 : 1 ≤ ls.length) (h3 : ls.length ≤ 40) (h4 : ∀ l ∈ ls, digB l = true) : manB c ls = true := by
  unfold manB
  simp
  exact ⟨⟨h1, h2, h3⟩, h4⟩
theorem manS_size (c : ByteArray) (ls : List ByteArray) : (manS c ls).size ≤ 4000 := by
  unfold manS
  split
  · next h =>
    obtain ⟨h1, h2, h3, h4⟩ := manB_lays h
    have := laysS_size (cfgH ++ c ++ nlB) ls (fun l hl => by have := digB_71 (h4 l hl); omega)
    rw [ByteArray.size_append, ByteArray.size_append, show cfgH.size = 7 from rfl, show nlB.size = 1 from rfl, digB_71 h1] at this
    omega
  · decide
theorem all_step {α : Type} (p : α → Bool) (l : List α) (k : Nat) (h : k < l.length) : (l.drop k).all p = (p l[k] && (l.drop (k + 1)).all p) := by
  rw [List.drop_eq_getElem_cons h, List.all_cons]
theorem all_end {α : Type} (p : α → Bool) (l : List α) (k : Nat) (h : l.length ≤ k) : (l.drop k).all p = true := by
  rw [List.drop_of_length_le h, List.all_nil]
theorem take_snoc {α : Type} (l : List α) (k : Nat) (h : k < l.length) : l.take (k + 1) = l.take k ++ [l[k]] := List.take_succ_eq_append_getElem h

/-- A line of its head and a digest. -/
def okL (h p : ByteArray) : Bool := decide (h.size ≤ p.size) && ((p.extract 0 h.size).toList == h.toList) && digB (p.extract h.size p.size)
def laysOk : List ByteArray → Bool
  | [] => false
  | [q] => emp q
  | q :: q' :: qs => okL layH q && laysOk (q' :: qs)
def laysOf : List ByteArray → List ByteArray
  | [] => []
  | [_] => []
  | q :: q' :: qs => q.extract 6 q.size :: laysOf (q' :: qs)
def rmV : List ByteArray → ByteArray × List ByteArray × Int
  | [] => (⟨#[]⟩, [], 1)
  | p :: qs => if okL cfgH p && laysOk qs then (if 1 ≤ (laysOf qs).length ∧ (laysOf qs).length ≤ 40 then (p.extract 7 p.size, laysOf qs, 0) else (⟨#[]⟩, [], 2)) else (⟨#[]⟩, [], 1)
theorem laysOk_cons (q : ByteArray) (qs : List ByteArray) (h : qs ≠ []) : laysOk (q :: qs) = (okL layH q && laysOk qs) := by
  cases qs with
  | nil => exact absurd rfl h
  | cons a b => rfl
theorem laysOf_cons (q : ByteArray) (qs : List ByteArray) (h : qs ≠ []) : laysOf (q :: qs) = q.extract 6 q.size :: laysOf qs := by
  cases qs with
  | nil => exact absurd rfl h
  | cons a b => rfl
theorem laysOf_dig (qs : List ByteArray) (h : laysOk qs = true) : ∀ l ∈ laysOf qs, digB l = true := by
  induction qs with
  | nil => simp [laysOf]
  | cons q qs ih =>
    by_cases hq : qs = []
    · subst hq; simp [laysOf]
    · rw [laysOk_cons q qs hq] at h
      rw [laysOf_cons q qs hq]
      simp at h
      intro l hl
      rcases List.mem_cons.1 hl with rfl | hl
      · have := h.1; unfold okL at this; simp at this; exact this.2
      · exact ih h.2 l hl
theorem laysOf_len (qs : List ByteArray) : (laysOf qs).length = qs.length - 1 := by
  induction qs with
  | nil => rfl
  | cons q qs ih =>
    by_cases hq : qs = []
    · subst hq; rfl
    · rw [laysOf_cons q qs hq, List.length_cons, ih, List.length_cons]
      have : 0 < qs.length := List.length_pos_iff.2 hq
      omega
theorem laysOk_last (qs : List ByteArray) (h : laysOk qs = true) : ∃ (hk : qs.length - 1 < qs.length), emp (qs[qs.length - 1]'hk) = true := by
  induction qs with
  | nil => simp [laysOk] at h
  | cons q qs ih =>
    by_cases hq : qs = []
    · subst hq; exact ⟨by simp, by simpa [laysOk] using h⟩
    · rw [laysOk_cons q qs hq] at h
      simp at h
      obtain ⟨hk, he⟩ := ih h.2
      have hp : 0 < qs.length := List.length_pos_iff.2 hq
      refine ⟨by simp, ?_⟩
      simp only [List.length_cons]
      have e : qs.length + 1 - 1 = (qs.length - 1) + 1 := by omega
      rw [show (q :: qs)[qs.length + 1 - 1]'(by simp) = qs[qs.length - 1] from by simp only [e, List.getElem_cons_succ]]
      exact he
/-- The text's first line and the rest, at the first newline. -/
theorem cutB_at (s : ByteArray) (j : Nat) (hj : fd 10 10 s.data.toList = j) (hlt : j < s.size) : cutB 10 s = s.extract 0 j :: cutB 10 (s.extract (j + 1) s.size) := by
  have hl : j < s.data.toList.length := by rw [len_data]; exact hlt
  have e : s.data.toList = s.data.toList.take j ++ s.data.toList[j] :: s.data.toList.drop (j + 1) := by
    have := mid_cons s.data.toList 0 j hl (Nat.zero_le _)
    simpa using this
  unfold cutB
  conv => lhs; rw [e]
  rw [splt_at 10 _ _ _ (by have := fd_at 10 10 s.data.toList (by rw [hj]; exact hl); simp only [hj] at this; omega) (fun x hx => by
    obtain ⟨i, hi, rfl⟩ := List.getElem_of_mem hx
    rw [List.length_take] at hi
    rw [List.getElem_take]
    have := fd_ahead 10 10 s.data.toList i (by omega) (by omega)
    omega), List.map_cons, ext_mid, ext_mid]
  simp only [List.drop_zero, Nat.sub_zero, toB_list]
  rw [List.take_of_length_le (show (s.data.toList.drop (j + 1)).length ≤ s.size - (j + 1) from by rw [List.length_drop, len_data]; omega)]
theorem cutB_end (s : ByteArray) (hj : s.size ≤ fd 10 10 s.data.toList) : cutB 10 s = [s] := by
  unfold cutB
  rw [splt_end 10 _ (fun x hx => by
    obtain ⟨i, hi, rfl⟩ := List.getElem_of_mem hx
    have := fd_ahead 10 10 s.data.toList i (by rw [len_data] at hi; omega) hi
    omega)]
  rfl
theorem cutB_ne (s : ByteArray) : cutB 10 s ≠ [] := by
  unfold cutB
  obtain ⟨h, t, e⟩ := splt_ne 10 s.data.toList
  rw [e]
  simp
theorem cutB_emp (s : ByteArray) (h : emp s = true) : cutB 10 s = [⟨#[]⟩] := by
  rw [emp_eq h]; rfl
end Plain
end Go.Proofs.YtmienlnhbdbefaaGreatDoor


/- Manifests: when one is right, and its text: both programs by their contracts. -/
namespace Go.Proofs.YtmienlnhbdbefaaGreatDoor
open Go.RowKit Plain
set_option linter.unusedVariables false

namespace Plain
theorem bel1 (w : World) (o : Obj) : Below w.heap.size w (w.alloc o) := (Below.refl _ _).alloc (Nat.le_refl _) _
theorem bcl {w w' : World} {B : Nat} (h : Below B w w') {g i : Nat} {v : Value} (hg : g < B) (hc : w.cell? ⟨g, i, none⟩ = some v) : w'.cell? ⟨g, i, none⟩ = some v := (h.cell (p := ⟨g, i, none⟩) hg).trans hc
theorem belOn {w W W' : World} (h0 : Below w.heap.size w W) (h1 : Below W.heap.size W W') : Below w.heap.size w W' := h0.trans (h1.mono h0.size)
end Plain









end Go.Proofs.YtmienlnhbdbefaaGreatDoor

/- What is left of a purse. -/
namespace Go.Proofs.YtmienlnhbdbefaaGreatDoor.Plain
open Go.RowKit
set_option linter.unusedVariables false
/-- What is left of a purse behind n. -/
def purse (left : Int) (n : Nat) : Int := if left < n then -1 else left - n
theorem purse_no {left : Int} {n : Nat} (h : left < n) : purse left n = -1 := if_pos h
theorem purse_yes {left : Int} {n : Nat} (h : ¬ left < n) : purse left n = left - n := if_neg h
theorem purse_step {r : Int} {a b : Nat} (h : ¬ r < (a : Int)) : purse r (a + b) = purse (r - a) b := by
  unfold purse
  by_cases h2 : r - a < (b : Int)
  · rw [if_pos h2, if_pos (by omega)]
  · rw [if_neg h2, if_neg (by omega)]; omega
theorem belQ {B : Nat} {w w' : World} (h : Below B w w') (k : Nat) : Below B w (w'.drewN k) := ⟨h.os, h.tape, h.output, h.size, h.block⟩
end Go.Proofs.YtmienlnhbdbefaaGreatDoor.Plain


/- Rows of numbers, as the exact laws copy, measure and compare them. -/
namespace Go.Proofs.YtmienlnhbdbefaaGreatDoor
open Go.RowKit Plain
set_option linter.unusedVariables false

namespace Plain
def intL (z : Int) : List Value := [.int .i64 z]
def goodI (z : Int) : Prop := (Lit.int .i64 z).wf = true
end Plain
theorem rdInt {H : Type} {enc : TypeId × Value → H} {W : World} {spare : Nat → Bool} {held : Bool} : ∀ m us y, DataW.trod enc Tryz.prog W 0 spare held m 2 us = some y → ∃ z, us = intL z ∧ goodI z := by
  intro m us y h
  obtain ⟨s0, e0, _, w0⟩ := DataW.trod_int Tryz.underlying2 h
  exact ⟨s0, by simpa [intL] using e0, w0⟩
/-- Numbers as elements. -/
def i64E : Elem Int where
  E := 2
  S := 25
  n := 1
  bytes := 8
  zero := .int .i64 0
  enc := intL
  hund := Tryz.underlying25
  hinfo := by kernel_rfl
  hz := rfl
  hn := by decide
  hb := by decide
  hlen := fun _ => rfl
  hone := fun x u hu => by simp [intL] at hu; subst hu; rfl
theorem Plain.ArgAt.ix {W : World} {a : Option Addr} {xs : List Int} (h : ArgAt 1 intL W a xs) (i : Nat) (hi : i < xs.length) : ∃ g o, a = some ⟨g, o, none⟩ ∧ g < W.heap.size ∧ W.cell? ⟨g, o + i, none⟩ = some (.int .i64 xs[i]) := by
  obtain ⟨g, o, e, hl, hc⟩ := h i hi
  have := hc 0 (by decide)
  rw [Nat.mul_one, Nat.add_zero] at this
  exact ⟨g, o, e, hl, this⟩
theorem RowAt.ix {W : World} {a : Option Addr} {xs : List Int} (h : RowAt i64E W a xs) (i : Nat) (hi : i < xs.length) : ∃ g, a = some ⟨g, 0, none⟩ ∧ g < W.heap.size ∧ W.cell? ⟨g, i, none⟩ = some (.int .i64 xs[i]) ∧ W.frozen? ⟨g, i, none⟩ = false := by
  obtain ⟨g, e1, hl, h1⟩ := h i hi
  have := h1 0 (by decide)
  rw [show i * i64E.n + 0 = i from Nat.mul_one i] at this
  exact ⟨g, e1, hl, this⟩





end Go.Proofs.YtmienlnhbdbefaaGreatDoor

/- How many bits of a word are set: the way by halves, quarters and bytes counts them; sets of small numbers as words. -/
namespace Go.Proofs.YtmienlnhbdbefaaGreatDoor.Plain
open Go
set_option linter.unusedVariables false

theorem and_cat (a b c d : Nat) (hb : b < 256) (hd : d < 256) : (256 * a + b) &&& (256 * c + d) = 256 * (a &&& c) + (b &&& d) := by
  have h : b &&& d < 256 := Nat.lt_of_le_of_lt Nat.and_le_left hb
  apply Nat.eq_of_testBit_eq
  intro i
  rw [Nat.testBit_and, show (256 : Nat) = 2 ^ 8 from rfl, Nat.testBit_two_pow_mul_add _ hb, Nat.testBit_two_pow_mul_add _ hd, Nat.testBit_two_pow_mul_add _ h]
  split <;> simp [Nat.testBit_and]

def repB (m : Nat) : Nat → Nat
  | 0 => 0
  | k + 1 => 256 * repB m k + m
def mapB (f : Nat → Nat) : Nat → Nat → Nat
  | 0, _ => 0
  | k + 1, x => 256 * mapB f k (x / 256) + f (x % 256)

theorem mapB_step (f : Nat → Nat) (k y b : Nat) (hb : b < 256) : mapB f (k + 1) (256 * y + b) = 256 * mapB f k y + f b := by
  rw [mapB, show (256 * y + b) / 256 = y from by omega, show (256 * y + b) % 256 = b from by omega]
theorem mapB_comp (f g : Nat → Nat) (hg : ∀ b, b < 256 → g b < 256) : ∀ k x, mapB f k (mapB g k x) = mapB (fun b => f (g b)) k x := by
  intro k
  induction k with
  | zero => intro x; rfl
  | succ k ih =>
    intro x
    show mapB f (k + 1) (256 * mapB g k (x / 256) + g (x % 256)) = _
    rw [mapB_step _ _ _ _ (hg _ (Nat.mod_lt _ (by decide))), ih, mapB]
theorem mapB_congr (f g : Nat → Nat) (h : ∀ b, b < 256 → f b = g b) : ∀ k x, mapB f k x = mapB g k x := by
  intro k
  induction k with
  | zero => intro x; rfl
  | succ k ih => intro x; rw [mapB, mapB, ih, h _ (Nat.mod_lt _ (by decide))]

def s1 (b : Nat) : Nat := (b / 2 &&& 85) + (b &&& 85)
def s2 (b : Nat) : Nat := (b / 4 &&& 51) + (b &&& 51)
def s3 (b : Nat) : Nat := b / 16 + b % 16
theorem s1_loc : ∀ b : Fin 256, ∀ t : Fin 2, (128 * t.val + b.val / 2) &&& 85 = b.val / 2 &&& 85 := by decide +kernel
theorem s2_loc : ∀ b : Fin 256, ∀ t : Fin 4, (64 * t.val + b.val / 4) &&& 51 = b.val / 4 &&& 51 := by decide +kernel
theorem s1_lt : ∀ b : Fin 256, s1 b.val < 256 := by decide +kernel
theorem s2_lt : ∀ b : Fin 256, s2 (s1 b.val) < 256 ∧ s2 (s1 b.val) % 16 ≤ 4 ∧ s2 (s1 b.val) / 16 ≤ 4 := by decide +kernel

theorem step1 : ∀ k x, ((x / 2) &&& repB 85 k) + (x &&& repB 85 k) = mapB s1 k x := by
  intro k
  induction k with
  | zero => intro x; simp [repB, mapB]
  | succ k ih =>
    intro x
    obtain ⟨y, b, hb, rfl⟩ : ∃ y b, b < 256 ∧ x = 256 * y + b := ⟨x / 256, x % 256, Nat.mod_lt _ (by decide), by omega⟩
    have e : (256 * y + b) / 2 = 256 * (y / 2) + (128 * (y % 2) + b / 2) := by omega
    have l := s1_loc ⟨b, hb⟩ ⟨y % 2, Nat.mod_lt _ (by decide)⟩
    simp only at l
    rw [e, repB, and_cat _ _ _ _ (by omega) (by decide), and_cat _ _ _ _ hb (by decide), mapB_step _ _ _ _ hb, ← ih, l]
    show _ = _ + s1 b
    unfold s1
    omega
theorem step2 : ∀ k x, ((x / 4) &&& repB 51 k) + (x &&& repB 51 k) = mapB s2 k x := by
  intro k
  induction k with
  | zero => intro x; simp [repB, mapB]
  | succ k ih =>
    intro x
    obtain ⟨y, b, hb, rfl⟩ : ∃ y b, b < 256 ∧ x = 256 * y + b := ⟨x / 256, x % 256, Nat.mod_lt _ (by decide), by omega⟩
    have e : (256 * y + b) / 4 = 256 * (y / 4) + (64 * (y % 4) + b / 4) := by omega
    have l := s2_loc ⟨b, hb⟩ ⟨y % 4, Nat.mod_lt _ (by decide)⟩
    simp only at l
    rw [e, repB, and_cat _ _ _ _ (by omega) (by decide), and_cat _ _ _ _ hb (by decide), mapB_step _ _ _ _ hb, ← ih, l]
    show _ = _ + s2 b
    unfold s2
    omega
theorem and15n (x : Nat) : x &&& 15 = x % 16 := Nat.and_two_pow_sub_one_eq_mod x 4
theorem step3 (g : Nat → Nat) (hg : ∀ b, b < 256 → g b < 256 ∧ g b % 16 ≤ 4 ∧ g b / 16 ≤ 4) : ∀ k z, ((mapB g k z / 16 + mapB g k z) &&& repB 15 k) = mapB s3 k (mapB g k z) := by
  intro k
  induction k with
  | zero => intro z; simp [repB, mapB]
  | succ k ih =>
    intro z
    rw [mapB]
    obtain ⟨h1, h2, h3⟩ := hg (z % 256) (Nat.mod_lt _ (by decide))
    have hy : mapB g k (z / 256) % 16 ≤ 4 := by
      cases k with
      | zero => simp [mapB]
      | succ k =>
        rw [mapB]
        have := (hg (z / 256 % 256) (Nat.mod_lt _ (by decide))).2.1
        omega
    have hi := ih (z / 256)
    generalize mapB g k (z / 256) = y at hy hi
    generalize g (z % 256) = b at h1 h2 h3
    have e : (256 * y + b) / 16 + (256 * y + b) = 256 * (y / 16 + y) + (16 * (y % 16) + b / 16 + b) := by omega
    rw [e, repB, and_cat _ _ _ _ (by omega) (by decide), hi, mapB_step _ _ _ _ h1, and15n]
    unfold s3
    omega

/-- How many of the lowest n bits are set. -/
def popN : Nat → Nat → Nat
  | 0, _ => 0
  | n + 1, x => x % 2 + popN n (x / 2)
theorem pop8_is : ∀ b : Fin 256, s3 (s2 (s1 b.val)) = popN 8 b.val := by decide +kernel
theorem pop8_le : ∀ b : Fin 256, popN 8 b.val ≤ 8 := by decide +kernel
theorem popN_add (n : Nat) : ∀ m x, popN (m + n) x = popN m x + popN n (x / 2 ^ m) := by
  intro m
  induction m with
  | zero => intro x; simp [popN]
  | succ m ih =>
    intro x
    rw [show m + 1 + n = (m + n) + 1 from by omega, popN, ih, popN, Nat.div_div_eq_div_mul, Nat.pow_succ, Nat.mul_comm 2 (2 ^ m)]
    omega
theorem popN_mod (m : Nat) : ∀ x, popN m (x % 2 ^ m) = popN m x := by
  induction m with
  | zero => intro x; rfl
  | succ m ih =>
    intro x
    have e1 : x % 2 ^ (m + 1) % 2 = x % 2 := Nat.mod_mod_of_dvd _ ⟨2 ^ m, by rw [Nat.pow_succ]; omega⟩
    have e2 : x % 2 ^ (m + 1) / 2 = x / 2 % 2 ^ m := by
      rw [Nat.pow_succ, Nat.mul_comm (2 ^ m) 2, Nat.mod_mul_right_div_self]
    rw [popN, popN, e1, e2, ih]
theorem popN_byte (n x : Nat) : popN (8 + n) x = popN 8 (x % 256) + popN n (x / 256) := by
  rw [popN_add, ← popN_mod 8 x]
theorem pop64 (x : Nat) : ∃ p0 p1 p2 p3 p4 p5 p6 p7 : Nat, p0 ≤ 8 ∧ p1 ≤ 8 ∧ p2 ≤ 8 ∧ p3 ≤ 8 ∧ p4 ≤ 8 ∧ p5 ≤ 8 ∧ p6 ≤ 8 ∧ p7 ≤ 8 ∧
    mapB (popN 8) 8 x = p0 + 256 * p1 + 65536 * p2 + 16777216 * p3 + 4294967296 * p4 + 1099511627776 * p5 + 281474976710656 * p6 + 72057594037927936 * p7 ∧ popN 64 x = p0 + p1 + p2 + p3 + p4 + p5 + p6 + p7 := by
  have hb : ∀ z, popN 8 (z % 256) ≤ 8 := fun z => pop8_le ⟨z % 256, Nat.mod_lt _ (by decide)⟩
  refine ⟨_, _, _, _, _, _, _, _, hb x, hb (x / 256), hb (x / 256 / 256), hb (x / 256 / 256 / 256), hb (x / 256 / 256 / 256 / 256), hb (x / 256 / 256 / 256 / 256 / 256), hb (x / 256 / 256 / 256 / 256 / 256 / 256), hb (x / 256 / 256 / 256 / 256 / 256 / 256 / 256), ?_, ?_⟩
  · simp only [mapB]
    omega
  · rw [show (64 : Nat) = 8 + (8 + (8 + (8 + (8 + (8 + (8 + (8 + 0))))))) from rfl]
    simp only [popN_byte]
    simp only [popN]
    omega

/-- The way of bits.OnesCount64. -/
theorem swar (x : Nat) : mapB s3 8 (mapB s2 8 (mapB s1 8 x)) = mapB (popN 8) 8 x := by
  rw [mapB_comp s2 s1 (fun b hb => s1_lt ⟨b, hb⟩), mapB_comp s3 _ (fun b hb => (s2_lt ⟨b, hb⟩).1)]
  exact mapB_congr _ _ (fun b hb => pop8_is ⟨b, hb⟩) 8 x
theorem swar1 (x : Nat) : ((x / 2) &&& 6148914691236517205) + (x &&& 6148914691236517205) = mapB s1 8 x := step1 8 x
theorem swar2 (x : Nat) : ((mapB s1 8 x / 4) &&& 3689348814741910323) + (mapB s1 8 x &&& 3689348814741910323) = mapB s2 8 (mapB s1 8 x) := step2 8 _
theorem swar3 (x : Nat) : ((mapB s2 8 (mapB s1 8 x) / 16 + mapB s2 8 (mapB s1 8 x)) &&& 1085102592571150095) = mapB (popN 8) 8 x := by
  rw [← swar, mapB_comp s2 s1 (fun b hb => s1_lt ⟨b, hb⟩)]
  exact step3 _ (fun b hb => s2_lt ⟨b, hb⟩) 8 x
theorem mapB_lt (f : Nat → Nat) (hf : ∀ b, b < 256 → f b < 256) : ∀ k x, mapB f k x < 256 ^ k := by
  intro k
  induction k with
  | zero => intro x; simp [mapB]
  | succ k ih =>
    intro x
    have := ih (x / 256)
    have := hf (x % 256) (Nat.mod_lt _ (by decide))
    rw [mapB, Nat.pow_succ]
    omega

/-! ### Sets as words -/
def pc (p : Nat → Bool) : Nat → Nat
  | 0 => 0
  | n + 1 => pc p n + (p n).toNat
theorem pc_front (p : Nat → Bool) : ∀ n, pc p (n + 1) = (p 0).toNat + pc (fun i => p (i + 1)) n := by
  intro n
  induction n with
  | zero => simp [pc]
  | succ n ih => rw [pc, ih, pc]; omega
theorem popN_pc : ∀ n x, popN n x = pc (fun i => x.testBit i) n := by
  intro n
  induction n with
  | zero => intro x; rfl
  | succ n ih =>
    intro x
    rw [popN, ih, pc_front]
    have e : (x.testBit 0).toNat = x % 2 := by rw [Nat.testBit_zero]; rcases Nat.mod_two_eq_zero_or_one x with h | h <;> simp [h]
    rw [e]
    congr 2
    funext i
    rw [Nat.testBit_succ]
theorem pc_congr (p q : Nat → Bool) : ∀ n, (∀ i, i < n → p i = q i) → pc p n = pc q n := by
  intro n
  induction n with
  | zero => intro _; rfl
  | succ n ih => intro h; rw [pc, pc, ih (fun i hi => h i (by omega)), h n (by omega)]
theorem pc_or (p q : Nat → Bool) : ∀ n, pc (fun i => p i || q i) n + pc (fun i => p i && q i) n = pc p n + pc q n := by
  intro n
  induction n with
  | zero => rfl
  | succ n ih =>
    simp only [pc]
    cases p n <;> cases q n <;> simp <;> omega
theorem pc_false (p : Nat → Bool) : ∀ n, (∀ i, i < n → p i = false) → pc p n = 0 := by
  intro n
  induction n with
  | zero => intro _; rfl
  | succ n ih => intro h; rw [pc, ih (fun i hi => h i (by omega)), h n (by omega)]; rfl
theorem pc_one (a : Int) (q : Nat → Bool) : ∀ n : Nat, 0 ≤ a → a < n → pc (fun i => decide ((i : Int) = a) && q i) n = (q a.toNat).toNat := by
  intro n
  induction n with
  | zero => intro h0 h1; omega
  | succ n ih =>
    intro h0 h1
    rw [pc]
    by_cases h : (n : Int) = a
    · rw [pc_false _ n (fun i hi => by simp; omega)]
      have : a.toNat = n := by omega
      simp [h, this]
    · rw [ih h0 (by omega)]
      simp [h]
/-- Of a list without two alike, of small numbers: as many bits as it has numbers with a property. -/
theorem pc_list (q : Int → Bool) (n : Nat) : ∀ l : List Int, l.Nodup → (∀ a ∈ l, 0 ≤ a ∧ a < n) → pc (fun i => decide ((i : Int) ∈ l) && q (i : Int)) n = (l.filter q).length := by
  intro l
  induction l with
  | nil => intro _ _; simpa using pc_false _ n (fun i hi => by simp)
  | cons a l ih =>
    intro hn ha
    obtain ⟨h0, h1⟩ := ha a (by simp)
    rw [List.nodup_cons] at hn
    have e := pc_or (fun i => decide ((i : Int) = a) && q (i : Int)) (fun i => decide ((i : Int) ∈ l) && q (i : Int)) n
    rw [pc_false (fun i => (decide ((i : Int) = a) && q (i : Int)) && (decide ((i : Int) ∈ l) && q (i : Int))) n (fun i hi => by
      by_cases hia : (i : Int) = a
      · simp [hia, hn.1]
      · simp [hia])] at e
    rw [pc_one a (fun i => q (i : Int)) n h0 h1, ih hn.2 (fun b hb => ha b (by simp [hb]))] at e
    rw [show (fun i : Nat => decide ((i : Int) ∈ a :: l) && q (i : Int)) = fun i : Nat => (decide ((i : Int) = a) && q (i : Int)) || (decide ((i : Int) ∈ l) && q (i : Int)) from by
      funext i
      cases q (i : Int) <;> simp]
    rw [Int.toNat_of_nonneg h0] at e
    rw [List.filter_cons]
    cases hq : q a <;> simp [hq] at e ⊢ <;> omega
end Go.Proofs.YtmienlnhbdbefaaGreatDoor.Plain


/- How many bits are set, by the program. -/
namespace Go.Proofs.YtmienlnhbdbefaaGreatDoor
open Go.RowKit Plain
set_option linter.unusedVariables false

namespace Plain
theorem popN_le (n : Nat) : ∀ x, popN n x ≤ n := by
  induction n with
  | zero => intro x; exact Nat.le_refl _
  | succ n ih => intro x; have := ih (x / 2); rw [popN]; omega
theorem and127 (n : Int) (h0 : 0 ≤ n) (h1 : n < 18446744073709551616) : bits .and .i64 (IntKind.i64.wrap n) 127 = n % 128 := by
  unfold bits
  have e : (BitVec.ofInt 64 (IntKind.i64.wrap n) &&& BitVec.ofInt 64 127).toNat = (n % 128).toNat := by
    rw [BitVec.toNat_and, BitVec.toNat_ofInt]
    rw [show (BitVec.ofInt 64 127).toNat = 127 from rfl, Nat.and_two_pow_sub_one_eq_mod _ 7, IntKind.wrap_i64]
    omega
  show IntKind.wrap .i64 ((BitVec.ofInt 64 (IntKind.i64.wrap n) &&& BitVec.ofInt 64 127).toNat : Int) = _
  rw [e, IntKind.wrap_i64]
  omega
end Plain

namespace Plain
theorem fold1 (p0 A y3 y4 : Nat) (h0 : p0 ≤ 8) (h3 : p0 + 256 * A = y3) (h4 : y3 + y3 / 256 = y4) : y4 = p0 + 257 * A := by omega
theorem fold2 (l B y4 y5 : Nat) (hl : l < 65536) (h4 : y4 = l + 65536 * B) (h5 : y4 + y4 / 65536 = y5) : y5 = l + 65537 * B := by omega
theorem fold3 (l C y5 y6 : Nat) (hl : l < 4294967296) (h5 : y5 = l + 4294967296 * C) (h6 : y5 + y5 / 4294967296 = y6) : y6 = l + 4294967297 * C := by omega
theorem fold_way (p0 p1 p2 p3 p4 p5 p6 p7 y3 y4 y5 y6 : Nat) (k0 : p0 ≤ 8) (k1 : p1 ≤ 8) (k2 : p2 ≤ 8) (k3 : p3 ≤ 8) (k4 : p4 ≤ 8) (k5 : p5 ≤ 8) (k6 : p6 ≤ 8) (k7 : p7 ≤ 8)
    (h3 : p0 + 256 * p1 + 65536 * p2 + 16777216 * p3 + 4294967296 * p4 + 1099511627776 * p5 + 281474976710656 * p6 + 72057594037927936 * p7 = y3) (h4 : y3 + y3 / 256 = y4) (h5 : y4 + y4 / 65536 = y5) (h6 : y5 + y5 / 4294967296 = y6) :
    y6 % 128 = p0 + p1 + p2 + p3 + p4 + p5 + p6 + p7 ∧ y6 < 18446744073709551616 := by
  obtain ⟨A7, a7⟩ : ∃ A, A = p7 := ⟨_, rfl⟩
  obtain ⟨A6, a6⟩ : ∃ A, A = p6 + 256 * A7 := ⟨_, rfl⟩
  obtain ⟨A5, a5⟩ : ∃ A, A = p5 + 256 * A6 := ⟨_, rfl⟩
  obtain ⟨A4, a4⟩ : ∃ A, A = p4 + 256 * A5 := ⟨_, rfl⟩
  obtain ⟨A3, a3⟩ : ∃ A, A = p3 + 256 * A4 := ⟨_, rfl⟩
  obtain ⟨A2, a2⟩ : ∃ A, A = p2 + 256 * A3 := ⟨_, rfl⟩
  obtain ⟨A1, a1⟩ : ∃ A, A = p1 + 256 * A2 := ⟨_, rfl⟩
  have f1 := fold1 p0 A1 y3 y4 k0 (by rw [← h3, a1, a2, a3, a4, a5, a6, a7]; simp only [Nat.mul_add, ← Nat.mul_assoc, ← Nat.add_assoc]) h4
  have f2 := fold2 ((p0 + p1) + 256 * (p1 + p2)) (A2 + A3) y4 y5 (by clear h3 h4 h5 h6 f1 a1 a2 a3 a4 a5 a6 a7; omega) (by rw [f1, a1, a2]; clear h3 h4 h5 h6 f1 a1 a2 a3 a4 a5 a6 a7; omega) h5
  obtain ⟨C, hC⟩ : ∃ C, C = (A4 + A5) + (A6 + A7) := ⟨_, rfl⟩
  have c1 : C = (p4 + p5 + p6 + p7) + 256 * (A5 + A6 + A7) := by rw [hC, a4, a5, a6, a7]; clear h3 h4 h5 h6 f1 f2 a1 a2 a3 a4 a5 a6 a7 hC; omega
  have f3 := fold3 (((p0 + p1) + (p2 + p3)) + 256 * ((p1 + p2) + (p3 + p4)) + 65536 * (p2 + p3 + (p4 + p5)) + 16777216 * (p3 + p4 + (p5 + p6))) C y5 y6 (by clear h3 h4 h5 h6 f1 f2 a1 a2 a3 a4 a5 a6 a7 hC c1; omega)
    (by
      rw [f2, hC, a2, a3, a4, a5, a6]
      clear h3 h4 h5 h6 f1 f2 a1 a2 a3 a4 a5 a6 a7 hC c1
      omega) h6
  have cb : C ≤ 1000000000 := by rw [hC, a4, a5, a6, a7]; clear h3 h4 h5 h6 f1 f2 f3 a1 a2 a3 a4 a5 a6 a7 hC c1; omega
  clear h3 h4 h5 h6 f1 f2 a1 a2 a3 a4 a5 a6 a7 hC
  generalize A5 + A6 + A7 = X at c1
  constructor
  · rw [f3, c1]
    clear f3 c1 cb
    omega
  · rw [f3]
    clear f3 c1
    omega
/-- The seven numbers that bits.OnesCount64 goes through. -/
theorem ones_way (x : Nat) (hx : x < 18446744073709551616) : ∃ y1 y2 y3 y4 y5 y6 : Nat,
    IntKind.u64.wrap (bits .and .u64 ((x : Int) / 2) 6148914691236517205 + bits .and .u64 (x : Int) 6148914691236517205) = (y1 : Int) ∧
    IntKind.u64.wrap (bits .and .u64 ((y1 : Int) / 4) 3689348814741910323 + bits .and .u64 (y1 : Int) 3689348814741910323) = (y2 : Int) ∧
    bits .and .u64 (IntKind.u64.wrap ((y2 : Int) / 16 + (y2 : Int))) 1085102592571150095 = (y3 : Int) ∧
    IntKind.u64.wrap ((y3 : Int) + (y3 : Int) / 256) = (y4 : Int) ∧ IntKind.u64.wrap ((y4 : Int) + (y4 : Int) / 65536) = (y5 : Int) ∧ IntKind.u64.wrap ((y5 : Int) + (y5 : Int) / 4294967296) = (y6 : Int) ∧
    bits .and .i64 (wrap64 (y6 : Int)) 127 = (popN 64 x : Int) := by
  have b1 : mapB s1 8 x < 18446744073709551616 := mapB_lt s1 (fun b hb => s1_lt ⟨b, hb⟩) 8 x
  have b2 : mapB s2 8 (mapB s1 8 x) < 18446744073709551616 := by
    rw [mapB_comp s2 s1 (fun b hb => s1_lt ⟨b, hb⟩)]
    exact mapB_lt _ (fun b hb => (s2_lt ⟨b, hb⟩).1) 8 x
  have g3 : mapB s2 8 (mapB s1 8 x) / 16 + mapB s2 8 (mapB s1 8 x) < 18446744073709551616 := by
    have hs : mapB s2 8 (mapB s1 8 x) / 72057594037927936 < 69 := by
      rw [mapB_comp s2 s1 (fun b hb => s1_lt ⟨b, hb⟩)]
      have h8 : ∀ z, (fun b => s2 (s1 b)) (z % 256) < 69 := fun z => by
        have h9 : s2 (s1 (z % 256)) < 256 ∧ s2 (s1 (z % 256)) % 16 ≤ 4 ∧ s2 (s1 (z % 256)) / 16 ≤ 4 := s2_lt ⟨z % 256, Nat.mod_lt _ (by decide)⟩
        show s2 (s1 (z % 256)) < 69
        omega
      have h256 : ∀ z, (fun b => s2 (s1 b)) (z % 256) < 256 := fun z => by have := h8 z; omega
      simp only [mapB] at *
      have q0 := h256 x; have q1 := h256 (x / 256); have q2 := h256 (x / 256 / 256); have q3 := h256 (x / 256 / 256 / 256); have q4 := h256 (x / 256 / 256 / 256 / 256); have q5 := h256 (x / 256 / 256 / 256 / 256 / 256); have q6 := h256 (x / 256 / 256 / 256 / 256 / 256 / 256); have q7 := h8 (x / 256 / 256 / 256 / 256 / 256 / 256 / 256)
      omega
    omega
  have e1 := swar1 x
  have e2 := swar2 x
  have e3 := swar3 x
  obtain ⟨p0, p1, p2, p3, p4, p5, p6, p7, k0, k1, k2, k3, k4, k5, k6, k7, hp, hs⟩ := pop64 x
  rw [hp] at e3
  generalize mapB s1 8 x = y1 at e1 e2 e3 b1 b2 g3
  generalize mapB s2 8 y1 = y2 at e2 e3 b2 g3
  obtain ⟨y3, hy3⟩ : ∃ y3, p0 + 256 * p1 + 65536 * p2 + 16777216 * p3 + 4294967296 * p4 + 1099511627776 * p5 + 281474976710656 * p6 + 72057594037927936 * p7 = y3 := ⟨_, rfl⟩
  obtain ⟨y4, hy4⟩ : ∃ y4, y3 + y3 / 256 = y4 := ⟨_, rfl⟩
  obtain ⟨y5, hy5⟩ : ∃ y5, y4 + y4 / 65536 = y5 := ⟨_, rfl⟩
  obtain ⟨y6, hy6⟩ : ∃ y6, y5 + y5 / 4294967296 = y6 := ⟨_, rfl⟩
  rw [hy3] at e3
  obtain ⟨d6, hq⟩ := fold_way p0 p1 p2 p3 p4 p5 p6 p7 y3 y4 y5 y6 k0 k1 k2 k3 k4 k5 k6 k7 hy3 hy4 hy5 hy6
  have hq3 : y3 < 18446744073709551616 ∧ y4 < 18446744073709551616 ∧ y5 < 18446744073709551616 := by clear hy3 hp hs d6 e1 e2 e3 b1 b2 g3; omega
  clear hy3 hp k0 k1 k2 k3 k4 k5 k6 k7
  refine ⟨y1, y2, y3, y4, y5, y6, ?_, ?_, ?_, ?_, ?_, ?_, ?_⟩
  · rw [show ((x : Int) / 2) = ((x / 2 : Nat) : Int) from by omega, show (6148914691236517205 : Int) = ((6148914691236517205 : Nat) : Int) from rfl, u64_and_nat _ _ (by omega) (by decide), u64_and_nat _ _ hx (by decide), IntKind.wrap_u64]
    omega
  · rw [show ((y1 : Int) / 4) = ((y1 / 4 : Nat) : Int) from by omega, show (3689348814741910323 : Int) = ((3689348814741910323 : Nat) : Int) from rfl, u64_and_nat _ _ (by omega) (by decide), u64_and_nat _ _ b1 (by decide), IntKind.wrap_u64]
    omega
  · rw [IntKind.wrap_u64, show ((y2 : Int) / 16 + (y2 : Int)) % 18446744073709551616 = ((y2 / 16 + y2 : Nat) : Int) from by omega, show (1085102592571150095 : Int) = ((1085102592571150095 : Nat) : Int) from rfl, u64_and_nat _ _ g3 (by decide)]
    omega
  · rw [IntKind.wrap_u64]; omega
  · rw [IntKind.wrap_u64]; omega
  · rw [IntKind.wrap_u64]; omega
  · rw [show wrap64 (y6 : Int) = IntKind.i64.wrap (y6 : Int) from by unfold wrap64; rw [IntKind.wrap_i64], and127 _ (by omega) (by omega), hs]
    omega
end Plain







set_option maxRecDepth 10000 in
theorem only_calls (n : Nat) (w : World) (hn : n ≤ 63) :
    Calls Tryz.prog 31 #[.int .i64 n] w fun e w' => e = .returned (.int .u64 ((2 ^ n : Nat) : Int)) ∧ w = w' := by
  have h1 : (0 : Int) ≤ (n : Int) := by omega
  have hp : 2 ^ n ≤ 9223372036854775808 := Nat.pow_le_pow_right (by decide) hn
  have h3 : (2 : Int) ^ n = ((2 ^ n : Nat) : Int) := by rw [Int.natCast_pow]; rfl
  generalize 2 ^ n = P at hp h3
  have h2 : (P : Int) % 18446744073709551616 = (P : Int) := by omega
  go_enter Tryz.func31, Tryz.ntmps31
  go_wp2_with fail
  go_ret
  exact ⟨rfl, rfl⟩
end Go.Proofs.YtmienlnhbdbefaaGreatDoor


/- Members as plain mathematics: rising lists of nodes, sets as words, quorums. -/
namespace Go.Proofs.YtmienlnhbdbefaaGreatDoor.Plain
open Go
set_option linter.unusedVariables false

/-- Rising behind p, each at most 50. -/
def okIds : Int → List Int → Bool
  | _, [] => true
  | p, a :: l => (decide (p < a) && decide (a ≤ 50)) && okIds a l
def prevZ (l : List Int) : Nat → Int
  | 0 => 0
  | k + 1 => (l[k]?).getD 0
theorem okIds_step (l : List Int) (k : Nat) (h : k < l.length) : okIds (prevZ l k) (l.drop k) = ((decide (prevZ l k < l[k]) && decide (l[k] ≤ 50)) && okIds (prevZ l (k + 1)) (l.drop (k + 1))) := by
  rw [List.drop_eq_getElem_cons h, okIds]
  congr 2
  rw [prevZ, List.getElem?_eq_getElem h]
  rfl
/-- The nodes of a list as the bits of a word. -/
def setF : List Int → Nat → Nat
  | [], s => s
  | a :: l, s => setF l (if 1 ≤ a ∧ a ≤ 50 then s ||| 2 ^ a.toNat else s)
def setN (l : List Int) : Nat := setF l 0
theorem setF_append (l m : List Int) : ∀ s, setF (l ++ m) s = setF m (setF l s) := by
  induction l with
  | nil => intro s; rfl
  | cons a l ih => intro s; rw [List.cons_append, setF, ih, setF]
theorem setN_take (l : List Int) (k : Nat) (h : k < l.length) : setN (l.take (k + 1)) = if 1 ≤ l[k] ∧ l[k] ≤ 50 then setN (l.take k) ||| 2 ^ l[k].toNat else setN (l.take k) := by
  unfold setN
  rw [List.take_succ_eq_append_getElem h, setF_append]
  rfl
theorem setF_bit (l : List Int) : ∀ s i, (setF l s).testBit i = (s.testBit i || (decide (1 ≤ i) && decide (i ≤ 50) && decide ((i : Int) ∈ l))) := by
  induction l with
  | nil => intro s i; simp [setF]
  | cons a l ih =>
    intro s i
    rw [setF, ih]
    by_cases ha : 1 ≤ a ∧ a ≤ 50
    · rw [if_pos ha, Nat.testBit_or, Nat.testBit_two_pow]
      by_cases hia : (i : Int) = a
      · have : a.toNat = i := by omega
        have h1 : 1 ≤ i := by omega
        have h2 : i ≤ 50 := by omega
        simp [this, hia, h1, h2]
      · have : ¬ a.toNat = i := by omega
        simp [this, hia]
    · rw [if_neg ha]
      by_cases hia : (i : Int) = a
      · have h3 : (decide (1 ≤ i) && decide (i ≤ 50)) = false := by
          rw [Bool.eq_false_iff]; intro h; simp at h; omega
        rw [h3]
        simp
      · simp [hia]
theorem setN_bit (l : List Int) (i : Nat) : (setN l).testBit i = (decide (1 ≤ i) && decide (i ≤ 50) && decide ((i : Int) ∈ l)) := by
  unfold setN
  rw [setF_bit]
  simp
theorem setN_lt (l : List Int) : setN l < 2251799813685248 := by
  have h : setN l < 2 ^ 51 := Nat.lt_pow_two_of_testBit _ fun i hi => by
    rw [setN_bit]
    have : decide (i ≤ 50) = false := decide_eq_false (by omega)
    rw [this]
    simp
  exact h

theorem okIds_facts : ∀ (l : List Int) (p : Int), 0 ≤ p → okIds p l = true → l.Nodup ∧ ∀ a ∈ l, p < a ∧ a ≤ 50 := by
  intro l
  induction l with
  | nil => intro p _ _; exact ⟨List.nodup_nil, fun a ha => by simp at ha⟩
  | cons b l ih =>
    intro p hp h
    rw [okIds, Bool.and_eq_true, Bool.and_eq_true, decide_eq_true_iff, decide_eq_true_iff] at h
    obtain ⟨⟨h1, h2⟩, h3⟩ := h
    obtain ⟨hn, ha⟩ := ih b (by omega) h3
    refine ⟨?_, ?_⟩
    · rw [List.nodup_cons]
      exact ⟨fun hm => by have := ha b hm; omega, hn⟩
    · intro a hm
      rcases List.mem_cons.1 hm with rfl | hm
      · exact ⟨h1, h2⟩
      · have := ha a hm; omega

/-- The greatest of a set is p. -/
def TopIs (s : Nat) (p : Int) : Prop := s < 2 ^ (p.toNat + 1) ∧ ((s = 0 ∧ p = 0) ∨ (2 ^ p.toNat ≤ s ∧ 1 ≤ p)) ∧ p ≤ 50
theorem topIs_zero : TopIs 0 0 := ⟨by decide, .inl ⟨rfl, rfl⟩, by decide⟩
theorem topIs_no {s : Nat} {p a : Int} (h : TopIs s p) (h1 : 1 ≤ a) (h2 : a ≤ p) : 2 ^ a.toNat ≤ s := by
  obtain ⟨_, h3, _⟩ := h
  rcases h3 with ⟨_, h3⟩ | ⟨h3, _⟩
  · omega
  · exact Nat.le_trans (Nat.pow_le_pow_right (by decide) (by omega)) h3
theorem topIs_lt {s : Nat} {p a : Int} (h : TopIs s p) (h2 : p < a) : s < 2 ^ a.toNat := by
  obtain ⟨h1, h3, _⟩ := h
  have h0 : 0 ≤ p := by rcases h3 with ⟨_, h3⟩ | ⟨_, h3⟩ <;> omega
  exact Nat.lt_of_lt_of_le h1 (Nat.pow_le_pow_right (by decide) (by omega))
theorem topIs_next {s : Nat} {p a : Int} (h : TopIs s p) (h1 : 1 ≤ a) (h2 : p < a) (h3 : a ≤ 50) : TopIs (s ||| 2 ^ a.toNat) a := by
  have hl := topIs_lt h h2
  refine ⟨?_, .inr ⟨?_, h1⟩, h3⟩
  · exact Nat.or_lt_two_pow (Nat.lt_of_lt_of_le hl (Nat.pow_le_pow_right (by decide) (by omega))) (Nat.pow_lt_pow_right (by decide) (by omega))
  · exact Nat.right_le_or

/-- Which members are right. -/
def disjB (v l : List Int) : Bool := l.all fun x => !decide (x ∈ v)
def confB (v l : List Int) : Bool := (okIds 0 v && okIds 0 l) && ((decide (1 ≤ v.length) && disjB v l) && (decide (v.length ≤ 7) && decide (l.length ≤ 7)))
theorem pop_and (v ids : List Int) (h : okIds 0 v = true) : popN 64 (setN v &&& setN ids) = (v.filter fun x => decide (x ∈ ids)).length := by
  obtain ⟨hn, ha⟩ := okIds_facts v 0 (by decide) h
  rw [popN_pc, ← pc_list (fun x => decide (x ∈ ids)) 64 v hn (fun a hm => by have := ha a hm; omega)]
  apply pc_congr
  intro i hi
  rw [Nat.testBit_and, setN_bit, setN_bit]
  by_cases hm : (i : Int) ∈ v
  · have := ha _ hm
    have h1 : 1 ≤ i := by omega
    have h2 : i ≤ 50 := by omega
    simp [h1, h2, hm]
  · simp [hm]
theorem pop_set (v : List Int) (h : okIds 0 v = true) : popN 64 (setN v) = v.length := by
  have := pop_and v v h
  rw [Nat.and_self] at this
  rw [this, List.filter_eq_self.2 (fun a ha => by simpa using ha)]
theorem set_zero (v : List Int) (h : okIds 0 v = true) : setN v = 0 ↔ v.length = 0 := by
  constructor
  · intro e
    have := pop_set v h
    rw [e] at this
    rw [← this]
    decide
  · intro e
    rw [List.length_eq_zero_iff.1 e]
    rfl
theorem set_disj (v l : List Int) (h : okIds 0 v = true) (hl : okIds 0 l = true) : setN v &&& setN l = 0 ↔ disjB v l = true := by
  obtain ⟨_, ha⟩ := okIds_facts v 0 (by decide) h
  constructor
  · intro e
    rw [disjB, List.all_eq_true]
    intro x hx
    rw [Bool.not_eq_true']
    apply decide_eq_false
    intro hv
    have hb := ha x hv
    obtain ⟨i, rfl⟩ := Int.eq_ofNat_of_zero_le (show 0 ≤ x by omega)
    have h1 : 1 ≤ i := by omega
    have h2 : i ≤ 50 := by omega
    have hbit : (setN v &&& setN l).testBit i = true := by
      rw [Nat.testBit_and, setN_bit, setN_bit]
      simp [h1, h2, hv, hx]
    rw [e] at hbit
    simp at hbit
  · intro e
    rw [disjB, List.all_eq_true] at e
    apply Nat.eq_of_testBit_eq
    intro i
    rw [Nat.testBit_and, setN_bit, setN_bit, Nat.zero_testBit]
    by_cases hx : (i : Int) ∈ l
    · have := e _ hx
      have hv : ¬ (i : Int) ∈ v := by simpa using this
      simp [hv]
    · simp [hx]
theorem pop_or (v u : List Int) (hv : okIds 0 v = true) (hu : okIds 0 u = true) : popN 64 (setN v ||| setN u) + (v.filter fun x => decide (x ∈ u)).length = v.length + u.length := by
  rw [← pop_and v u hv, ← pop_set v hv, ← pop_set u hu, popN_pc, popN_pc, popN_pc, popN_pc]
  have := pc_or (fun i => (setN v).testBit i) (fun i => (setN u).testBit i) 64
  simp only [← Nat.testBit_and, ← Nat.testBit_or] at this
  exact this
end Go.Proofs.YtmienlnhbdbefaaGreatDoor.Plain


/- Members by the program: sets as words, when members are right. -/
namespace Go.Proofs.YtmienlnhbdbefaaGreatDoor
open Go.RowKit Plain
set_option linter.unusedVariables false

set_option maxRecDepth 10000 in
theorem nodeId_calls (n : Int) (w : World) : Calls Tryz.prog 50 #[.int .i64 n] w fun e w' => e = .returned (.bool (decide (1 ≤ n) && decide (n ≤ 50))) ∧ w = w' := by
  by_cases h1 : 1 ≤ n <;> by_cases h2 : n ≤ 50 <;>
    (go_enter Tryz.func50, Tryz.ntmps50
     go_wp2
     go_ret
     exact ⟨by simp [h1, h2], rfl⟩)

/-- A list of numbers in memory. -/
structure Plain.IntsAt (W : World) (a : Option Addr) (n : Nat) (ls : List Int) : Prop where
  row : RowAt i64E W a ls
  len : ls.length = n
  bn : n ≤ 1048576
theorem Plain.IntsAt.below {W W' : World} {a : Option Addr} {n : Nat} {ls : List Int} (h : IntsAt W a n ls) (hb : Below W.heap.size W W') : IntsAt W' a n ls := ⟨h.row.below hb, h.len, h.bn⟩

def risV (ls : List Int) : Value := .tuple #[.int .u64 ((if okIds 0 ls = true then setN ls else 0 : Nat) : Int), .bool (okIds 0 ls)]
theorem risV_yes {ls : List Int} (h : okIds 0 ls = true) : risV ls = .tuple #[.int .u64 (setN ls : Nat), .bool true] := by unfold risV; rw [h, if_pos rfl]
theorem risV_no {ls : List Int} (h : okIds 0 ls = false) : risV ls = .tuple #[.int .u64 0, .bool false] := by unfold risV; rw [h]; rfl

set_option maxRecDepth 10000 in
set_option maxHeartbeats 2000000 in
theorem risingSet_calls (a : Option Addr) (n c : Nat) (ls : List Int) (w : World) (h : IntsAt w a n ls) :
    Calls Tryz.prog 32 #[.slice a n c] w fun e w' => e = .returned (risV ls) ∧ w = w' := by
  have HH := hide h
  have hbn := h.bn
  clear h
  obtain ⟨R, hR⟩ : ∃ R, okIds 0 ls = R := ⟨_, rfl⟩
  have HR := hide hR
  clear hR
  obtain ⟨w0, rfl⟩ : ∃ w0, w0 = w := ⟨_, rfl⟩
  go_enter Tryz.func32, Tryz.ntmps32
  go_wp2_with fail
  go_loopw [4, 9] (fun s i wr => ∃ k : Nat, i = .int .i64 k ∧ s = .int .u64 (setN (ls.take k) : Nat) ∧ k ≤ n ∧ Hid (okIds (prevZ ls k) (ls.drop k) = R) ∧ Hid (TopIs (setN (ls.take k)) (prevZ ls k)) ∧ wr = w0) (fun _ i _ => n - (intOf i).toNat)
  case atStart => exact ⟨0, rfl, rfl, by omega, hide (unhide HR), hide topIs_zero, rfl⟩
  case round =>
    obtain ⟨k, rfl, rfl, hk, HO, HT, rfl⟩ := hrel
    by_cases hkn : k < n
    · have hkl : k < ls.length := by rw [(unhide HH).len]; exact hkn
      obtain ⟨g, e1, l1, p0, -⟩ := (unhide HH).row.ix k hkl
      have hst := okIds_step ls k hkl
      have hsn := setN_take ls k hkl
      have hpn : prevZ ls (k + 1) = ls[k] := by rw [prevZ, List.getElem?_eq_getElem hkl]; rfl
      have hlt := setN_lt (ls.take k)
      generalize ls[k] = x at p0 hst hsn hpn
      subst e1
      have i0 : (0 : Int) ≤ (k : Int) := by omega
      have i1 : (k : Int) < (n : Int) := by omega
      rw [unhide HO] at hst
      have HT2 := unhide HT
      have HSN := hide hsn
      have HPN := hide hpn
      generalize hp : prevZ ls k = pv at hst HT2
      generalize setN (ls.take k) = S at HT2 hlt hsn HSN
      clear HT HO hsn hpn
      cases hn : (decide (1 ≤ x) && decide (x ≤ 50)) with
      | false =>
        have HN := hide hn
        have HX := hide (show R = false from by
          rw [hst]
          have : (decide (pv < x) && decide (x ≤ 50)) = false := by
            obtain ⟨_, h3, _⟩ := HT2
            rw [Bool.eq_false_iff]
            intro hy
            simp at hy hn
            rcases h3 with ⟨_, h3⟩ | ⟨_, h3⟩ <;> omega
          rw [this]
          rfl)
        clear hst hn HT2
        go_wp2_with fail
        refine (nodeId_calls x _).mono ?_
        rintro e w1 ⟨rfl, rfl⟩
        rw [unhide HN]
        go_wp2_with fail
        exact bodyPost_ret (v := .tuple #[.int .u64 0, .bool false]) (by simp [results, Tryz.results32, go_sem]) rfl ⟨by rw [risV_no ((unhide HR).trans (unhide HX))], rfl⟩
      | true =>
        have HN := hide hn
        have hn2 : 1 ≤ x ∧ x ≤ 50 := by simpa using hn
        obtain ⟨n1, n2⟩ := hn2
        obtain ⟨X, rfl⟩ := Int.eq_ofNat_of_zero_le (show 0 ≤ x by omega)
        have hX : X ≤ 63 := by omega
        have hon := only_calls X wr hX
        have hpl : 2 ^ X ≤ 1125899906842624 := Nat.pow_le_pow_right (show 0 < 2 by decide) (show X ≤ 50 by omega)
        by_cases hle : (X : Int) ≤ pv
        · have hge := topIs_no HT2 n1 hle
          rw [Int.toNat_natCast] at hge
          have HX := hide (show R = false from by rw [hst, decide_eq_false (show ¬ pv < (X : Int) by omega)]; rfl)
          clear hst hn HT2 HSN
          generalize 2 ^ X = P at hon hge hpl
          have HON := hide hon
          clear hon
          have hge2 : (P : Int) ≤ (S : Int) := by omega
          go_wp2_with fail
          refine (nodeId_calls _ _).mono ?_
          rintro e w1 ⟨rfl, rfl⟩
          rw [unhide HN]
          go_wp2_with fail
          refine (unhide HON).mono ?_
          rintro e w1 ⟨rfl, rfl⟩
          go_wp2_with fail
          exact bodyPost_ret (v := .tuple #[.int .u64 0, .bool false]) (by simp [results, Tryz.results32, go_sem]) rfl ⟨by rw [risV_no ((unhide HR).trans (unhide HX))], rfl⟩
        · have hge := topIs_lt HT2 (show pv < (X : Int) by omega)
          have hnx := topIs_next HT2 n1 (show pv < (X : Int) by omega) n2
          rw [Int.toNat_natCast] at hge hnx
          have HX := hide (show okIds (prevZ ls (k + 1)) (ls.drop (k + 1)) = R from by rw [hst, decide_eq_true (show pv < (X : Int) by omega), decide_eq_true n2]; rfl)
          have hs2 := unhide HSN
          rw [if_pos ⟨n1, n2⟩, Int.toNat_natCast] at hs2
          clear hst hn HT2 HSN
          have hor : bits .or .u64 (S : Int) ((2 ^ X : Nat) : Int) = ((S ||| 2 ^ X : Nat) : Int) := u64_or_nat _ _ (by omega) (by omega)
          generalize 2 ^ X = P at hon hge hpl hs2 hnx hor
          rw [← hs2] at hnx hor
          have HS2 := hide hs2
          have HNX := hide hnx
          have HON := hide hon
          clear hon hs2 hnx
          generalize hS3 : setN (ls.take (k + 1)) = S2 at HS2 HNX hor
          have HS3 := hide hS3
          clear hS3
          have hge2 : ¬ (P : Int) ≤ (S : Int) := by omega
          go_wp2_with fail
          refine (nodeId_calls _ _).mono ?_
          rintro e w1 ⟨rfl, rfl⟩
          rw [unhide HN]
          go_wp2_with fail
          refine (unhide HON).mono ?_
          rintro e w1 ⟨rfl, rfl⟩
          go_wp2_with fail
          refine (unhide HON).mono ?_
          rintro e w1 ⟨rfl, rfl⟩
          go_wp2_with fail
          go_roundw
          case rel => exact ⟨k + 1, by go_num, by rw [unhide HS3], by omega, HX, hide (by rw [unhide HPN, unhide HS3]; exact unhide HNX), trivial⟩
          case measure => simp [intOf]; omega
    · obtain rfl : k = n := by omega
      have hO := unhide HO
      rw [List.drop_of_length_le (by rw [(unhide HH).len]; exact Nat.le_refl _)] at hO
      have HX := hide (show R = true from hO.symm)
      have HL := hide (show ls.take k = ls from List.take_of_length_le (by rw [(unhide HH).len]; exact Nat.le_refl _))
      clear hO HO
      rw [unhide HL]
      go_wp2_with fail
      exact bodyPost_ret (v := .tuple #[.int .u64 (setN ls : Nat), .bool true]) (by simp [results, Tryz.results32, go_sem]) rfl ⟨by rw [risV_yes ((unhide HR).trans (unhide HX))], rfl⟩
end Go.Proofs.YtmienlnhbdbefaaGreatDoor

