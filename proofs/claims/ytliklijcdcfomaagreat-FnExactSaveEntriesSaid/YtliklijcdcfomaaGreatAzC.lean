/- Texts of one kind, put together. -/
import Derived.Test.YtliklijcdcfomaaGreatMem
import Derived.Lib.Bytealg
import Derived.Test.YtliklijcdcfomaaGreatAzA

/- Digits of 16: what the two programs tell of one byte; what a digest is; Nibble. -/
namespace Go.Proofs.YtliklijcdcfomaaGreat
open Go.RowKit Plain
set_option linter.unusedVariables false

namespace Plain
def hexList : List UInt8 := [48, 49, 50, 51, 52, 53, 54, 55, 56, 57, 97, 98, 99, 100, 101, 102]
def hexI (c : Int) : Int := if 48 ≤ c ∧ c ≤ 57 then c - 48 else if 97 ≤ c ∧ c ≤ 102 then c - 87 else -1

theorem hex_all : ∀ n : Fin 256, Lib.indexByte hexList n.val.toUInt8 = hexI n.val := by decide +kernel

theorem hex_index (c : Int) (h0 : 0 ≤ c) (h1 : c < 256) : Lib.indexByte hexList c.toNat.toUInt8 = hexI c := by
  have h := hex_all ⟨c.toNat, by omega⟩
  simp only at h
  rw [h]
  congr 1
  omega

theorem hexI_bounds (c : Int) : -1 ≤ hexI c ∧ hexI c ≤ 15 := by unfold hexI; split <;> (try split) <;> omega
end Plain





end Go.Proofs.YtliklijcdcfomaaGreat

/- Numbers in bytes: PutNumber of both programs by its contract. -/
namespace Go.Proofs.YtliklijcdcfomaaGreat
open Go.RowKit Plain
set_option linter.unusedVariables false

theorem l1In_calls (n lo hi : Int) (w : World) : Calls Tryz.prog 22 #[.int .i64 n, .int .i64 lo, .int .i64 hi] w fun e w' => e = .returned (.bool (decide (lo ≤ n) && decide (n ≤ hi))) ∧ w = w' := by
  by_cases h1 : lo ≤ n <;> by_cases h2 : n ≤ hi <;>
    (go_enter Tryz.func22, Tryz.ntmps22
     go_wp2
     go_ret
     exact ⟨by simp [h1, h2], rfl⟩)


set_option maxRecDepth 100000 in
set_option maxHeartbeats 800000 in
theorem impl_PutNumber_in (n : Int) (w : World) (h0 : 0 ≤ n) (h1 : n ≤ 1000000000000) :
    Calls Tryz.prog 84 #[.int .i64 n] w fun e w' => e = .returned (.string (strOfNums (putL 5 n.toNat))) ∧ Below w.heap.size w w' := by
  obtain ⟨N, rfl⟩ := Int.eq_ofNat_of_zero_le h0
  rw [Int.toNat_natCast]
  have hN : N ≤ 1000000000000 := by omega
  go_enter Tryz.func84, Tryz.ntmps84
  go_wp2
  go_loopw [0, 3] (fun i v wr => ∃ (m f : Nat) (done : List Int), i = .int .i64 m ∧ m ≤ N ∧ m < 128 ^ (f + 1) ∧ done.length + f = 5 ∧ Hid (done ++ putL f m = putL 5 N) ∧
      OwnB wr w.heap.size v done ∧ Below w.heap.size w wr)
    (fun i _ _ => (intOf i).toNat)
  case atStart => exact ⟨N, 5, [], rfl, Nat.le_refl _, by omega, rfl, rfl, ownB_nil _ _, Below.refl _ _⟩
  case round =>
    obtain ⟨m, f, done, rfl, hmN, hmf, hdf, hrel, hown, hbel⟩ := hrel
    have hsz := hbel.size
    by_cases hlt : m < 128
    · go_wp2_with (at_builtin; go_must (refine app1 rfl _ _ rfl hown rfl rfl (by omega) hsz ?_); intro v' w1 hown1 hg1 hb1; have hcv := conv_ownB w1 _ v' _ hown1)
      go_ret
      have hb := hbel.trans hb1
      have hr := unhide hrel
      rw [putL_small f m hlt] at hr
      exact ⟨by rw [← hr]; rfl, hb⟩
    · have hlt2 : 128 ≤ m := by omega
      go_wp2_with (at_builtin; go_must (refine app1 rfl _ _ rfl hown rfl rfl (by omega) hsz ?_); intro v' w1 hown1 hg1 hb1)
      obtain ⟨f', hf', hmf', hrel'⟩ := put_round f m _ done (unhide hrel) hlt hmf
      go_roundw
      case rel => exact ⟨m / 128, f', _, by go_num, by omega, hmf', by simp; omega, hrel', hown1, hbel.trans hb1⟩
      case measure => simp [intOf]; omega

set_option maxRecDepth 100000 in
set_option maxHeartbeats 800000 in
theorem spec_PutNumber_in (n : Int) (w : World) (h0 : 0 ≤ n) (h1 : n ≤ 1000000000000) :
    Calls Tryz.prog 67 #[.int .i64 n] w fun e w' => e = .returned (.string (strOfNums (putL 5 n.toNat))) ∧ Below w.heap.size w w' := by
  obtain ⟨N, rfl⟩ := Int.eq_ofNat_of_zero_le h0
  rw [Int.toNat_natCast]
  have hN : N ≤ 1000000000000 := by omega
  go_enter Tryz.func67, Tryz.ntmps67
  have hd : (decide ((0 : Int) ≤ N) && decide ((N : Int) ≤ 1000000000000)) = true := by simp; omega
  go_wp2_with (go_at_call 22; refine (l1In_calls _ _ _ _).mono ?_; rintro e w' ⟨rfl, rfl⟩)
  go_loopw [0, 3] (fun i v wr => ∃ (m f : Nat) (done : List Int), i = .int .i64 m ∧ m ≤ N ∧ m < 128 ^ (f + 1) ∧ done.length + f = 5 ∧ Hid (done ++ putL f m = putL 5 N) ∧
      OwnB wr w.heap.size v done ∧ Below w.heap.size w wr)
    (fun i _ _ => (intOf i).toNat)
  case atStart => exact ⟨N, 5, [], rfl, Nat.le_refl _, by omega, rfl, rfl, ownB_empty _ _ (Nat.le_refl _), (Below.refl _ _).alloc (Nat.le_refl _) _⟩
  case round =>
    obtain ⟨m, f, done, rfl, hmN, hmf, hdf, hrel, hown, hbel⟩ := hrel
    have hsz := hbel.size
    by_cases hlt : m < 128
    · go_wp2_with (at_builtin; go_must (refine app1 rfl _ _ rfl hown rfl rfl (by omega) hsz ?_); intro v' w1 hown1 hg1 hb1; have hcv := conv_ownB w1 _ v' _ hown1)
      go_ret
      have hb := hbel.trans hb1
      have hr := unhide hrel
      rw [putL_small f m hlt] at hr
      exact ⟨by rw [← hr]; rfl, hb⟩
    · have hlt2 : 128 ≤ m := by omega
      go_wp2_with (at_builtin; go_must (refine app1 rfl _ _ rfl hown rfl rfl (by omega) hsz ?_); intro v' w1 hown1 hg1 hb1)
      obtain ⟨f', hf', hmf', hrel'⟩ := put_round f m _ done (unhide hrel) hlt hmf
      go_roundw
      case rel => exact ⟨m / 128, f', _, by go_num, by omega, hmf', by simp; omega, hrel', hown1, hbel.trans hb1⟩
      case measure => simp [intOf]; omega

theorem impl_PutNumber (n : Int) (w : World) :
    Calls Tryz.prog 84 #[.int .i64 n] w fun e w' => e = .returned (.string (putS n)) ∧ Below w.heap.size w w' := by
  unfold putS
  by_cases h0 : 0 ≤ n
  · by_cases h1 : n ≤ 1000000000000
    · rw [if_pos ⟨h0, h1⟩]; exact impl_PutNumber_in n w h0 h1
    · rw [if_neg (by omega)]
      go_enter Tryz.func84, Tryz.ntmps84
      go_wp2
      go_ret
      exact ⟨rfl, Below.refl _ _⟩
  · rw [if_neg (by omega)]
    have hlt : n < 0 := by omega
    go_enter Tryz.func84, Tryz.ntmps84
    go_wp2
    go_ret
    exact ⟨rfl, Below.refl _ _⟩

theorem spec_PutNumber (n : Int) (w : World) :
    Calls Tryz.prog 67 #[.int .i64 n] w fun e w' => e = .returned (.string (putS n)) ∧ Below w.heap.size w w' := by
  unfold putS
  by_cases h : 0 ≤ n ∧ n ≤ 1000000000000
  · rw [if_pos h]; exact spec_PutNumber_in n w h.1 h.2
  · rw [if_neg h]
    have hd : (decide (0 ≤ n) && decide (n ≤ 1000000000000)) = false := by simp; omega
    go_enter Tryz.func67, Tryz.ntmps67
    go_wp2_with (go_at_call 22; refine (l1In_calls _ _ _ _).mono ?_; rintro e w' ⟨rfl, rfl⟩)
    go_ret
    exact ⟨rfl, Below.refl _ _⟩

end Go.Proofs.YtliklijcdcfomaaGreat


/- What a digest is: DigestOk and Nibble of both programs by their contracts. -/
namespace Go.Proofs.YtliklijcdcfomaaGreat
open Go.RowKit Plain
set_option linter.unusedVariables false

namespace Plain
def hexFrom (t : ByteArray) (k : Nat) : Bool := (t.data.toList.drop k).all fun c => decide (0 ≤ hexI c.toNat)

theorem hexFrom_step (t : ByteArray) (k : Nat) (h : k < t.size) : hexFrom t k = (decide (0 ≤ hexI t[k].toNat) && hexFrom t (k + 1)) := by
  unfold hexFrom
  rw [List.drop_eq_getElem_cons (by simpa using h)]
  rfl

theorem hexFrom_end (t : ByteArray) (k : Nat) (h : t.size ≤ k) : hexFrom t k = true := by
  unfold hexFrom
  rw [List.drop_of_length_le (by simpa using h)]
  rfl

theorem hexFrom_extract (s : ByteArray) (h : 7 ≤ s.size) : hexFrom (s.extract 7 s.size) 0 = hexFrom s 7 := by
  unfold hexFrom
  congr 1
  rw [ByteArray.data_extract, Array.toList_extract]
  simp [List.extract_eq_take_drop]
  exact List.take_of_length_le (by simp)

def shaL : List UInt8 := [115, 104, 97, 50, 53, 54, 58]
def digB (s : ByteArray) : Bool := decide (s.size = 71) && ((s.extract 0 7).toList == shaL) && hexFrom s 7

theorem digB_size {s : ByteArray} (h : ¬ s.size = 71) : digB s = false := by unfold digB; simp [h]
theorem digB_head {s : ByteArray} (h : ((s.extract 0 7).toList == shaL) = false) : digB s = false := by unfold digB; rw [h]; simp
theorem digB_rest {s : ByteArray} (h1 : s.size = 71) (h : ((s.extract 0 7).toList == shaL) = true) : digB s = hexFrom s 7 := by unfold digB; rw [h]; simp [h1]
end Plain







end Go.Proofs.YtliklijcdcfomaaGreat

/- Manifests as plain mathematics: when one is right, its text, what is read of a text. -/
namespace Go.Proofs.YtliklijcdcfomaaGreat
open Go.RowKit Plain
set_option linter.unusedVariables false
namespace Plain
def cfgH : ByteArray := ⟨#[99, 111, 110, 102, 105, 103, 32]⟩
def layH : ByteArray := ⟨#[108, 97, 121, 101, 114, 32]⟩
def nlB : ByteArray := ⟨#[10]⟩
def manB (c : ByteArray) (ls : List ByteArray) : Bool := digB c && (decide (1 ≤ ls.length) && decide (ls.length ≤ 40)) && ls.all digB
def laysS : ByteArray → List ByteArray → ByteArray
  | acc, [] => acc
  | acc, l :: ls => laysS (acc ++ (layH ++ l ++ nlB)) ls
def manS (c : ByteArray) (ls : List ByteArray) : ByteArray := if manB c ls then laysS (cfgH ++ c ++ nlB) ls else ⟨#[]⟩
theorem laysS_snoc (acc : ByteArray) (ls : List ByteArray) (x : ByteArray) : laysS acc (ls ++ [x]) = laysS acc ls ++ (layH ++ x ++ nlB) := by
  induction ls generalizing acc with
  | nil => rfl
  | cons l ls ih => rw [List.cons_append, laysS, laysS, ih]
theorem digB_71 {s : ByteArray} (h : digB s = true) : s.size = 71 := by
  unfold digB at h
  simp at h
  exact h.1.1
theorem laysS_size (acc : ByteArray) (ls : List ByteArray) (h : ∀ l ∈ ls, l.size ≤ 71) : (laysS acc ls).size ≤ acc.size + 78 * ls.length := by
  induction ls generalizing acc with
  | nil => simp [laysS]
  | cons l ls ih =>
    rw [laysS]
    have := ih (acc ++ (layH ++ l ++ nlB)) (fun x hx => h x (by simp [hx]))
    have h1 := h l (by simp)
    rw [ByteArray.size_append, ByteArray.size_append, ByteArray.size_append, show layH.size = 6 from rfl, show nlB.size = 1 from rfl] at this
    rw [List.length_cons]
    omega
theorem manB_lays {c : ByteArray} {ls : List ByteArray} (h : manB c ls = true) : digB c = true ∧ 1 ≤ ls.length ∧ ls.length ≤ 40 ∧ ∀ l ∈ ls, digB l = true := by
  unfold manB at h
  simp at h
  exact ⟨h.1.1, h.1.2.1, h.1.2.2, h.2⟩
theorem manB_mk {c : ByteArray} {ls : List ByteArray} (h1 : digB c = true) (h2 : 1 ≤ ls.length) (h3 : ls.length ≤ 40) (h4 : ∀ l ∈ ls, digB l = true) : manB c ls = true := by
  unfold manB
  simp
  exact ⟨⟨h1, h2, h3⟩, h4⟩
theorem manS_size (c : ByteArray) (ls : List ByteArray) : (manS c ls).size ≤ 4000 := by
  unfold manS
  split
  · next h =>
    obtain ⟨h1, h2, h3, h4⟩ := manB_lays h
    have := laysS_size (cfgH ++ c ++ nlB) ls (fun l hl => by have := digB_71 (h4 l hl); omega)
    rw [ByteArray.size_append, ByteArray.size_append, show cfgH.size = 7 from rfl, show nlB.size = 1 from rfl, digB_71 h1] at this
    omega
  · decide
theorem all_step {α : Type} (p : α → Bool) (l : List α) (k : Nat) (h : k < l.length) : (l.drop k).all p = (p l[k] && (l.drop (k + 1)).all p) := by
  rw [List.drop_eq_getElem_cons h, List.all_cons]
theorem all_end {α : Type} (p : α → Bool) (l : List α) (k : Nat) (h : l.length ≤ k) : (l.drop k).all p = true := by
  rw [List.drop_of_length_le h, List.all_nil]
theorem take_snoc {α : Type} (l : List α) (k : Nat) (h : k < l.length) : l.take (k + 1) = l.take k ++ [l[k]] := List.take_succ_eq_append_getElem h

/-- A line of its head and a digest. -/
def okL (h p : ByteArray) : Bool := decide (h.size ≤ p.size) && ((p.extract 0 h.size).toList == h.toList) && digB (p.extract h.size p.size)
def laysOk : List ByteArray → Bool
  | [] => false
  | [q] => emp q
  | q :: q' :: qs => okL layH q && laysOk (q' :: qs)
def laysOf : List ByteArray → List ByteArray
  | [] => []
  | [_] => []
  | q :: q' :: qs => q.extract 6 q.size :: laysOf (q' :: qs)
def rmV : List ByteArray → ByteArray × List ByteArray × Int
  | [] => (⟨#[]⟩, [], 1)
  | p :: qs => if okL cfgH p && laysOk qs then (if 1 ≤ (laysOf qs).length ∧ (laysOf qs).length ≤ 40 then (p.extract 7 p.size, laysOf qs, 0) else (⟨#[]⟩, [], 2)) else (⟨#[]⟩, [], 1)
theorem laysOk_cons (q : ByteArray) (qs : List ByteArray) (h : qs ≠ []) : laysOk (q :: qs) = (okL layH q && laysOk qs) := by
  cases qs with
  | nil => exact absurd rfl h
  | cons a b => rfl
theorem laysOf_cons (q : ByteArray) (qs : List ByteArray) (h : qs ≠ []) : laysOf (q :: qs) = q.extract 6 q.size :: laysOf qs := by
  cases qs with
  | nil => exact absurd rfl h
  | cons a b => rfl
theorem laysOf_dig (qs : List ByteArray) (h : laysOk qs = true) : ∀ l ∈ laysOf qs, digB l = true := by
  induction qs with
  | nil => simp [laysOf]
  | cons q qs ih =>
    by_cases hq : qs = []
    · subst hq; simp [laysOf]
    · rw [laysOk_cons q qs hq] at h
      rw [laysOf_cons q qs hq]
      simp at h
      intro l hl
      rcases List.mem_cons.1 hl with rfl | hl
      · have := h.1; unfold okL at this; simp at this; exact this.2
      · exact ih h.2 l hl
theorem laysOf_len (qs : List ByteArray) : (laysOf qs).length = qs.length - 1 := by
  induction qs with
  | nil => rfl
  | cons q qs ih =>
    by_cases hq : qs = []
    · subst hq; rfl
    · rw [laysOf_cons q qs hq, List.length_cons, ih, List.length_cons]
      have : 0 < qs.length := List.length_pos_iff.2 hq
      omega
theorem laysOk_last (qs : List ByteArray) (h : laysOk qs = true) : ∃ (hk : qs.length - 1 < qs.length), emp (qs[qs.length - 1]'hk) = true := by
  induction qs with
  | nil => simp [laysOk] at h
  | cons q qs ih =>
    by_cases hq : qs = []
    · subst hq; exact ⟨by simp, by simpa [laysOk] using h⟩
    · rw [laysOk_cons q qs hq] at h
      simp at h
      obtain ⟨hk, he⟩ := ih h.2
      have hp : 0 < qs.length := List.length_pos_iff.2 hq
      refine ⟨by simp, ?_⟩
      simp only [List.length_cons]
      have e : qs.length + 1 - 1 = (qs.length - 1) + 1 := by omega
      rw [show (q :: qs)[qs.length + 1 - 1]'(by simp) = qs[qs.length - 1] from by simp only [e, List.getElem_cons_succ]]
      exact he
/-- The text's first line and the rest, at the first newline. -/
theorem cutB_at (s : ByteArray) (j : Nat) (hj : fd 10 10 s.data.toList = j) (hlt : j < s.size) : cutB 10 s = s.extract 0 j :: cutB 10 (s.extract (j + 1) s.size) := by
  have hl : j < s.data.toList.length := by rw [len_data]; exact hlt
  have e : s.data.toList = s.data.toList.take j ++ s.data.toList[j] :: s.data.toList.drop (j + 1) := by
    have := mid_cons s.data.toList 0 j hl (Nat.zero_le _)
    simpa using this
  unfold cutB
  conv => lhs; rw [e]
  rw [splt_at 10 _ _ _ (by have := fd_at 10 10 s.data.toList (by rw [hj]; exact hl); simp only [hj] at this; omega) (fun x hx => by
    obtain ⟨i, hi, rfl⟩ := List.getElem_of_mem hx
    rw [List.length_take] at hi
    rw [List.getElem_take]
    have := fd_ahead 10 10 s.data.toList i (by omega) (by omega)
    omega), List.map_cons, ext_mid, ext_mid]
  simp only [List.drop_zero, Nat.sub_zero, toB_list]
  rw [List.take_of_length_le (show (s.data.toList.drop (j + 1)).length ≤ s.size - (j + 1) from by rw [List.length_drop, len_data]; omega)]
theorem cutB_end (s : ByteArray) (hj : s.size ≤ fd 10 10 s.data.toList) : cutB 10 s = [s] := by
  unfold cutB
  rw [splt_end 10 _ (fun x hx => by
    obtain ⟨i, hi, rfl⟩ := List.getElem_of_mem hx
    have := fd_ahead 10 10 s.data.toList i (by rw [len_data] at hi; omega) hi
    omega)]
  rfl
theorem cutB_ne (s : ByteArray) : cutB 10 s ≠ [] := by
  unfold cutB
  obtain ⟨h, t, e⟩ := splt_ne 10 s.data.toList
  rw [e]
  simp
theorem cutB_emp (s : ByteArray) (h : emp s = true) : cutB 10 s = [⟨#[]⟩] := by
  rw [emp_eq h]; rfl
end Plain
end Go.Proofs.YtliklijcdcfomaaGreat


/- Manifests: when one is right, and its text: both programs by their contracts. -/
namespace Go.Proofs.YtliklijcdcfomaaGreat
open Go.RowKit Plain
set_option linter.unusedVariables false

namespace Plain
theorem bel1 (w : World) (o : Obj) : Below w.heap.size w (w.alloc o) := (Below.refl _ _).alloc (Nat.le_refl _) _
theorem bcl {w w' : World} {B : Nat} (h : Below B w w') {g i : Nat} {v : Value} (hg : g < B) (hc : w.cell? ⟨g, i, none⟩ = some v) : w'.cell? ⟨g, i, none⟩ = some v := (h.cell (p := ⟨g, i, none⟩) hg).trans hc
theorem belOn {w W W' : World} (h0 : Below w.heap.size w W) (h1 : Below W.heap.size W W') : Below w.heap.size w W' := h0.trans (h1.mono h0.size)
end Plain









end Go.Proofs.YtliklijcdcfomaaGreat
