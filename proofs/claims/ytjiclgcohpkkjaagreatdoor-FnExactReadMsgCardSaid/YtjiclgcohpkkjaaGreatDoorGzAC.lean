/- Texts of one kind, put together. -/
import Derived.Test.YtjiclgcohpkkjaaGreatDoorGzAB
import Derived.Laws.StructEq
import Derived.Test.YtjiclgcohpkkjaaGreatDoorGzAA

/- A text cut at a sign: the specification's l3Cut by its contract. -/
namespace Go.Proofs.YtjiclgcohpkkjaaGreatDoor
open Go.RowKit Plain
set_option linter.unusedVariables false

namespace Plain
def splt (m : Nat) : List UInt8 → List (List UInt8)
  | [] => [[]]
  | c :: l => if c.toNat = m then [] :: splt m l else match splt m l with
    | [] => [[c]]
    | h :: t => (c :: h) :: t
theorem splt_ne (m : Nat) (l : List UInt8) : ∃ h t, splt m l = h :: t := by
  induction l with
  | nil => exact ⟨[], [], rfl⟩
  | cons c l ih =>
    obtain ⟨h, t, e⟩ := ih
    rw [splt, e]
    split
    · exact ⟨_, _, rfl⟩
    · exact ⟨_, _, rfl⟩
theorem splt_end (m : Nat) (a : List UInt8) (h : ∀ x ∈ a, x.toNat ≠ m) : splt m a = [a] := by
  induction a with
  | nil => rfl
  | cons c l ih => rw [splt, if_neg (h c (by simp)), ih (fun x hx => h x (by simp [hx]))]
theorem splt_at (m : Nat) (a b : List UInt8) (d : UInt8) (hd : d.toNat = m) (h : ∀ x ∈ a, x.toNat ≠ m) : splt m (a ++ d :: b) = a :: splt m b := by
  induction a with
  | nil => rw [List.nil_append, splt, if_pos hd]
  | cons c l ih => rw [List.cons_append, splt, if_neg (h c (by simp)), ih (fun x hx => h x (by simp [hx]))]
theorem splt_len (m : Nat) (l : List UInt8) : (splt m l).length ≤ l.length + 1 := by
  induction l with
  | nil => simp [splt]
  | cons c l ih =>
    obtain ⟨h, t, e⟩ := splt_ne m l
    rw [e] at ih
    rw [splt, e]
    split <;> simp at ih ⊢ <;> omega
def toB (l : List UInt8) : ByteArray := ⟨l.toArray⟩
theorem toB_list (l : List UInt8) : (toB l).data.toList = l := rfl
theorem toB_of (s : ByteArray) : toB s.data.toList = s := rfl
theorem ext_mid (s : ByteArray) (a b : Nat) : s.extract a b = toB ((s.data.toList.drop a).take (b - a)) := by
  apply ByteArray.ext
  rw [ByteArray.data_extract]
  apply Array.toList_inj.1
  rw [Array.toList_extract, List.extract_eq_take_drop]
  rfl
def cutB (m : Nat) (s : ByteArray) : List ByteArray := (splt m s.data.toList).map toB
theorem len_data (s : ByteArray) : s.data.toList.length = s.size := Array.length_toList
theorem mid_snoc (l : List UInt8) (F k : Nat) (h : k < l.length) (hF : F ≤ k) : (l.drop F).take (k + 1 - F) = (l.drop F).take (k - F) ++ [l[k]] := by
  rw [show k + 1 - F = (k - F) + 1 from by omega, List.take_succ_eq_append_getElem (by rw [List.length_drop]; omega)]
  congr 2
  rw [List.getElem_drop]
  congr 1
  omega
theorem mid_cons (l : List UInt8) (F k : Nat) (h : k < l.length) (hF : F ≤ k) : l.drop F = (l.drop F).take (k - F) ++ l[k] :: l.drop (k + 1) := by
  have e := (List.take_append_drop (k - F) (l.drop F)).symm
  rw [List.drop_drop, show F + (k - F) = k from by omega, List.drop_eq_getElem_cons h] at e
  exact e
theorem map_snoc {α β : Type} (f : α → β) (xs : List β) (a : α) (l : List α) : xs ++ (a :: l).map f = (xs ++ [f a]) ++ l.map f := by simp
def emp (t : ByteArray) : Bool := t.toList.isEmpty
theorem emp_size (t : ByteArray) : emp t = decide (t.size = 0) := by
  unfold emp
  rw [ByteArray.toList_eq, Bool.eq_iff_iff, List.isEmpty_iff]
  simp only [decide_eq_true_eq]
  rw [← len_data]
  exact List.length_eq_zero_iff.symm
theorem emp_eq {t : ByteArray} (h : emp t = true) : t = ⟨#[]⟩ := by
  rw [emp_size] at h
  have h0 : t.size = 0 := by simpa using h
  apply ByteArray.ext
  exact Array.eq_empty_of_size_eq_zero h0
end Plain

set_option maxHeartbeats 1000000 in
theorem l3Cut_calls (s : ByteArray) (m : Nat) (w : World) (hs : s.size ≤ 10000000) (hm : m < 256) :
    Calls Tryz.prog 55 #[.string s, .int .u8 m] w fun e w' => ∃ v, e = .returned v ∧ OwnR strE w' w.heap.size v (cutB m s) ∧ Below w.heap.size w w' := by
  go_enter Tryz.func55, Tryz.ntmps55
  go_wp2_with fail
  go_loopw [5, 6, 7] (fun v f i wr => ∃ (ds : List ByteArray) (F k : Nat), f = .int .i64 F ∧ i = .int .i64 k ∧ Hid (OwnR strE wr w.heap.size v ds) ∧ Hid (Below w.heap.size w wr) ∧ w.heap.size ≤ wr.heap.size ∧ ds.length ≤ k ∧ F ≤ s.size + 1 ∧ k ≤ s.size + 1 ∧
      Hid ((F ≤ k ∧ k ≤ s.size ∧ (∀ x ∈ (s.data.toList.drop F).take (k - F), x.toNat ≠ m) ∧ ds ++ (splt m (s.data.toList.drop F)).map toB = cutB m s) ∨ (k = s.size + 1 ∧ ds = cutB m s))) (fun _ _ i _ => s.size + 1 - (intOf i).toNat)
  case atStart => exact ⟨[], 0, 0, rfl, rfl, hide (ownR_empty strE w _ (Nat.le_refl _)), hide ((Below.refl _ _).alloc (Nat.le_refl _) _), by simp, by simp, by omega, by omega, hide (.inl ⟨by omega, by omega, by simp, by simp [cutB]⟩)⟩
  case round =>
    obtain ⟨ds, F, k, rfl, rfl, HO, HB, hz, hds, hF, hk, HR⟩ := hrel
    by_cases hle : k ≤ s.size
    · obtain ⟨hFk, hno, heq⟩ : F ≤ k ∧ (∀ x ∈ (s.data.toList.drop F).take (k - F), x.toNat ≠ m) ∧ ds ++ (splt m (s.data.toList.drop F)).map toB = cutB m s := by
        rcases unhide HR with ⟨a, b, c, d⟩ | ⟨a, b⟩
        · exact ⟨a, c, d⟩
        · omega
      clear HR
      by_cases hlt : k < s.size
      · obtain ⟨c, hc⟩ : ∃ c, s[k].toNat = c := ⟨_, rfl⟩
        have hc256 : c < 256 := by rw [← hc]; exact s[k].toNat_lt
        have hll : k < s.data.toList.length := by rw [len_data]; exact hlt
        have hcl : (s.data.toList[k]).toNat = c := hc
        have hne : ((k : Int) == (s.size : Int)) = false := by simp; omega
        by_cases hcm : c = m
        · subst hcm
          have hsp : (splt c (s.data.toList.drop F)).map toB = s.extract F k :: (splt c (s.data.toList.drop (k + 1))).map toB := by
            rw [mid_cons _ F k hll hFk, splt_at _ _ _ _ hcl hno, List.map_cons, ext_mid]
          rw [hsp] at heq
          have HN := hide (show (ds ++ [s.extract F k]) ++ (splt c (s.data.toList.drop (k + 1))).map toB = cutB c s from by rw [← heq]; simp)
          have hself : ((c : Int) == (c : Int)) = true := by simp
          clear hsp heq hno hcl hll
          go_wp2_with (at_builtin; go_must (refine appR (e := strE) rfl _ _ rfl (unhide HO) rfl (s.extract F k) rfl _ rfl rfl (by omega) hz ?_); intro v' w6 hown6 hb6 hg6)
          go_roundw
          case rel => exact ⟨ds ++ [s.extract F k], k + 1, k + 1, by go_num, by go_num, hide hown6, hide ((unhide HB).trans hb6), Nat.le_trans hz hb6.size, by simp; omega, by omega, by omega, hide (.inl ⟨by omega, by omega, by simp, unhide HN⟩)⟩
          case measure => simp [intOf]; omega
        · have hcm2 : ((c : Int) == (m : Int)) = false := by simp; omega
          have HNO := hide (show ∀ x ∈ (s.data.toList.drop F).take (k + 1 - F), x.toNat ≠ m from by
            rw [mid_snoc _ F k hll hFk]
            intro x hx
            rcases List.mem_append.1 hx with h | h
            · exact hno x h
            · obtain rfl := List.mem_singleton.1 h
              rw [hcl]; exact hcm)
          have HE := hide heq
          clear hno heq hcl hll
          go_wp2_with fail
          go_roundw
          case rel => exact ⟨ds, F, k + 1, rfl, by go_num, HO, HB, hz, by omega, by omega, by omega, hide (.inl ⟨by omega, by omega, unhide HNO, unhide HE⟩)⟩
          case measure => simp [intOf]; omega
      · obtain rfl : k = s.size := by omega
        have hsp : (splt m (s.data.toList.drop F)).map toB = [s.extract F s.size] := by
          have e : (s.data.toList.drop F).take (s.size - F) = s.data.toList.drop F := List.take_of_length_le (by rw [List.length_drop, len_data]; omega)
          rw [e] at hno
          rw [splt_end _ _ hno, ext_mid, e]
          rfl
        rw [hsp] at heq
        have HN := hide heq
        clear hsp heq hno
        go_wp2_with (at_builtin; go_must (refine appR (e := strE) rfl _ _ rfl (unhide HO) rfl (s.extract F s.size) rfl _ rfl rfl (by omega) hz ?_); intro v' w6 hown6 hb6 hg6)
        go_roundw
        case rel => exact ⟨ds ++ [s.extract F s.size], s.size + 1, s.size + 1, by go_num, by go_num, hide hown6, hide ((unhide HB).trans hb6), Nat.le_trans hz hb6.size, by simp; omega, by omega, by omega, hide (.inr ⟨by omega, unhide HN⟩)⟩
        case measure => simp [intOf]
    · have hd : ds = cutB m s := by
        rcases unhide HR with ⟨a, b, c, d⟩ | ⟨a, b⟩
        · omega
        · exact b
      subst hd
      clear HR
      go_wp2_with fail
      go_ret
      exact ⟨_, rfl, unhide HO, unhide HB⟩
end Go.Proofs.YtjiclgcohpkkjaaGreatDoor


/- Manifests as plain mathematics: when one is right, its text, what is read of a text. -/
namespace Go.Proofs.YtjiclgcohpkkjaaGreatDoor
open Go.RowKit Plain
set_option linter.unusedVariables false
namespace Plain
def cfgH : ByteArray := ⟨#[99, 111, 110, 102, 105, 103, 32]⟩
def layH : ByteArray := ⟨#[108, 97, 121, 101, 114, 32]⟩
def nlB : ByteArray := ⟨#[10]⟩
def manB (c : ByteArray) (ls : List ByteArray) : Bool := digB c && (decide (1 ≤ ls.length) && decide (ls.length ≤ 40)) && ls.all digB
def laysS : ByteArray → List ByteArray → ByteArray
  | acc, [] => acc
  | acc, l :: ls => laysS (acc ++ (layH ++ l ++ nlB)) ls
def manS (c : ByteArray) (ls : List ByteArray) : ByteArray := if manB c ls then laysS (cfgH ++ c ++ nlB) ls else ⟨#[]⟩
theorem laysS_snoc (acc : ByteArray) (ls : List ByteArray) (x : ByteArray) : laysS acc (ls ++ [x]) = laysS acc ls ++ (layH ++ x ++ nlB) := by
  induction ls generalizing acc with
  | nil => rfl
  | cons l ls ih => rw [List.cons_append, laysS, laysS, ih]
theorem digB_71 {s : ByteArray} (h : digB s = true) : s.size = 71 := by
  unfold digB at h
  simp at h
  exact h.1.1
theorem laysS_size (acc : ByteArray) (ls : List ByteArray) (h : ∀ l ∈ ls, l.size ≤ 71) : (laysS acc ls).size ≤ acc.size + 78 * ls.length := by
  induction ls generalizing acc with
  | nil => simp [laysS]
  | cons l ls ih =>
    rw [laysS]
    have := ih (acc ++ (layH ++ l ++ nlB)) (fun x hx => h x (by simp [hx]))
    have h1 := h l (by simp)
    rw [ByteArray.size_append, ByteArray.size_append, ByteArray.size_append, show layH.size = 6 from rfl, show nlB.size = 1 from rfl] at this
    rw [List.length_cons]
    omega
theorem manB_lays {c : ByteArray} {ls : List ByteArray} (h : manB c ls = true) : digB c = true ∧ 1 ≤ ls.length ∧ ls.length ≤ 40 ∧ ∀ l ∈ ls, digB l = true := by
  unfold manB at h
  simp at h
  exact ⟨h.1.1, h.1.2.1, h.1.2.2, h.2⟩
theorem manB_mk {c : ByteArray} {ls : List ByteArray} (h1 : digB c = true) (h2 : 1 ≤ ls.length) (h3 : ls.length ≤ 40) (h4 : ∀ l ∈ ls, digB l = true) : manB c ls = true := by
  unfold manB
  simp
  exact ⟨⟨h1, h2, h3⟩, h4⟩
theorem manS_size (c : ByteArray) (ls : List ByteArray) : (manS c ls).size ≤ 4000 := by
  unfold manS
  split
  · next h =>
    obtain ⟨h1, h2, h3, h4⟩ := manB_lays h
    have := laysS_size (cfgH ++ c ++ nlB) ls (fun l hl => by have := digB_71 (h4 l hl); omega)
    rw [ByteArray.size_append, ByteArray.size_append, show cfgH.size = 7 from rfl, show nlB.size = 1 from rfl, digB_71 h1] at this
    omega
  · decide
theorem all_step {α : Type} (p : α → Bool) (l : List α) (k : Nat) (h : k < l.length) : (l.drop k).all p = (p l[k] && (l.drop (k + 1)).all p) := by
  rw [List.drop_eq_getElem_cons h, List.all_cons]
theorem all_end {α : Type} (p : α → Bool) (l : List α) (k : Nat) (h : l.length ≤ k) : (l.drop k).all p = true := by
  rw [List.drop_of_length_le h, List.all_nil]
theorem take_snoc {α : Type} (l : List α) (k : Nat) (h : k < l.length) : l.take (k + 1) = l.take k ++ [l[k]] := List.take_succ_eq_append_getElem h

/-- A line of its head and a digest. -/
def okL (h p : ByteArray) : Bool := decide (h.size ≤ p.size) && ((p.extract 0 h.size).toList == h.toList) && digB (p.extract h.size p.size)
def laysOk : List ByteArray → Bool
  | [] => false
  | [q] => emp q
  | q :: q' :: qs => okL layH q && laysOk (q' :: qs)
def laysOf : List ByteArray → List ByteArray
  | [] => []
  | [_] => []
  | q :: q' :: qs => q.extract 6 q.size :: laysOf (q' :: qs)
def rmV : List ByteArray → ByteArray × List ByteArray × Int
  | [] => (⟨#[]⟩, [], 1)
  | p :: qs => if okL cfgH p && laysOk qs then (if 1 ≤ (laysOf qs).length ∧ (laysOf qs).length ≤ 40 then (p.extract 7 p.size, laysOf qs, 0) else (⟨#[]⟩, [], 2)) else (⟨#[]⟩, [], 1)
theorem laysOk_cons (q : ByteArray) (qs : List ByteArray) (h : qs ≠ []) : laysOk (q :: qs) = (okL layH q && laysOk qs) := by
  cases qs with
  | nil => exact absurd rfl h
  | cons a b => rfl
theorem laysOf_cons (q : ByteArray) (qs : List ByteArray) (h : qs ≠ []) : laysOf (q :: qs) = q.extract 6 q.size :: laysOf qs := by
  cases qs with
  | nil => exact absurd rfl h
  | cons a b => rfl
theorem laysOf_dig (qs : List ByteArray) (h : laysOk qs = true) : ∀ l ∈ laysOf qs, digB l = true := by
  induction qs with
  | nil => simp [laysOf]
  | cons q qs ih =>
    by_cases hq : qs = []
    · subst hq; simp [laysOf]
    · rw [laysOk_cons q qs hq] at h
      rw [laysOf_cons q qs hq]
      simp at h
      intro l hl
      rcases List.mem_cons.1 hl with rfl | hl
      · have := h.1; unfold okL at this; simp at this; exact this.2
      · exact ih h.2 l hl
theorem laysOf_len (qs : List ByteArray) : (laysOf qs).length = qs.length - 1 := by
  induction qs with
  | nil => rfl
  | cons q qs ih =>
    by_cases hq : qs = []
    · subst hq; rfl
    · rw [laysOf_cons q qs hq, List.length_cons, ih, List.length_cons]
      have : 0 < qs.length := List.length_pos_iff.2 hq
      omega
theorem laysOk_last (qs : List ByteArray) (h : laysOk qs = true) : ∃ (hk : qs.length - 1 < qs.length), emp (qs[qs.length - 1]'hk) = true := by
  induction qs with
  | nil => simp [laysOk] at h
  | cons q qs ih =>
    by_cases hq : qs = []
    · subst hq; exact ⟨by simp, by simpa [laysOk] using h⟩
    · rw [laysOk_cons q qs hq] at h
      simp at h
      obtain ⟨hk, he⟩ := ih h.2
      have hp : 0 < qs.length := List.length_pos_iff.2 hq
      refine ⟨by simp, ?_⟩
      simp only [List.length_cons]
      have e : qs.length + 1 - 1 = (qs.length - 1) + 1 := by omega
      rw [show (q :: qs)[qs.length + 1 - 1]'(by simp) = qs[qs.length - 1] from by simp only [e, List.getElem_cons_succ]]
      exact he
/-- The text's first line and the rest, at the first newline. -/
theorem cutB_at (s : ByteArray) (j : Nat) (hj : fd 10 10 s.data.toList = j) (hlt : j < s.size) : cutB 10 s = s.extract 0 j :: cutB 10 (s.extract (j + 1) s.size) := by
  have hl : j < s.data.toList.length := by rw [len_data]; exact hlt
  have e : s.data.toList = s.data.toList.take j ++ s.data.toList[j] :: s.data.toList.drop (j + 1) := by
    have := mid_cons s.data.toList 0 j hl (Nat.zero_le _)
    simpa using this
  unfold cutB
  conv => lhs; rw [e]
  rw [splt_at 10 _ _ _ (by have := fd_at 10 10 s.data.toList (by rw [hj]; exact hl); simp only [hj] at this; omega) (fun x hx => by
    obtain ⟨i, hi, rfl⟩ := List.getElem_of_mem hx
    rw [List.length_take] at hi
    rw [List.getElem_take]
    have := fd_ahead 10 10 s.data.toList i (by omega) (by omega)
    omega), List.map_cons, ext_mid, ext_mid]
  simp only [List.drop_zero, Nat.sub_zero, toB_list]
  rw [List.take_of_length_le (show (s.data.toList.drop (j + 1)).length ≤ s.size - (j + 1) from by rw [List.length_drop, len_data]; omega)]
theorem cutB_end (s : ByteArray) (hj : s.size ≤ fd 10 10 s.data.toList) : cutB 10 s = [s] := by
  unfold cutB
  rw [splt_end 10 _ (fun x hx => by
    obtain ⟨i, hi, rfl⟩ := List.getElem_of_mem hx
    have := fd_ahead 10 10 s.data.toList i (by rw [len_data] at hi; omega) hi
    omega)]
  rfl
theorem cutB_ne (s : ByteArray) : cutB 10 s ≠ [] := by
  unfold cutB
  obtain ⟨h, t, e⟩ := splt_ne 10 s.data.toList
  rw [e]
  simp
theorem cutB_emp (s : ByteArray) (h : emp s = true) : cutB 10 s = [⟨#[]⟩] := by
  rw [emp_eq h]; rfl
end Plain
end Go.Proofs.YtjiclgcohpkkjaaGreatDoor


/- Commands that are formed, as plain mathematics; how two of them are compared. -/
namespace Go.Proofs.YtjiclgcohpkkjaaGreatDoor
open Go.RowKit Plain
set_option linter.unusedVariables false

namespace Plain
def numC (n : Int) : Bool := decide (0 ≤ n) && decide (n ≤ 1000000000000)
def nilB (s : ByteArray) : Bool := decide (s.toList = [])
def manK (t : ByteArray) : Bool := decide ((rmV (cutB 10 t)).2.2 = 0)
/-- What the fields of an op must be. -/
def fldB (op : Int) (rp tg dg tx : ByteArray) : Bool :=
  if op = 1 ∨ op = 7 then ((nilB rp && nilB tg) && nilB tx) && digB dg
  else if op = 2 then ((nilB rp && nilB tg) && nilB dg) && manK tx
  else if op = 3 then nilB tx && ((repoB rp && tagB tg) && digB dg)
  else if op = 4 then (nilB tx && nilB dg) && (repoB rp && tagB tg)
  else if op = 5 ∨ op = 6 then ((nilB rp && nilB tg) && nilB tx) && nilB dg
  else false
def fmB (ss sr op : Int) (rp tg dg tx : ByteArray) : Bool := (numC ss && numC sr) && fldB op rp tg dg tx
def eqT (a b : ByteArray) : Bool := a.toList == b.toList
theorem eqT_self (a : ByteArray) : eqT a a = true := by unfold eqT; simp
theorem eqT_nil (a : ByteArray) : eqT a ⟨#[]⟩ = nilB a := by unfold eqT nilB; rw [ByteArray.toList_eq ⟨#[]⟩]; rw [Bool.eq_iff_iff]; simp
def eqC (rp tg dg tx rp' tg' dg' tx' : ByteArray) : Bool := eqT rp rp' && (eqT tg tg' && (eqT dg dg' && eqT tx tx'))
end Plain

end Go.Proofs.YtjiclgcohpkkjaaGreatDoor

/- What is read of a command's bytes, as plain mathematics. -/
namespace Go.Proofs.YtjiclgcohpkkjaaGreatDoor
open Go.RowKit Plain
set_option linter.unusedVariables false

namespace Plain
theorem tkGo_shift (s : ByteArray) (p : Nat) (hp : p ≤ s.size) : ∀ f i n, tkGo (s.extract p s.size) 0 f i n = tkGo s p f i n := by
  intro f
  induction f with
  | zero => intro i n; rfl
  | succ f ih =>
    intro i n
    have hz : (s.extract p s.size).size = s.size - p := by rw [ByteArray.size_extract]; omega
    by_cases h : p + i < s.size
    · have h0 : 0 + i < (s.extract p s.size).size := by omega
      have he : (s.extract p s.size)[0 + i].toNat = s[p + i].toNat := by
        rw [ByteArray.getElem_extract]
        simp
      by_cases hc : s[p + i].toNat < 128
      · by_cases hb : (s[p + i].toNat = 0 ∧ 0 < i) ∨ 1000000000000 < n + s[p + i].toNat % 128 * 128 ^ i
        · rw [tkGo_bad _ _ _ _ _ h hc hb, tkGo_bad _ _ _ _ _ h0 (by rw [he]; exact hc) (by rw [he]; exact hb)]
        · rw [tkGo_good _ _ _ _ _ h hc hb, tkGo_good _ _ _ _ _ h0 (by rw [he]; exact hc) (by rw [he]; exact hb), he]
      · rw [tkGo_more _ _ _ _ _ h hc, tkGo_more _ _ _ _ _ h0 (by rw [he]; exact hc), he, ih]
    · rw [tkGo_end _ _ _ _ _ h, tkGo_end _ _ _ _ _ (by omega)]
theorem tkN_shift (s : ByteArray) (p : Nat) (hp : p ≤ s.size) : tkN (s.extract p s.size) 0 = tkN s p := tkGo_shift s p hp 6 0 0
theorem tkT_shift (s : ByteArray) (p : Nat) (hp : p ≤ s.size) : tkT (s.extract p s.size) 0 = tkT s p := by
  have hz : (s.extract p s.size).size = s.size - p := by rw [ByteArray.size_extract]; omega
  unfold tkT
  rw [tkN_shift s p hp, hz]
  cases h : tkN s p with
  | none => rfl
  | some x =>
    obtain ⟨v, l⟩ := x
    have := tkN_le h
    by_cases h2 : v ≤ 20000 ∧ p + l + v ≤ s.size
    · show (if _ then _ else _) = if _ then _ else _
      rw [if_pos h2, if_pos (by omega)]
    · show (if _ then _ else _) = if _ then _ else _
      rw [if_neg h2, if_neg (by omega)]
theorem tkT_le {s : ByteArray} {p l v : Nat} (h : tkT s p = some (l, v)) : p + l + v ≤ s.size ∧ v ≤ 20000 := by
  unfold tkT at h
  cases hn : tkN s p with
  | none => rw [hn] at h; simp at h
  | some x =>
    obtain ⟨v', l'⟩ := x
    rw [hn] at h
    simp at h
    omega

/-- The number at a place, and the place behind it; the same of a text. -/
def stp (s : ByteArray) (p : Nat) : Option (Int × Nat) := (tkN s p).map fun x => ((x.1 : Int), p + x.2)
def txp (s : ByteArray) (p : Nat) : Option (ByteArray × Nat) := (tkT s p).map fun x => (s.extract (p + x.1) (p + x.1 + x.2), p + x.1 + x.2)
/-- One thing more is read: the flag f' behind it, from the flag f ahead of it. -/
def MoR {α : Type} (o : Option (α × Nat)) (p' : Nat) (f f' : Bool) (v : α) : Prop := (f' = true ∧ (f = true ∨ o = none)) ∨ (f' = false ∧ f = false ∧ o = some (v, p'))
def stN {α : Type} (s : ByteArray) (S : Option (α × Nat)) : Option ((α × Int) × Nat) := S.bind fun x => (stp s x.2).map fun y => ((x.1, y.1), y.2)
def stT {α : Type} (s : ByteArray) (S : Option (α × Nat)) : Option ((α × ByteArray) × Nat) := S.bind fun x => (txp s x.2).map fun y => ((x.1, y.1), y.2)
/-- So much has been read: nothing when the flag is up. -/
def HasR {α : Type} (S : Option (α × Nat)) (f : Bool) (a : α) (p : Nat) : Prop := (f = true ∧ S = none) ∨ (f = false ∧ S = some (a, p))
theorem HasR.num {α : Type} {s : ByteArray} {S : Option (α × Nat)} {f f' : Bool} {a : α} {p p' : Nat} {v : Int} (h : HasR S f a p) (m : MoR (stp s p) p' f f' v) : HasR (stN s S) f' (a, v) p' := by
  unfold HasR stN at *
  rcases h with ⟨rfl, rfl⟩ | ⟨rfl, rfl⟩
  · rcases m with ⟨rfl, _⟩ | ⟨_, h, _⟩
    · exact .inl ⟨rfl, rfl⟩
    · cases h
  · rcases m with ⟨rfl, h | h⟩ | ⟨rfl, _, h⟩
    · cases h
    · exact .inl ⟨rfl, by simp [h]⟩
    · exact .inr ⟨rfl, by simp [h]⟩
theorem HasR.txt {α : Type} {s : ByteArray} {S : Option (α × Nat)} {f f' : Bool} {a : α} {p p' : Nat} {v : ByteArray} (h : HasR S f a p) (m : MoR (txp s p) p' f f' v) : HasR (stT s S) f' (a, v) p' := by
  unfold HasR stT at *
  rcases h with ⟨rfl, rfl⟩ | ⟨rfl, rfl⟩
  · rcases m with ⟨rfl, _⟩ | ⟨_, h, _⟩
    · exact .inl ⟨rfl, rfl⟩
    · cases h
  · rcases m with ⟨rfl, h | h⟩ | ⟨rfl, _, h⟩
    · cases h
    · exact .inl ⟨rfl, by simp [h]⟩
    · exact .inr ⟨rfl, by simp [h]⟩
theorem HasR.start : HasR (some ((), 0)) false () 0 := .inr ⟨rfl, rfl⟩
def rd3 (s : ByteArray) : Option ((((Unit × Int) × Int) × Int) × Nat) := stN s (stN s (stN s (some ((), 0))))
def rd7 (s : ByteArray) : Option ((((((((Unit × Int) × Int) × Int) × ByteArray) × ByteArray) × ByteArray) × ByteArray) × Nat) := stT s (stT s (stT s (stT s (rd3 s))))
def cmdA (a b c : Int) (r t d x : ByteArray) : Value := .agg #[.int .i64 a, .int .i64 b, .int .i64 c, .string r, .string t, .string d, .string x]
def cmdZ : Value := .tuple #[cmdA 0 0 0 ⟨#[]⟩ ⟨#[]⟩ ⟨#[]⟩ ⟨#[]⟩, .bool false]
/-- What ReadCmd answers: a, b, c, .. are what was read, where something was. -/
def cmdW (s : ByteArray) : Option ((((((((Unit × Int) × Int) × Int) × ByteArray) × ByteArray) × ByteArray) × ByteArray) × Nat) → Value
  | none => cmdZ
  | some (((((((((), a), b), c), r), t), d), x), p) => if p = s.size ∧ fmB a b c r t d x = true then .tuple #[cmdA a b c r t d x, .bool true] else cmdZ
def cmdV (s : ByteArray) : Value := cmdW s (rd7 s)
theorem cmdV_fail {s : ByteArray} {a b c : Int} {r t d x : ByteArray} {p : Nat} (h : HasR (rd7 s) true ((((((((), a), b), c), r), t), d), x) p) : cmdV s = cmdZ := by
  rcases h with ⟨_, h⟩ | ⟨h, _⟩
  · unfold cmdV; rw [h]; rfl
  · cases h
theorem cmdV_rest {s : ByteArray} {a b c : Int} {r t d x : ByteArray} {p : Nat} (h : HasR (rd7 s) false ((((((((), a), b), c), r), t), d), x) p) (hp : ¬ p = s.size) : cmdV s = cmdZ := by
  rcases h with ⟨h, _⟩ | ⟨_, h⟩
  · cases h
  · unfold cmdV cmdW; rw [h]; exact if_neg (fun k => hp k.1)
theorem cmdV_form {s : ByteArray} {a b c : Int} {r t d x : ByteArray} {p : Nat} (h : HasR (rd7 s) false ((((((((), a), b), c), r), t), d), x) p) (hp : fmB a b c r t d x = false) : cmdV s = cmdZ := by
  rcases h with ⟨h, _⟩ | ⟨_, h⟩
  · cases h
  · unfold cmdV cmdW; rw [h]; exact if_neg (fun k => by rw [hp] at k; cases k.2)
theorem cmdV_good {s : ByteArray} {a b c : Int} {r t d x : ByteArray} {p : Nat} (h : HasR (rd7 s) false ((((((((), a), b), c), r), t), d), x) p) (hp : p = s.size) (hf : fmB a b c r t d x = true) : cmdV s = .tuple #[cmdA a b c r t d x, .bool true] := by
  rcases h with ⟨h, _⟩ | ⟨_, h⟩
  · cases h
  · unfold cmdV cmdW; rw [h]; exact if_pos ⟨hp, hf⟩
/-- Texts that were read are short. -/
theorem txp_size {s : ByteArray} {p p' : Nat} {v : ByteArray} (h : txp s p = some (v, p')) : v.size ≤ 20000 := by
  unfold txp at h
  cases ht : tkT s p with
  | none => rw [ht] at h; simp at h
  | some x =>
    obtain ⟨l, n⟩ := x
    rw [ht] at h
    simp at h
    have := tkT_le ht
    rw [← h.1, ByteArray.size_extract]
    omega
theorem rest_nil (s : ByteArray) (p : Nat) (hp : p ≤ s.size) : (s.extract p s.size).toList = [] ↔ p = s.size := by
  rw [ByteArray.toList_eq]
  constructor
  · intro h
    have hz : (s.extract p s.size).size = s.size - p := by rw [ByteArray.size_extract]; omega
    have : (s.extract p s.size).data.toList.length = 0 := by rw [h]; rfl
    rw [Array.length_toList] at this
    have h2 : (s.extract p s.size).size = 0 := this
    omega
  · intro h
    subst h
    simp
end Plain
end Go.Proofs.YtjiclgcohpkkjaaGreatDoor


/- What is put is taken back: numbers and texts in bytes, as plain mathematics. -/
namespace Go.Proofs.YtjiclgcohpkkjaaGreatDoor.Plain
open Go Go.RowKit
set_option linter.unusedVariables false

theorem byte_val (n : Nat) (h : n < 256) : (UInt8.ofNat ((n : Int).toNat)).toNat = n := by
  rw [Int.toNat_natCast, UInt8.toNat_ofNat']
  omega

/-- Byte i of a string that begins with the list pre ++ cs. -/
theorem str_byte (cs : List Int) (t : ByteArray) (i : Nat) (hi : i < cs.length) (n : Nat) (hn : cs[i]? = some (n : Int)) (hb : n < 256) :
    ∃ h : i < (strOfNums cs ++ t).size, (strOfNums cs ++ t)[i].toNat = n := by
  have hs : (strOfNums cs).size = cs.length := strOfNums_size cs
  have h : i < (strOfNums cs ++ t).size := by rw [ByteArray.size_append]; omega
  refine ⟨h, ?_⟩
  rw [ByteArray.getElem_append_left (by omega)]
  have e : (strOfNums cs)[i]'(by omega) = UInt8.ofNat (cs[i]).toNat := by
    show (strOfNums cs).data[i]'(by simpa [strOfNums] using hi) = _
    simp [strOfNums]
  rw [e]
  have e2 : cs[i] = (n : Int) := by
    rw [List.getElem?_eq_getElem hi] at hn
    simpa using hn
  rw [e2]
  exact byte_val n hb

/-- The bytes of put are taken back, whatever stands ahead of them in pre. -/
theorem tk_put (f : Nat) : ∀ (m i N : Nat) (pre : List Int) (t : ByteArray), pre.length = i → m < 128 ^ (f + 1) → (i = 0 ∨ 0 < m) → N + m * 128 ^ i ≤ 1000000000000 →
    tkGo (strOfNums (pre ++ putL f m) ++ t) 0 (f + 1) i N = some (N + m * 128 ^ i, i + (putL f m).length) := by
  induction f with
  | zero =>
    intro m i N pre t hp hm h0 hN
    have hm' : m < 128 := by simpa using hm
    obtain ⟨h, hc⟩ := str_byte (pre ++ putL 0 m) t i (by simp [putL]; omega) m (by simp [putL, hp]) (by omega)
    rw [tkGo, dif_pos (by rw [Nat.zero_add]; exact h)]
    simp only [Nat.zero_add, hc]
    rw [if_pos hm', Nat.mod_eq_of_lt hm', if_neg (by omega)]
    simp [putL]
  | succ f ih =>
    intro m i N pre t hp hm h0 hN
    by_cases hs : m < 128
    · rw [putL_small _ _ hs]
      obtain ⟨h, hc⟩ := str_byte (pre ++ [(m : Int)]) t i (by simp; omega) m (by simp [hp]) (by omega)
      rw [tkGo, dif_pos (by rw [Nat.zero_add]; exact h)]
      simp only [Nat.zero_add, hc]
      rw [if_pos hs, Nat.mod_eq_of_lt hs, if_neg (by omega)]
      simp
    · rw [putL_big f m hs]
      obtain ⟨h, hc⟩ := str_byte (pre ++ ((m % 128 + 128 : Nat) : Int) :: putL f (m / 128)) t i (by simp; omega) (m % 128 + 128) (by simp [hp]) (by omega)
      rw [tkGo, dif_pos (by rw [Nat.zero_add]; exact h)]
      simp only [Nat.zero_add, hc]
      rw [if_neg (by omega), show (m % 128 + 128) % 128 = m % 128 from by omega]
      have e : N + m % 128 * 128 ^ i + m / 128 * 128 ^ (i + 1) = N + m * 128 ^ i := by
        have hd : m = m % 128 + 128 * (m / 128) := by omega
        have : m * 128 ^ i = m % 128 * 128 ^ i + m / 128 * 128 ^ (i + 1) := by
          conv => lhs; rw [hd]
          rw [Nat.add_mul, Nat.pow_succ]
          congr 1
          rw [Nat.mul_comm 128, Nat.mul_assoc, Nat.mul_comm 128 (128 ^ i)]
        omega
      have hih := ih (m / 128) (i + 1) (N + m % 128 * 128 ^ i) (pre ++ [((m % 128 + 128 : Nat) : Int)]) t (by simp [hp]) (by rw [Nat.pow_succ] at hm; exact Nat.div_lt_of_lt_mul (by rw [Nat.mul_comm]; exact hm)) (.inr (by omega)) (by rw [e]; exact hN)
      rw [List.append_assoc, List.singleton_append] at hih
      rw [hih, e]
      simp
      omega

theorem tkN_put (n : Nat) (t : ByteArray) (h : n ≤ 1000000000000) : tkN (putS n ++ t) 0 = some (n, (putS n).size) := by
  have e : putS (n : Int) = strOfNums (putL 5 n) := by unfold putS; rw [if_pos (by omega), Int.toNat_natCast]
  rw [e, strOfNums_size]
  have := tk_put 5 n 0 0 [] t rfl (by omega) (.inl rfl) (by omega)
  unfold tkN
  simpa using this

end Go.Proofs.YtjiclgcohpkkjaaGreatDoor.Plain

