/- Texts of one kind, put together. -/
import Derived.Test.YtmienlnhbdbefaaGreatDoorRzE
import Derived.Test.YtmienlnhbdbefaaGreatDoorRzB
import Derived.Test.YtmienlnhbdbefaaGreatDoorRzH
import Derived.Test.YtmienlnhbdbefaaGreatDoorDzB
import Derived.Test.YtmienlnhbdbefaaGreatDoorRzL
import Derived.Test.YtmienlnhbdbefaaGreatDoorRzC
import Derived.Deep.RegionHeld3

/- Rows of copies, as the exact laws compare them. -/
namespace Go.Proofs.YtmienlnhbdbefaaGreatDoor
open Go.RowKit Plain
set_option linter.unusedVariables false

namespace Plain
/-- A blob that goes from one node to another. -/
structure Cpy where
  dig : ByteArray
  src : Int
  dst : Int
def cpyL (e : Cpy) : List Value := [.string e.dig, .int .i64 e.src, .int .i64 e.dst]
def goodC (e : Cpy) : Prop := e.dig.size ≤ maxLen ∧ (Lit.int .i64 e.src).wf = true ∧ (Lit.int .i64 e.dst).wf = true
end Plain
/-- Copies as elements. -/
def cpyE : Elem Cpy where
  E := 35
  S := 29
  n := 3
  bytes := 32
  zero := .agg #[.string ⟨#[]⟩, .int .i64 0, .int .i64 0]
  enc := fun e => [.string e.dig, .int .i64 e.src, .int .i64 e.dst]
  hund := Tryz.underlying29
  hinfo := by kernel_rfl
  hz := rfl
  hn := by decide
  hb := by decide
  hlen := fun _ => rfl
  hone := fun x u hu => by simp at hu; rcases hu with rfl | rfl | rfl <;> rfl

namespace Plain
def totC (fs : List Cpy) : Nat := (fs.map fun f => f.dig.size).sum
theorem totC_drop (fs : List Cpy) (k : Nat) (h : k < fs.length) : totC (fs.drop k) = (fs[k].dig.size) + totC (fs.drop (k + 1)) := by rw [totC, List.drop_eq_getElem_cons h, List.map_cons, List.sum_cons]; rfl
theorem totC_end (fs : List Cpy) (k : Nat) (h : fs.length ≤ k) : totC (fs.drop k) = 0 := by rw [List.drop_of_length_le h]; rfl
theorem totC_mem (fs : List Cpy) (f : Cpy) (h : f ∈ fs) : f.dig.size ≤ totC fs := by
  induction fs with
  | nil => simp at h
  | cons g t ih =>
    have e : totC (g :: t) = (g.dig.size) + totC t := by rw [totC, List.map_cons, List.sum_cons]; rfl
    rw [e]
    rcases List.mem_cons.1 h with rfl | h
    · omega
    · have := ih h; omega
theorem ArgAt.c {W : World} {a : Option Addr} {xs : List Cpy} (h : ArgAt 3 cpyL W a xs) (i : Nat) (hi : i < xs.length) : ∃ g o, a = some ⟨g, o, none⟩ ∧ g < W.heap.size ∧ W.cell? ⟨g, o + i * 3, none⟩ = some (.string xs[i].dig) ∧ W.cell? ⟨g, o + i * 3 + 1, none⟩ = some (.int .i64 xs[i].src) ∧ W.cell? ⟨g, o + i * 3 + 2, none⟩ = some (.int .i64 xs[i].dst) := by
  obtain ⟨g, o, e, hl, hc⟩ := h i hi
  exact ⟨g, o, e, hl, hc 0 (by decide), hc 1 (by decide), hc 2 (by decide)⟩
end Plain
theorem RowAt.cx {W : World} {a : Option Addr} {xs : List Cpy} (h : RowAt cpyE W a xs) (i : Nat) (hi : i < xs.length) : ∃ g, a = some ⟨g, 0, none⟩ ∧ g < W.heap.size ∧ W.cell? ⟨g, i * 3, none⟩ = some (.string xs[i].dig) ∧ W.cell? ⟨g, i * 3 + 1, none⟩ = some (.int .i64 xs[i].src) ∧ W.cell? ⟨g, i * 3 + 2, none⟩ = some (.int .i64 xs[i].dst) := by
  obtain ⟨g, e, hl, hc⟩ := h i hi
  exact ⟨g, e, hl, (hc 0 (by decide)).1, (hc 1 (by decide)).1, (hc 2 (by decide)).1⟩











end Go.Proofs.YtmienlnhbdbefaaGreatDoor

/- What moves when the nodes change, zs plain mathematics; and what the program's parts answer. -/
namespace Go.Proofs.YtmienlnhbdbefaaGreatDoor
open Go.RowKit Plain
set_option linter.unusedVariables false

namespace Plain
/-- The holders that were none. -/
def cmr (f : Int → Int) (bs zs : List Int) (K : Nat) : List Int := (hld f zs K).filter fun x => !decide (x ∈ hld f bs K)
def frm (f : Int → Int) (bs : List Int) : Int := (rk f bs).headD 0
def mv1 (bs zs : List Int) (K : Nat) (d : ByteArray) : List Cpy := (cmr (wt d) bs zs K).map fun x => ⟨d, frm (wt d) bs, x⟩
def mvs (bs zs : List Int) (K : Nat) (ds : List ByteArray) : List Cpy := ds.flatMap (mv1 bs zs K)
theorem mvs_take (bs zs : List Int) (K : Nat) (ds : List ByteArray) (i : Nat) (h : i < ds.length) : mvs bs zs K (ds.take (i + 1)) = mvs bs zs K (ds.take i) ++ mv1 bs zs K ds[i] := by
  unfold mvs
  rw [List.take_succ_eq_append_getElem h, List.flatMap_append]
  simp
theorem hld_len (f : Int → Int) (l : List Int) (K : Nat) : (hld f l K).length ≤ l.length := List.length_filter_le _ _
theorem mv1_len (bs zs : List Int) (K : Nat) (d : ByteArray) (h : zs.length ≤ 50) : (mv1 bs zs K d).length ≤ 50 := by
  unfold mv1 cmr
  rw [List.length_map]
  exact Nat.le_trans (List.length_filter_le _ _) (Nat.le_trans (hld_len _ _ _) h)
theorem mvs_len (bs zs : List Int) (K : Nat) (h : zs.length ≤ 50) : ∀ ds : List ByteArray, (mvs bs zs K ds).length ≤ 50 * ds.length
  | [] => by simp [mvs]
  | d :: r => by
    have h1 := mvs_len bs zs K h r
    have h2 := mv1_len bs zs K d h
    unfold mvs at h1 ⊢
    rw [List.flatMap_cons, List.length_append, List.length_cons]
    omega
theorem cmr_ok (f : Int → Int) (bs zs : List Int) (K : Nat) (h : okIds 0 zs = true) : okIds 0 (cmr f bs zs K) = true := okIds_filter _ _ 0 (hld_ok f zs K h)
theorem cmr_set (f : Int → Int) (bs zs : List Int) (K : Nat) : setN (hld f zs K) &&& (18446744073709551615 - setN (hld f bs K)) = setN (cmr f bs zs K) := by
  apply Nat.eq_of_testBit_eq
  intro i
  have hlt := setN_lt (hld f bs K)
  rw [Nat.testBit_and, show 18446744073709551615 - setN (hld f bs K) = 2 ^ 64 - (setN (hld f bs K) + 1) from by omega, Nat.testBit_two_pow_sub_succ (by omega), setN_bit, setN_bit, setN_bit]
  unfold cmr
  have e : decide ((i : Int) ∈ (hld f zs K).filter fun x => !decide (x ∈ hld f bs K)) = (decide ((i : Int) ∈ hld f zs K) && !decide ((i : Int) ∈ hld f bs K)) := by
    rw [Bool.eq_iff_iff]
    simp [List.mem_filter]
  rw [e]
  by_cases hi : i ≤ 50
  · have h1 : decide (i < 64) = true := decide_eq_true (by omega)
    rw [h1, decide_eq_true hi]
    cases decide (1 ≤ i) <;> cases decide ((i : Int) ∈ hld f zs K) <;> cases decide ((i : Int) ∈ hld f bs K) <;> rfl
  · rw [decide_eq_false hi]
    simp
def mvB (ds : List ByteArray) (bs zs : List Int) (k : Int) : Bool := setB ds && ((okIds 0 bs && okIds 0 zs) && kB k)
def mvL (ds : List ByteArray) (bs zs : List Int) (k : Int) : List Cpy := if mvB ds bs zs k then mvs bs zs k.toNat ds else []
theorem mvL_yes {ds : List ByteArray} {bs zs : List Int} {k : Int} (h : mvB ds bs zs k = true) : mvL ds bs zs k = mvs bs zs k.toNat ds := if_pos h
theorem mvL_no {ds : List ByteArray} {bs zs : List Int} {k : Int} (h : mvB ds bs zs k = false) : mvL ds bs zs k = [] := by unfold mvL; rw [h]; rfl
theorem mvL_len (ds : List ByteArray) (bs zs : List Int) (k : Int) : (mvL ds bs zs k).length ≤ 10000 := by
  unfold mvL
  split
  · rename_i h
    unfold mvB at h
    simp only [Bool.and_eq_true] at h
    have h1 := okIds_len zs 0 (by decide) h.2.1.2
    have h2 := mvs_len bs zs k.toNat (by omega) ds
    have h3 := (setB_all h.1).1
    omega
  · simp
def mkC3 (d : ByteArray) (fr : Int) (x : Int) : Cpy := ⟨d, fr, x⟩
end Plain
end Go.Proofs.YtmienlnhbdbefaaGreatDoor


/- Repair as plain mathematics: which nodes have a blob, what is to be copied, what is lost, what is spare. -/
namespace Go.Proofs.YtmienlnhbdbefaaGreatDoor
open Go.RowKit Plain
open Classical
set_option linter.unusedVariables false

namespace Plain
/-- Has the first node x the digest? -/
noncomputable def hasN : List Int → List (List ByteArray) → Int → ByteArray → Bool
  | n :: ns, h :: hs, x, d => if n = x then decide (d ∈ h) else hasN ns hs x d
  | _, _, _, _ => false
/-- The nodes that have a digest. -/
noncomputable def ownL (ns : List Int) (hs : List (List ByteArray)) (d : ByteArray) : List Int := ((ns.zip hs).filter fun p => decide (d ∈ p.2)).map Prod.fst
theorem ownL_cons (n : Int) (ns : List Int) (h : List ByteArray) (hs : List (List ByteArray)) (d : ByteArray) : ownL (n :: ns) (h :: hs) d = (if d ∈ h then [n] else []) ++ ownL ns hs d := by
  unfold ownL
  by_cases e : d ∈ h
  · simp [e]
  · simp [e]
theorem ownL_sub (d : ByteArray) : ∀ (ns : List Int) (hs : List (List ByteArray)) (x : Int), x ∈ ownL ns hs d → x ∈ ns
  | [], hs, x, h => by simp [ownL] at h
  | n :: ns, [], x, h => by simp [ownL] at h
  | n :: ns, h0 :: hs, x, h => by
    rw [ownL_cons] at h
    rcases List.mem_append.1 h with h | h
    · split at h
      · simp at h; simp [h]
      · simp at h
    · exact List.mem_cons_of_mem _ (ownL_sub d ns hs x h)
theorem hasN_own (d : ByteArray) : ∀ (ns : List Int) (hs : List (List ByteArray)) (x : Int), ns.Pairwise (· < ·) → hasN ns hs x d = decide (x ∈ ownL ns hs d)
  | [], hs, x, _ => by simp [hasN, ownL]
  | n :: ns, [], x, _ => by simp [hasN, ownL]
  | n :: ns, h :: hs, x, hp => by
    rw [List.pairwise_cons] at hp
    rw [hasN, ownL_cons]
    by_cases e : n = x
    · subst e
      rw [if_pos rfl]
      have hno : n ∉ ownL ns hs d := fun q => by have := hp.1 n (ownL_sub d ns hs n q); omega
      by_cases e2 : d ∈ h
      · simp [e2]
      · simp [e2, hno]
    · rw [if_neg e, hasN_own d ns hs x hp.2]
      by_cases e2 : d ∈ h
      · have hxn : ¬ x = n := fun q => e q.symm
        simp [e2, hxn]
      · simp [e2]
theorem ownL_filter (d : ByteArray) (ns : List Int) (hs : List (List ByteArray)) (hp : ns.Pairwise (· < ·)) : ownL ns hs d = ns.filter fun x => decide (x ∈ ownL ns hs d) := by
  induction ns generalizing hs with
  | nil => simp [ownL]
  | cons n ns ih =>
    rw [List.pairwise_cons] at hp
    cases hs with
    | nil => simp [ownL]
    | cons h hs =>
      have hno : n ∉ ownL ns hs d := fun q => by have := hp.1 n (ownL_sub d ns hs n q); omega
      have hih := ih hs hp.2
      rw [ownL_cons]
      have hf : ns.filter (fun x => decide (x ∈ (if d ∈ h then [n] else []) ++ ownL ns hs d)) = ns.filter fun x => decide (x ∈ ownL ns hs d) := by
        apply List.filter_congr
        intro x hx
        have hxn : x ≠ n := fun e => by subst e; have := hp.1 x hx; omega
        by_cases e2 : d ∈ h
        · simp [e2, hxn]
        · simp [e2]
      rw [List.filter_cons, hf, ← hih]
      by_cases e2 : d ∈ h
      · simp [e2]
      · simp [e2, hno]
theorem ownL_ok (d : ByteArray) (ns : List Int) (hs : List (List ByteArray)) (h : okIds 0 ns = true) : okIds 0 (ownL ns hs d) = true := by
  rw [ownL_filter d ns hs (okIds_lt ns 0 h).1]
  exact okIds_filter _ _ 0 h
theorem ownL_take (d : ByteArray) (ns : List Int) (hs : List (List ByteArray)) (p : Nat) (h1 : p < ns.length) (h2 : p < hs.length) : ownL (ns.take (p + 1)) (hs.take (p + 1)) d = ownL (ns.take p) (hs.take p) d ++ if d ∈ hs[p] then [ns[p]] else [] := by
  unfold ownL
  rw [List.take_succ_eq_append_getElem h1, List.take_succ_eq_append_getElem h2, List.zip_append (by rw [List.length_take, List.length_take]; omega), List.filter_append, List.map_append]
  congr 1
  by_cases e : d ∈ hs[p]
  · simp [e]
  · simp [e]
/-- What the program's table says of a digest, while the row hs[p] is read up to j. -/
noncomputable def ownF (ns : List Int) (hs : List (List ByteArray)) (p j : Nat) (d : ByteArray) : Nat := setN (ownL (ns.take p) (hs.take p) d) ||| if d ∈ (hs.getD p []).take j then 2 ^ (ns.getD p 0).toNat else 0
theorem ownF_zero (ns : List Int) (hs : List (List ByteArray)) (p : Nat) (d : ByteArray) : ownF ns hs p 0 d = setN (ownL (ns.take p) (hs.take p) d) := by simp [ownF]
theorem setN_snoc (l : List Int) (x : Int) (h1 : 1 ≤ x) (h2 : x ≤ 50) : setN (l ++ [x]) = setN l ||| 2 ^ x.toNat := by
  unfold setN
  rw [setF_append]
  simp [setF, h1, h2]
theorem ownF_next (ns : List Int) (hs : List (List ByteArray)) (p : Nat) (h1 : p < ns.length) (h2 : p < hs.length) (hx : 1 ≤ ns[p] ∧ ns[p] ≤ 50) (d : ByteArray) : ownF ns hs p hs[p].length d = ownF ns hs (p + 1) 0 d := by
  rw [ownF_zero, ownL_take d ns hs p h1 h2]
  unfold ownF
  rw [List.getD, List.getD, List.getElem?_eq_getElem h1, List.getElem?_eq_getElem h2, Option.getD_some, Option.getD_some, List.take_length]
  by_cases e : d ∈ hs[p]
  · rw [if_pos e, if_pos e, setN_snoc _ _ hx.1 hx.2]
  · rw [if_neg e, if_neg e]; simp
theorem ownF_step (ns : List Int) (hs : List (List ByteArray)) (p j : Nat) (h1 : p < ns.length) (h2 : p < hs.length) (hj : j < hs[p].length) (d : ByteArray) :
    ownF ns hs p (j + 1) d = if d = hs[p][j] then ownF ns hs p j d ||| 2 ^ ns[p].toNat else ownF ns hs p j d := by
  unfold ownF
  rw [List.getD, List.getD, List.getElem?_eq_getElem h1, List.getElem?_eq_getElem h2, Option.getD_some, Option.getD_some, List.take_succ_eq_append_getElem hj]
  by_cases e : d = hs[p][j]
  · rw [if_pos e, if_pos (List.mem_append.2 (.inr (List.mem_singleton.2 e)))]
    by_cases e2 : d ∈ hs[p].take j
    · rw [if_pos e2, Nat.or_assoc, Nat.or_self]
    · rw [if_neg e2, Nat.or_zero]
  · rw [if_neg e]
    have : d ∈ hs[p].take j ++ [hs[p][j]] ↔ d ∈ hs[p].take j := by rw [List.mem_append, List.mem_singleton]; exact ⟨fun q => q.resolve_right e, .inl⟩
    by_cases e2 : d ∈ hs[p].take j
    · rw [if_pos e2, if_pos (this.2 e2)]
    · rw [if_neg e2, if_neg (fun q => e2 (this.1 q))]
theorem ownF_lt (ns : List Int) (hs : List (List ByteArray)) (p j : Nat) (h1 : p < ns.length) (hx : 1 ≤ ns[p] ∧ ns[p] ≤ 50) (d : ByteArray) : ownF ns hs p j d < 2251799813685248 := by
  unfold ownF
  rw [List.getD, List.getD, List.getElem?_eq_getElem h1, Option.getD_some]
  refine Nat.or_lt_two_pow (n := 51) (setN_lt _) ?_
  split
  · exact Nat.pow_lt_pow_right (by decide) (by omega)
  · decide
/-- The first of the ranks that has it; 0: none. -/
noncomputable def fstL (f : Int → Int) (ns own : List Int) : Int := ((rk f ns).find? fun x => decide (x ∈ own)).getD 0
theorem fstL_zero (f : Int → Int) (ns own : List Int) (h : okIds 0 ns = true) (hs : ∀ x ∈ own, x ∈ ns) : fstL f ns own = 0 ↔ own = [] := by
  unfold fstL
  constructor
  · intro h0
    cases own with
    | nil => rfl
    | cons y r =>
      exfalso
      cases hf : (rk f ns).find? fun x => decide (x ∈ y :: r) with
      | none =>
        have := List.find?_eq_none.1 hf y ((rk_mem f ns y).2 (hs y (by simp)))
        simp at this
      | some z =>
        rw [hf, Option.getD_some] at h0
        have hz := (rk_mem f ns z).1 (List.mem_of_find?_eq_some hf)
        have := (okIds_facts ns 0 (by decide) h).2 z hz
        omega
  · rintro rfl
    rw [List.find?_eq_none.2 (by simp)]
    rfl
/-- The holders that lack it. -/
noncomputable def lckL (f : Int → Int) (ns : List Int) (K : Nat) (own : List Int) : List Int := (hld f ns K).filter fun x => !decide (x ∈ own)
noncomputable def pl1 (f : Int → Int) (ns : List Int) (K : Nat) (own : List Int) (d : ByteArray) : List Cpy := if own = [] then [] else (lckL f ns K own).map fun x => ⟨d, fstL f ns own, x⟩
noncomputable def lo1 (own : List Int) (d : ByteArray) : List ByteArray := if own = [] then [d] else []
noncomputable def plS (ns : List Int) (hs : List (List ByteArray)) (K : Nat) (ds : List ByteArray) : List Cpy := ds.flatMap fun d => pl1 (wt d) ns K (ownL ns hs d) d
noncomputable def loS (ns : List Int) (hs : List (List ByteArray)) (ds : List ByteArray) : List ByteArray := ds.flatMap fun d => lo1 (ownL ns hs d) d
theorem plS_take (ns : List Int) (hs : List (List ByteArray)) (K : Nat) (ds : List ByteArray) (i : Nat) (h : i < ds.length) : plS ns hs K (ds.take (i + 1)) = plS ns hs K (ds.take i) ++ pl1 (wt ds[i]) ns K (ownL ns hs ds[i]) ds[i] := by
  unfold plS
  rw [List.take_succ_eq_append_getElem h, List.flatMap_append]
  simp
theorem loS_take (ns : List Int) (hs : List (List ByteArray)) (ds : List ByteArray) (i : Nat) (h : i < ds.length) : loS ns hs (ds.take (i + 1)) = loS ns hs (ds.take i) ++ lo1 (ownL ns hs ds[i]) ds[i] := by
  unfold loS
  rw [List.take_succ_eq_append_getElem h, List.flatMap_append]
  simp
theorem lckL_len (f : Int → Int) (ns : List Int) (K : Nat) (own : List Int) : (lckL f ns K own).length ≤ ns.length := Nat.le_trans (List.length_filter_le _ _) (hld_len _ _ _)
theorem lckL_ok (f : Int → Int) (ns : List Int) (K : Nat) (own : List Int) (h : okIds 0 ns = true) : okIds 0 (lckL f ns K own) = true := okIds_filter _ _ 0 (hld_ok f ns K h)
theorem pl1_len (f : Int → Int) (ns : List Int) (K : Nat) (own : List Int) (d : ByteArray) : (pl1 f ns K own d).length ≤ ns.length := by
  unfold pl1
  split
  · simp
  · rw [List.length_map]; exact lckL_len _ _ _ _
theorem lo1_len (own : List Int) (d : ByteArray) : (lo1 own d).length ≤ 1 := by unfold lo1; split <;> simp
theorem plS_len (ns : List Int) (hs : List (List ByteArray)) (K : Nat) (h : ns.length ≤ 50) : ∀ ds : List ByteArray, (plS ns hs K ds).length ≤ 50 * ds.length
  | [] => by simp [plS]
  | d :: r => by
    have h1 := plS_len ns hs K h r
    have h2 := pl1_len (wt d) ns K (ownL ns hs d) d
    unfold plS at h1 ⊢
    rw [List.flatMap_cons, List.length_append, List.length_cons]
    omega
theorem loS_len (ns : List Int) (hs : List (List ByteArray)) : ∀ ds : List ByteArray, (loS ns hs ds).length ≤ ds.length
  | [] => by simp [loS]
  | d :: r => by
    have h1 := loS_len ns hs r
    have h2 := lo1_len (ownL ns hs d) d
    unfold loS at h1 ⊢
    rw [List.flatMap_cons, List.length_append, List.length_cons]
    omega
theorem andn_set (A B : List Int) : setN A &&& (18446744073709551615 - setN B) = setN (A.filter fun x => !decide (x ∈ B)) := by
  apply Nat.eq_of_testBit_eq
  intro i
  have hlt := setN_lt B
  rw [Nat.testBit_and, show 18446744073709551615 - setN B = 2 ^ 64 - (setN B + 1) from by omega, Nat.testBit_two_pow_sub_succ (by omega), setN_bit, setN_bit, setN_bit]
  have e : decide ((i : Int) ∈ A.filter fun x => !decide (x ∈ B)) = (decide ((i : Int) ∈ A) && !decide ((i : Int) ∈ B)) := by
    rw [Bool.eq_iff_iff]
    simp [List.mem_filter]
  rw [e]
  by_cases hi : i ≤ 50
  · have h1 : decide (i < 64) = true := decide_eq_true (by omega)
    rw [h1, decide_eq_true hi]
    cases decide (1 ≤ i) <;> cases decide ((i : Int) ∈ A) <;> cases decide ((i : Int) ∈ B) <;> rfl
  · rw [decide_eq_false hi]
    simp
/-- Is all right that is handed in? -/
def rpB (ds : List ByteArray) (ns : List Int) (hs : List (List ByteArray)) (k : Int) : Bool := (setB ds && okIds 0 ns) && ((decide (hs.length = ns.length) && kB k) && hs.all setB)
noncomputable def plL (ds : List ByteArray) (ns : List Int) (hs : List (List ByteArray)) (k : Int) : List Cpy := if rpB ds ns hs k then plS ns hs k.toNat ds else []
noncomputable def loL (ds : List ByteArray) (ns : List Int) (hs : List (List ByteArray)) (k : Int) : List ByteArray := if rpB ds ns hs k then loS ns hs ds else []
theorem plL_yes {ds : List ByteArray} {ns : List Int} {hs : List (List ByteArray)} {k : Int} (h : rpB ds ns hs k = true) : plL ds ns hs k = plS ns hs k.toNat ds := if_pos h
theorem plL_no {ds : List ByteArray} {ns : List Int} {hs : List (List ByteArray)} {k : Int} (h : rpB ds ns hs k = false) : plL ds ns hs k = [] := by unfold plL; rw [h]; rfl
theorem loL_yes {ds : List ByteArray} {ns : List Int} {hs : List (List ByteArray)} {k : Int} (h : rpB ds ns hs k = true) : loL ds ns hs k = loS ns hs ds := if_pos h
theorem loL_no {ds : List ByteArray} {ns : List Int} {hs : List (List ByteArray)} {k : Int} (h : rpB ds ns hs k = false) : loL ds ns hs k = [] := by unfold loL; rw [h]; rfl
theorem rpB_parts {ds : List ByteArray} {ns : List Int} {hs : List (List ByteArray)} {k : Int} (h : rpB ds ns hs k = true) : setB ds = true ∧ okIds 0 ns = true ∧ hs.length = ns.length ∧ kB k = true ∧ ∀ x ∈ hs, setB x = true := by
  unfold rpB at h
  simp only [Bool.and_eq_true, decide_eq_true_eq, List.all_eq_true] at h
  exact ⟨h.1.1, h.1.2, h.2.1.1, h.2.1.2, h.2.2⟩
theorem plL_len (ds : List ByteArray) (ns : List Int) (hs : List (List ByteArray)) (k : Int) : (plL ds ns hs k).length ≤ 10000 := by
  unfold plL
  split
  · rename_i h
    obtain ⟨h1, h2, _⟩ := rpB_parts h
    have h3 := okIds_len ns 0 (by decide) h2
    have h4 := plS_len ns hs k.toNat (by omega) ds
    have h5 := (setB_all h1).1
    omega
  · simp
theorem loL_len (ds : List ByteArray) (ns : List Int) (hs : List (List ByteArray)) (k : Int) : (loL ds ns hs k).length ≤ 10000 := by
  unfold loL
  split
  · rename_i h
    obtain ⟨h1, _⟩ := rpB_parts h
    have h4 := loS_len ns hs ds
    have h5 := (setB_all h1).1
    omega
  · simp
/-- Is what node x has of d spare? -/
noncomputable def spB (ds : List ByteArray) (ns : List Int) (hs : List (List ByteArray)) (K : Nat) (x : Int) (d : ByteArray) : Bool := (decide (d ∈ ds) && !decide (x ∈ hld (wt d) ns K)) && (hld (wt d) ns K).all fun y => decide (y ∈ ownL ns hs d)
noncomputable def sp1 (ds : List ByteArray) (ns : List Int) (hs : List (List ByteArray)) (K : Nat) (x : Int) (l : List ByteArray) : List Cpy := (l.filter fun d => spB ds ns hs K x d).map fun d => ⟨d, x, x⟩
noncomputable def spS (ds : List ByteArray) (ns : List Int) (hs : List (List ByteArray)) (K p : Nat) : List Cpy := ((ns.zip hs).take p).flatMap fun q => sp1 ds ns hs K q.1 q.2
noncomputable def spL (ds : List ByteArray) (ns : List Int) (hs : List (List ByteArray)) (k : Int) : List Cpy := if rpB ds ns hs k then spS ds ns hs k.toNat ns.length else []
theorem spL_yes {ds : List ByteArray} {ns : List Int} {hs : List (List ByteArray)} {k : Int} (h : rpB ds ns hs k = true) : spL ds ns hs k = spS ds ns hs k.toNat ns.length := if_pos h
theorem spL_no {ds : List ByteArray} {ns : List Int} {hs : List (List ByteArray)} {k : Int} (h : rpB ds ns hs k = false) : spL ds ns hs k = [] := by unfold spL; rw [h]; rfl
theorem spS_next (ds : List ByteArray) (ns : List Int) (hs : List (List ByteArray)) (K p : Nat) (h1 : p < ns.length) (h2 : p < hs.length) : spS ds ns hs K (p + 1) = spS ds ns hs K p ++ sp1 ds ns hs K ns[p] hs[p] := by
  unfold spS
  have h3 : p < (ns.zip hs).length := by rw [List.length_zip]; omega
  rw [List.take_succ_eq_append_getElem h3, List.flatMap_append]
  simp
theorem sp1_next (ds : List ByteArray) (ns : List Int) (hs : List (List ByteArray)) (K : Nat) (x : Int) (l : List ByteArray) (j : Nat) (h : j < l.length) : sp1 ds ns hs K x (l.take (j + 1)) = sp1 ds ns hs K x (l.take j) ++ if spB ds ns hs K x l[j] then [⟨l[j], x, x⟩] else [] := by
  unfold sp1
  rw [List.take_succ_eq_append_getElem h, List.filter_append, List.map_append]
  congr 1
  by_cases e : spB ds ns hs K x l[j] = true
  · simp [e]
  · simp [e]
theorem sp1_len (ds : List ByteArray) (ns : List Int) (hs : List (List ByteArray)) (K : Nat) (x : Int) (l : List ByteArray) : (sp1 ds ns hs K x l).length ≤ l.length := by
  unfold sp1
  rw [List.length_map]
  exact List.length_filter_le _ _
theorem flat_bound {α β : Type} (f : α → List β) (m : Nat) : ∀ l : List α, (∀ x ∈ l, (f x).length ≤ m) → (l.flatMap f).length ≤ m * l.length
  | [], _ => by simp
  | x :: l, h => by
    have h1 := flat_bound f m l fun y hy => h y (by simp [hy])
    have h2 := h x (by simp)
    rw [List.flatMap_cons, List.length_append, List.length_cons, Nat.mul_add, Nat.mul_one]
    omega
theorem spS_len (ds : List ByteArray) (ns : List Int) (hs : List (List ByteArray)) (K p : Nat) (hh : ∀ x ∈ hs, x.length ≤ 200) (hn : ns.length ≤ 50) : (spS ds ns hs K p).length ≤ 10000 := by
  have h1 := flat_bound (fun q : Int × List ByteArray => sp1 ds ns hs K q.1 q.2) 200 ((ns.zip hs).take p) fun q hq => by
    have h3 := List.mem_of_mem_take hq
    have h4 := (List.of_mem_zip (a := q.1) (b := q.2) h3).2
    exact Nat.le_trans (sp1_len _ _ _ _ _ _) (hh _ h4)
  have h2 : ((ns.zip hs).take p).length ≤ 50 := by
    rw [List.length_take, List.length_zip]; omega
  unfold spS
  exact Nat.le_trans h1 (Nat.le_trans (Nat.mul_le_mul_left 200 h2) (by decide))
theorem spL_len (ds : List ByteArray) (ns : List Int) (hs : List (List ByteArray)) (k : Int) : (spL ds ns hs k).length ≤ 10000 := by
  unfold spL
  split
  · rename_i h
    obtain ⟨h1, h2, _, _, h6⟩ := rpB_parts h
    have h3 := okIds_len ns 0 (by decide) h2
    exact spS_len ds ns hs _ _ (fun x hx => (setB_all (h6 x hx)).1) (by omega)
  · simp
end Plain
end Go.Proofs.YtmienlnhbdbefaaGreatDoor


/- Repair by the specification: who has what, the first of the ranks that has it, the plan. -/
namespace Go.Proofs.YtmienlnhbdbefaaGreatDoor
open Go.RowKit Plain
open Classical
set_option linter.unusedVariables false

namespace Plain
theorem anyB_dec (ls : List ByteArray) (s : ByteArray) : anyB ls s = decide (s ∈ ls) := by
  rw [Bool.eq_iff_iff, decide_eq_true_eq]
  exact anyB_mem ls s
theorem hasN_drop (ns : List Int) (hs : List (List ByteArray)) (x : Int) (d : ByteArray) (k : Nat) (h1 : k < ns.length) (h2 : k < hs.length) : hasN (ns.drop k) (hs.drop k) x d = if ns[k] = x then decide (d ∈ hs[k]) else hasN (ns.drop (k + 1)) (hs.drop (k + 1)) x d := by
  rw [List.drop_eq_getElem_cons h1, List.drop_eq_getElem_cons h2, hasN]
end Plain

set_option maxRecDepth 10000 in
set_option maxHeartbeats 1000000 in
theorem l14Has_calls (a1 : Option Addr) (n1 c1 : Nat) (ns : List Int) (a2 : Option Addr) (n2 c2 : Nat) (hs : List (List ByteArray)) (x : Int) (d : ByteArray) (w : World) (h1 : IntsAt w a1 n1 ns) (h2 : HavAt w a2 n2 hs) (hl : hs.length = ns.length) :
    Calls Tryz.prog 16 #[.slice a1 n1 c1, .slice a2 n2 c2, .int .i64 x, .string d] w fun e w' => e = .returned (.bool (hasN ns hs x d)) ∧ w = w' := by
  have H1 := hide h1
  have H2 := hide h2
  have HL := hide hl
  have hbn := h1.bn
  have HN := hide h1.len
  have hnn : n2 = n1 := by rw [← h2.1, hl, h1.len]
  subst hnn
  obtain ⟨R, hR⟩ : ∃ R, hasN ns hs x d = R := ⟨_, rfl⟩
  have HR := hide (show hasN (ns.drop 0) (hs.drop 0) x d = R from hR)
  rw [hR]
  clear h1 h2 hl hR
  go_enter Tryz.func16, Tryz.ntmps16
  go_wp2_with fail
  go_loop [9] (fun i => ∃ k : Nat, i = .int .i64 k ∧ k ≤ n2 ∧ Hid (hasN (ns.drop k) (hs.drop k) x d = R)) (fun i => n2 - (intOf i).toNat)
  case atStart => exact ⟨0, rfl, by omega, HR⟩
  case round =>
    clear HR
    obtain ⟨k, rfl, hk, HO⟩ := hrel
    by_cases hkn : k < n2
    · have k1 : k < ns.length := by rw [unhide HN]; exact hkn
      have k2 : k < hs.length := by rw [unhide HL]; exact k1
      obtain ⟨g, e1, l1, p1, -⟩ := (unhide H1).row.ix k k1
      obtain ⟨g2, ai, ci, e2, l2, p2, ht⟩ := (unhide H2).2.2 k k2
      have hst := unhide HO
      rw [hasN_drop ns hs x d k k1 k2] at hst
      have HHS := hide (l1Has_calls ai hs[k].length ci hs[k] d w rfl (by have := ht.bn; omega) ht.row.strs)
      rw [anyB_dec] at HHS
      generalize decide (d ∈ hs[k]) = b at HHS hst
      generalize hs[k].length = m at p2 HHS
      generalize ns[k] = y at p1 hst
      have i0 : (0 : Int) ≤ (k : Int) := by omega
      have i1 : (k : Int) < (n2 : Int) := by omega
      subst e1 e2
      clear HO ht
      by_cases hy : y = x
      · subst hy
        rw [if_pos rfl] at hst
        subst hst
        go_wp2_with fail
        refine (unhide HHS).mono ?_
        rintro e w1 ⟨rfl, rfl⟩
        go_wp2_with fail
        go_ret
        exact ⟨rfl, rfl⟩
      · rw [if_neg hy] at hst
        have HST := hide hst
        clear hst
        go_wp2_with fail
        go_round
        case rel => exact ⟨k + 1, by go_num, by omega, HST⟩
        case measure => simp [intOf]; omega
    · obtain rfl : k = n2 := by omega
      have hO := unhide HO
      rw [List.drop_of_length_le (by rw [unhide HN]; exact Nat.le_refl _)] at hO
      have HX := hide (show R = false from hO.symm)
      clear hO HO
      go_wp2_with fail
      go_ret
      exact ⟨by rw [unhide HX]; rfl, rfl⟩

set_option maxRecDepth 10000 in
set_option maxHeartbeats 2000000 in
theorem l14Ok_calls (ad : Option Addr) (nd cd : Nat) (ds : List ByteArray) (a1 : Option Addr) (n1 c1 : Nat) (ns : List Int) (a2 : Option Addr) (n2 c2 : Nat) (hs : List (List ByteArray)) (k : Int) (w : World) (hd : TxtsAt w ad nd ds) (h1 : IntsAt w a1 n1 ns) (h2 : HavAt w a2 n2 hs) :
    Calls Tryz.prog 12 #[.slice ad nd cd, .slice a1 n1 c1, .slice a2 n2 c2, .int .i64 k] w fun e w' => e = .returned (.bool (rpB ds ns hs k)) ∧ Below w.heap.size w w' := by
  have HD := hide (l7Set_calls ad nd cd ds w hd)
  have HI := hide (fun (W : World) (hW : Below w.heap.size w W) => l9Ids_calls a1 n1 c1 ns 50 W (h1.below hW) (by decide))
  rw [ids50 n1 ns h1.len] at HI
  have HN := hide (fun W => l1In_calls k 1 7 W)
  rw [show (decide (1 ≤ k) && decide (k ≤ 7)) = kB k from rfl] at HN
  have hlen : decide (hs.length = ns.length) = decide (n2 = n1) := by rw [h2.1, h1.len]
  have hbn := h2.2.1
  have H2 := hide h2
  unfold rpB
  rw [hlen]
  generalize setB ds = b1 at HD
  generalize okIds 0 ns = b2 at HI
  generalize kB k = b3 at HN
  clear hd h1 h2 hlen
  cases b1 with
  | false =>
    clear HI HN H2
    go_enter Tryz.func12, Tryz.ntmps12
    go_wp2_with fail
    refine (unhide HD).mono ?_
    rintro e w1 ⟨rfl, hb1⟩
    have HB1 := hide hb1
    clear hb1
    go_wp2_with fail
    go_ret
    exact ⟨rfl, unhide HB1⟩
  | true =>
    cases b2 with
    | false =>
      clear HN H2
      go_enter Tryz.func12, Tryz.ntmps12
      go_wp2_with fail
      refine (unhide HD).mono ?_
      rintro e w1 ⟨rfl, hb1⟩
      have HB1 := hide hb1
      clear hb1
      go_wp2_with fail
      refine (unhide HI _ (unhide HB1)).mono ?_
      rintro e w2 ⟨rfl, hb2⟩
      have HB2 := hide (belOnD (unhide HB1) hb2)
      clear hb2
      go_wp2_with fail
      go_ret
      exact ⟨rfl, unhide HB2⟩
    | true =>
      by_cases hnn : n2 = n1
      case neg =>
        have hne : ¬ (n2 : Int) = (n1 : Int) := by omega
        rw [decide_eq_false hnn]
        clear HN H2
        go_enter Tryz.func12, Tryz.ntmps12
        go_wp2_with fail
        refine (unhide HD).mono ?_
        rintro e w1 ⟨rfl, hb1⟩
        have HB1 := hide hb1
        clear hb1
        go_wp2_with fail
        refine (unhide HI _ (unhide HB1)).mono ?_
        rintro e w2 ⟨rfl, hb2⟩
        have HB2 := hide (belOnD (unhide HB1) hb2)
        clear hb2
        go_wp2_with fail
        go_ret
        exact ⟨rfl, unhide HB2⟩
      case pos =>
        subst hnn
        rw [decide_eq_true rfl]
        cases b3 with
        | false =>
          clear H2
          go_enter Tryz.func12, Tryz.ntmps12
          go_wp2_with fail
          refine (unhide HD).mono ?_
          rintro e w1 ⟨rfl, hb1⟩
          have HB1 := hide hb1
          clear hb1
          go_wp2_with fail
          refine (unhide HI _ (unhide HB1)).mono ?_
          rintro e w2 ⟨rfl, hb2⟩
          have HB2 := hide (belOnD (unhide HB1) hb2)
          clear hb2
          go_wp2_with fail
          refine (unhide HN _).mono ?_
          rintro e w9 ⟨rfl, rfl⟩
          go_wp2_with fail
          go_ret
          exact ⟨rfl, unhide HB2⟩
        | true =>
          obtain ⟨R, hR⟩ : ∃ R, hs.all setB = R := ⟨_, rfl⟩
          have HR := hide (show (hs.drop 0).all setB = R from hR)
          have HLN := hide (unhide H2).1
          rw [hR]
          clear hR
          rw [show ((true && true) && ((true && true) && R)) = R from by cases R <;> rfl]
          go_enter Tryz.func12, Tryz.ntmps12
          go_wp2_with fail
          refine (unhide HD).mono ?_
          rintro e w1 ⟨rfl, hb1⟩
          have HB1 := hide hb1
          clear hb1
          go_wp2_with fail
          refine (unhide HI _ (unhide HB1)).mono ?_
          rintro e w2 ⟨rfl, hb2⟩
          have HB2 := hide (belOnD (unhide HB1) hb2)
          clear hb2
          go_wp2_with fail
          refine (unhide HN _).mono ?_
          rintro e w9 ⟨rfl, rfl⟩
          go_wp2_with fail
          clear HD HI HN HB1
          go_loopw [9] (fun s9 wr => ∃ (j : Nat), s9 = .int .i64 j ∧ j ≤ n2 ∧ Hid ((hs.drop j).all setB = R) ∧ Hid (Below w.heap.size w wr)) (fun s9 _ => n2 - (intOf s9).toNat)
          case atStart => exact ⟨0, rfl, by omega, HR, HB2⟩
          case round =>
            clear HR HB2
            obtain ⟨j, rfl, hj, HO, HB⟩ := hrel
            by_cases hjn : j < n2
            · have hjl : j < hs.length := by rw [unhide HLN]; exact hjn
              obtain ⟨g, ai, ci, e1, l1, p0, ht⟩ := ((unhide H2).below (unhide HB)).2.2 j hjl
              have HST := hide (show (setB hs[j] && (hs.drop (j + 1)).all setB) = R from by
                rw [← unhide HO, List.drop_eq_getElem_cons hjl, List.all_cons])
              have HS := hide (l7Set_calls ai hs[j].length ci hs[j] wr ht)
              generalize hs[j].length = m at p0 HS
              generalize setB hs[j] = b at HS HST
              subst e1
              have i0 : (0 : Int) ≤ (j : Int) := by omega
              have i1 : (j : Int) < (n2 : Int) := by omega
              clear HO ht
              cases b with
              | false =>
                have HX := hide (show R = false from by rw [← unhide HST]; rfl)
                go_wp2_with fail
                refine (unhide HS).mono ?_
                rintro e w3 ⟨rfl, hb3⟩
                have HB3 := hide (belOnD (unhide HB) hb3)
                clear hb3
                go_wp2_with fail
                go_ret
                exact ⟨by rw [unhide HX]; rfl, unhide HB3⟩
              | true =>
                have HX := hide (show (hs.drop (j + 1)).all setB = R from by rw [← unhide HST]; rfl)
                go_wp2_with fail
                refine (unhide HS).mono ?_
                rintro e w3 ⟨rfl, hb3⟩
                have HB3 := hide (belOnD (unhide HB) hb3)
                clear hb3
                go_wp2_with fail
                go_roundw
                case rel => exact ⟨j + 1, by go_num, by omega, HX, HB3⟩
                case measure => simp [intOf]; omega
            · obtain rfl : j = n2 := by omega
              have hO := unhide HO
              rw [List.drop_of_length_le (by rw [unhide HLN]; exact Nat.le_refl _)] at hO
              have HX := hide (show R = true from hO.symm)
              clear hO HO
              go_wp2_with fail
              go_ret
              exact ⟨by rw [unhide HX]; rfl, unhide HB⟩

end Go.Proofs.YtmienlnhbdbefaaGreatDoor

/- What is spare, by the specification. -/
namespace Go.Proofs.YtmienlnhbdbefaaGreatDoor
open Go.RowKit Plain
open Classical
set_option linter.unusedVariables false

set_option maxRecDepth 10000 in
set_option maxHeartbeats 8000000 in
theorem spec_Spare (ad : Option Addr) (nd cd : Nat) (ds : List ByteArray) (a1 : Option Addr) (n1 c1 : Nat) (ns : List Int) (a2 : Option Addr) (n2 c2 : Nat) (hs : List (List ByteArray)) (k : Int) (w : World) (hd : TxtsAt w ad nd ds) (h1 : IntsAt w a1 n1 ns) (h2 : HavAt w a2 n2 hs) :
    Calls Tryz.prog 6 #[.slice ad nd cd, .slice a1 n1 c1, .slice a2 n2 c2, .int .i64 k] w fun e w' => ∃ v, e = .returned (.tuple #[v, .bool (rpB ds ns hs k)]) ∧ OwnR cpyE w' w.heap.size v (spL ds ns hs k) ∧ Below w.heap.size w w' := by
  obtain ⟨W0, hW0⟩ : ∃ W0, W0 = w.alloc (.cells #[] 35) := ⟨_, rfl⟩
  have HB0 := hide (show Below w.heap.size w W0 from by rw [hW0]; exact bel1D _ _)
  have HO0 := hide (show OwnR cpyE W0 w.heap.size (.slice (some ⟨w.heap.size, 0, none⟩) 0 0) [] from by rw [hW0]; exact ownR_empty cpyE w w.heap.size (Nat.le_refl _))
  have HK := hide (l14Ok_calls ad nd cd ds a1 n1 c1 ns a2 n2 c2 hs k W0 (hd.below (unhide HB0)) (h1.below (unhide HB0)) (h2.below (unhide HB0)))
  have HW0 := hide hW0.symm
  clear hW0
  cases hB : rpB ds ns hs k with
  | false =>
    rw [hB] at HK
    rw [spL_no hB]
    clear hd h1 h2 hB
    go_enter Tryz.func6, Tryz.ntmps6
    go_wp2_with fail
    rw [unhide HW0]
    refine (unhide HK).mono ?_
    rintro e w1 ⟨rfl, hb1⟩
    have HB1 := hide (belOnD (unhide HB0) hb1)
    have HO1 := hide ((unhide HO0).keep hb1)
    clear hb1
    go_wp2_with fail
    exact bodyPost_ret (v := .tuple #[_, .bool false]) (by simp [results, Tryz.results6, go_sem]) rfl ⟨_, rfl, unhide HO1, unhide HB1⟩
  | true =>
    rw [hB] at HK
    rw [spL_yes hB]
    obtain ⟨q1, q2, q3, q4, q5⟩ := rpB_parts hB
    have hk := (kB_iff k).1 q4
    obtain ⟨K, rfl⟩ := Int.eq_ofNat_of_zero_le (show 0 ≤ k by omega)
    rw [Int.toNat_natCast]
    have hpw := (okIds_lt ns 0 q2).1
    have hnn : n2 = n1 := by rw [← h2.1, q3, h1.len]
    subst hnn
    have hb50 := okIds_len ns 0 (by decide) q2
    have HH := hide (fun (W : World) (hW : Below w.heap.size w W) (d : ByteArray) (h71 : d.size = 71) => l13Holders_calls d a1 n2 c1 ns K W (h1.below hW) q2 h71 (by omega) (by omega))
    have HHA := hide (fun (W : World) (hW : Below w.heap.size w W) (x : Int) (d : ByteArray) => (show Calls Tryz.prog 16 #[.slice a1 n2 c1, .slice a2 n2 c2, .int .i64 x, .string d] W fun e w' => e = .returned (.bool (decide (x ∈ ownL ns hs d))) ∧ W = w' from by
      rw [← hasN_own d ns hs x hpw]
      exact l14Has_calls a1 n2 c1 ns a2 n2 c2 hs x d W (h1.below hW) (h2.below hW) q3))
    have HDS := hide (fun (W : World) (hW : Below w.heap.size w W) (d : ByteArray) => (show Calls Tryz.prog 14 #[.slice ad nd cd, .string d] W fun e w' => e = .returned (.bool (decide (d ∈ ds))) ∧ W = w' from by
      rw [← anyB_dec]
      exact l1Has_calls ad nd cd ds d W hd.len (by have := hd.bn; omega) (hd.below hW).row.strs))
    have HNS := hide (fun (W : World) (hW : Below w.heap.size w W) => (h1.below hW).row)
    have HHV := hide h2
    have HSL := hide (fun (p : Nat) => spS_len ds ns hs K p (fun x hx => (setB_all (q5 x hx)).1) (by omega))
    have HS1 := hide (fun (x : Int) (l : List ByteArray) => sp1_len ds ns hs K x l)
    have HSB := hide (fun (p : Nat) (hp : p < hs.length) => setB_all (q5 hs[p] (by simp)))
    have HNX := hide (fun (p : Nat) (g1 : p < ns.length) (g2 : p < hs.length) => spS_next ds ns hs K p g1 g2)
    have HNJ := hide (fun (x : Int) (l : List ByteArray) (j : Nat) (h : j < l.length) => sp1_next ds ns hs K x l j h)
    have HHL := hide (fun (d : ByteArray) => (show (hld (wt d) ns K).length ≤ 50 from Nat.le_trans (hld_len _ _ _) (by omega)))
    have HLN := hide h2.1
    have HLM := hide h1.len
    have hn50 : n2 ≤ 50 := by have := h1.len; omega
    clear hd h1 h2 hB q1 q2 q4 q5 hk hpw hb50
    go_enter Tryz.func6, Tryz.ntmps6
    go_wp2_with fail
    rw [unhide HW0]
    refine (unhide HK).mono ?_
    rintro e w1 ⟨rfl, hb1⟩
    have HB1 := hide (belOnD (unhide HB0) hb1)
    have HO1 := hide ((unhide HO0).keep hb1)
    clear hb1 HK HB0 HO0 HW0
    go_wp2_with fail
    go_loopw [10, 11] (fun s10 s11 wr => ∃ (p : Nat), s11 = .int .i64 p ∧ p ≤ n2 ∧ w.heap.size ≤ wr.heap.size ∧ Hid (OwnR cpyE wr w.heap.size s10 (spS ds ns hs K p)) ∧ Hid (Below w.heap.size w wr)) (fun _ s11 _ => n2 - (intOf s11).toNat)
    case atStart => exact ⟨0, rfl, by omega, (unhide HB1).size, HO1, HB1⟩
    case round =>
      clear HO1 HB1
      obtain ⟨p, rfl, hp, hz, HO, HB⟩ := hrel
      by_cases hpn : p < n2
      · have hpl : p < hs.length := by rw [unhide HLN]; exact hpn
        have hpm : p < ns.length := by rw [unhide HLM]; exact hpn
        obtain ⟨g, ai, ci, e1, l1, p00, ht⟩ := (unhide HHV).2.2 p hpl
        have HPC := hide (fun (W : World) (hW : Below w.heap.size w W) => bclW hW l1 p00)
        have HTX := hide (fun (W : World) (hW : Below w.heap.size w W) => ht.row.below hW)
        have hsb := unhide HSB p hpl
        have HST := hide (unhide HNX p hpm hpl)
        have HND := hide (fun (W : World) (hW : Below w.heap.size w W) => (unhide HNS W hW).ix p hpm)
        generalize ns[p] = x at HST HND
        generalize hs[p] = xs at HPC HTX hsb HST
        obtain ⟨gn, en, -, -, -⟩ := unhide HND wr (unhide HB)
        have HNC := hide (fun (W : World) (hW : Below w.heap.size w W) => (show W.cell? ⟨gn, p, none⟩ = some (.int .i64 x) from by
          obtain ⟨g', e', -, c', -⟩ := unhide HND W hW
          rw [en] at e'
          cases e'
          exact c'))
        obtain ⟨L, hL⟩ : ∃ L, xs.length = L := ⟨_, rfl⟩
        rw [hL] at HPC hsb
        have HXL := hide hL
        have h200 := hsb.1
        have HALL := hide hsb.2
        have hPl := unhide HSL p
        have HPL := hide hPl
        have i0 : (0 : Int) ≤ (p : Int) := by omega
        have i1 : (p : Int) < (n2 : Int) := by omega
        subst e1 en
        clear hsb hL ht p00 HND hPl HSB HNX
        go_wp2_with fail
        go_loopw [10, 12] (fun s10 s12 wq => ∃ (j : Nat), s12 = .int .i64 j ∧ j ≤ L ∧ w.heap.size ≤ wq.heap.size ∧ Hid (OwnR cpyE wq w.heap.size s10 (spS ds ns hs K p ++ sp1 ds ns hs K x (xs.take j))) ∧ Hid (Below w.heap.size w wq)) (fun _ s12 _ => L - (intOf s12).toNat)
        case atStart => exact ⟨0, rfl, by omega, hz, hide (by simpa [sp1] using unhide HO), HB⟩
        case round =>
          clear HO HB hz
          obtain ⟨j, rfl, hj, hz, HO, HB⟩ := hrel
          have hql : (spS ds ns hs K p ++ sp1 ds ns hs K x (xs.take j)).length ≤ 10200 := by
            have h3 := unhide HS1 x (xs.take j)
            have h4 := unhide HPL
            rw [List.length_take] at h3
            rw [List.length_append]
            omega
          obtain ⟨q, hq⟩ : ∃ q, (spS ds ns hs K p ++ sp1 ds ns hs K x (xs.take j)).length = q := ⟨_, rfl⟩
          obtain ⟨a10, c10, hv10⟩ := (unhide HO).form
          rw [hq] at hv10 hql
          subst hv10
          have pc := unhide HPC wr (unhide HB)
          by_cases hjL : j < L
          · have hjl : j < xs.length := by rw [unhide HXL]; exact hjL
            obtain ⟨gx, ex, lx, px, -⟩ := (unhide HTX wr (unhide HB)).str j hjl
            have hd71 := digB_len71 (unhide HALL xs[j] (by simp))
            have HSJ := hide (unhide HNJ x xs j hjl)
            generalize xs[j] = d at px hd71 HSJ
            have HG1 := hide (unhide HH wr (unhide HB) d hd71)
            have HG2 := hide (fun (W : World) (hW : Below w.heap.size w W) => unhide HDS W hW d)
            have HG3 := hide (fun (W : World) (hW : Below w.heap.size w W) (y : Int) => unhide HHA W hW y d)
            have hHl := unhide HHL d
            unfold spB at HSJ
            generalize hld (wt d) ns K = now at HSJ HG1 hHl
            generalize ownL ns hs d = own at HSJ HG3
            generalize decide (d ∈ ds) = b1 at HSJ HG2
            generalize spS ds ns hs K p = P at HO HSJ hq HST
            generalize sp1 ds ns hs K x (xs.take j) = P2 at HO HSJ hq
            have HQ := hide hq
            have j0 : (0 : Int) ≤ (j : Int) := by omega
            have j1 : (j : Int) < (L : Int) := by omega
            subst ex
            clear hq
            go_wp2_with fail
            refine (unhide HG1).mono ?_
            rintro e w5 ⟨vN, rfl, oN, hb5⟩
            obtain ⟨aN, cN, hvN⟩ := oN.form
            obtain ⟨nN, hnN⟩ : ∃ nN, now.length = nN := ⟨_, rfl⟩
            rw [hnN] at hvN hHl
            subst hvN
            have HB5 := hide ((unhide HB).trans (hb5.mono hz))
            have HO5 := hide ((unhide HO).keep hb5)
            have HW5 := hide oN.at
            have hz5 : w.heap.size ≤ w5.heap.size := Nat.le_trans hz hb5.size
            have HNN := hide hnN
            have HIN := hide (l1Ints_calls aN nN cN now x w5 ⟨unhide HW5, hnN, by omega⟩)
            have pn := unhide HNC w5 (unhide HB5)
            have HD5 := hide (unhide HG2 w5 (unhide HB5))
            have HA5 := hide (unhide HG3 w5 (unhide HB5))
            have px5 := bclW hb5 lx px
            have pc5 := unhide HPC w5 (unhide HB5)
            generalize decide (x ∈ now) = b2 at HSJ HIN
            obtain ⟨b3, hb3⟩ : ∃ b3, (b1 && !b2) = b3 := ⟨_, rfl⟩
            rw [hb3] at HSJ
            clear oN hb5 HO HB HG1 HG2 HG3 px pc hnN
            go_wp2_with fail
            refine (unhide HD5).mono ?_
            rintro e w6 ⟨rfl, rfl⟩
            cases b1 with
            | false =>
              obtain rfl : b3 = false := hb3.symm
              clear hb3
              go_wp2_with fail
              go_loop [15, 16] (fun s15 s16 => ∃ (m : Nat) (A : Bool), s16 = .int .i64 m ∧ s15 = .bool A ∧ m ≤ nN ∧ Hid (A = (false && (now.take m).all fun y => decide (y ∈ own)))) (fun _ s16 => nN - (intOf s16).toNat)
              case atStart => exact ⟨0, _, rfl, rfl, by omega, hide (by simp)⟩
              case round =>
                obtain ⟨m, A, rfl, rfl, hm, HA⟩ := hrel
                by_cases hmn : m < nN
                · have hml : m < now.length := by rw [unhide HNN]; exact hmn
                  obtain ⟨gw, ew, lw, pw, -⟩ := (unhide HW5).ix m hml
                  have HAN := hide (show (false && (now.take (m + 1)).all fun y => decide (y ∈ own)) = (A && decide (now[m] ∈ own)) from by
                    rw [unhide HA, List.take_succ_eq_append_getElem hml, List.all_append, List.all_cons, List.all_nil, Bool.and_true, Bool.and_assoc])
                  have HC := hide (unhide HA5 now[m])
                  generalize now[m] = y at pw HAN HC
                  generalize decide (y ∈ own) = by_ at HAN HC
                  have m0 : (0 : Int) ≤ (m : Int) := by omega
                  have m1 : (m : Int) < (nN : Int) := by omega
                  subst ew
                  cases A with
                  | false =>
                    go_wp2_with fail
                    go_round
                    case rel => exact ⟨m + 1, _, by go_num, rfl, by omega, hide (by rw [unhide HAN]; rfl)⟩
                    case measure => simp [intOf]; omega
                  | true =>
                    go_wp2_with fail
                    refine (unhide HC).mono ?_
                    rintro e w7 ⟨rfl, rfl⟩
                    go_wp2_with fail
                    go_round
                    case rel => exact ⟨m + 1, _, by go_num, rfl, by omega, hide (by rw [unhide HAN]; rfl)⟩
                    case measure => simp [intOf]; omega
                · obtain rfl : m = nN := by omega
                  have hA := unhide HA
                  rw [List.take_of_length_le (by rw [unhide HNN]; exact Nat.le_refl _)] at hA
                  have HSK := hide (unhide HSJ)
                  rw [← hA] at HSK
                  clear hA HA
                  cases A with
                  | false =>
                    have HE := hide (show sp1 ds ns hs K x (xs.take (j + 1)) = P2 from by rw [unhide HSK]; simp)
                    clear HSK
                    go_wp2_with fail
                    go_roundw
                    case rel => exact ⟨j + 1, by go_num, by omega, hz5, hide (by rw [unhide HE]; exact unhide HO5), HB5⟩
                    case measure => simp [intOf]; omega
                  | true =>
                    have HE := hide (show P ++ sp1 ds ns hs K x (xs.take (j + 1)) = (P ++ P2) ++ [(⟨d, x, x⟩ : Cpy)] from by rw [unhide HSK, if_pos rfl, List.append_assoc])
                    have HLQ := hide (show ((P ++ P2) ++ [(⟨d, x, x⟩ : Cpy)]).length = q + 1 from by rw [List.length_append, unhide HQ]; rfl)
                    have hlen : (P ++ P2).length < 100000000 := by rw [unhide HQ]; omega
                    have HOd := hide (show OwnR cpyE w5.drew w.heap.size (.slice a10 q c10) (P ++ P2) from unhide HO5)
                    have hzd : w.heap.size ≤ w5.drew.heap.size := hz5
                    clear HSK
                    go_wp2_with fail
                    go_region_law (refine stepGG (e := cpyE) rfl _ _ rfl (w := w5.drew) (unhide HOd) (by simp [Act.eval]) (⟨d, x, x⟩ : Cpy) rfl _ (by simp [Act.eval]) rfl hlen hzd ?_; intro v' w8 hown8 hb8 hg8; obtain ⟨av', cv', hv'⟩ := hown8.form; rw [unhide HLQ] at hv'; subst hv')
                    all_goals (try go_wp2_with fail)
                    all_goals exact ⟨⟨j + 1, by go_num, by omega, Nat.le_trans hz5 hb8.size, hide (by rw [unhide HE]; exact hown8), hide ((belDrew (unhide HB5)).trans hb8)⟩, by simp [intOf]; omega⟩
            | true =>
              obtain rfl : b3 = !b2 := hb3.symm
              clear hb3
              go_wp2_with fail
              refine (unhide HIN).mono ?_
              rintro e w9 ⟨rfl, rfl⟩
              go_wp2_with fail
              go_loop [15, 16] (fun s15 s16 => ∃ (m : Nat) (A : Bool), s16 = .int .i64 m ∧ s15 = .bool A ∧ m ≤ nN ∧ Hid (A = (!b2 && (now.take m).all fun y => decide (y ∈ own)))) (fun _ s16 => nN - (intOf s16).toNat)
              case atStart => exact ⟨0, _, rfl, rfl, by omega, hide (by simp)⟩
              case round =>
                obtain ⟨m, A, rfl, rfl, hm, HA⟩ := hrel
                by_cases hmn : m < nN
                · have hml : m < now.length := by rw [unhide HNN]; exact hmn
                  obtain ⟨gw, ew, lw, pw, -⟩ := (unhide HW5).ix m hml
                  have HAN := hide (show (!b2 && (now.take (m + 1)).all fun y => decide (y ∈ own)) = (A && decide (now[m] ∈ own)) from by
                    rw [unhide HA, List.take_succ_eq_append_getElem hml, List.all_append, List.all_cons, List.all_nil, Bool.and_true, Bool.and_assoc])
                  have HC := hide (unhide HA5 now[m])
                  generalize now[m] = y at pw HAN HC
                  generalize decide (y ∈ own) = by_ at HAN HC
                  have m0 : (0 : Int) ≤ (m : Int) := by omega
                  have m1 : (m : Int) < (nN : Int) := by omega
                  subst ew
                  cases A with
                  | false =>
                    go_wp2_with fail
                    go_round
                    case rel => exact ⟨m + 1, _, by go_num, rfl, by omega, hide (by rw [unhide HAN]; rfl)⟩
                    case measure => simp [intOf]; omega
                  | true =>
                    go_wp2_with fail
                    refine (unhide HC).mono ?_
                    rintro e w7 ⟨rfl, rfl⟩
                    go_wp2_with fail
                    go_round
                    case rel => exact ⟨m + 1, _, by go_num, rfl, by omega, hide (by rw [unhide HAN]; rfl)⟩
                    case measure => simp [intOf]; omega
                · obtain rfl : m = nN := by omega
                  have hA := unhide HA
                  rw [List.take_of_length_le (by rw [unhide HNN]; exact Nat.le_refl _)] at hA
                  have HSK := hide (unhide HSJ)
                  rw [← hA] at HSK
                  clear hA HA
                  cases A with
                  | false =>
                    have HE := hide (show sp1 ds ns hs K x (xs.take (j + 1)) = P2 from by rw [unhide HSK]; simp)
                    clear HSK
                    go_wp2_with fail
                    go_roundw
                    case rel => exact ⟨j + 1, by go_num, by omega, hz5, hide (by rw [unhide HE]; exact unhide HO5), HB5⟩
                    case measure => simp [intOf]; omega
                  | true =>
                    have HE := hide (show P ++ sp1 ds ns hs K x (xs.take (j + 1)) = (P ++ P2) ++ [(⟨d, x, x⟩ : Cpy)] from by rw [unhide HSK, if_pos rfl, List.append_assoc])
                    have HLQ := hide (show ((P ++ P2) ++ [(⟨d, x, x⟩ : Cpy)]).length = q + 1 from by rw [List.length_append, unhide HQ]; rfl)
                    have hlen : (P ++ P2).length < 100000000 := by rw [unhide HQ]; omega
                    have HOd := hide (show OwnR cpyE w5.drew w.heap.size (.slice a10 q c10) (P ++ P2) from unhide HO5)
                    have hzd : w.heap.size ≤ w5.drew.heap.size := hz5
                    clear HSK
                    go_wp2_with fail
                    go_region_law (refine stepGG (e := cpyE) rfl _ _ rfl (w := w5.drew) (unhide HOd) (by simp [Act.eval]) (⟨d, x, x⟩ : Cpy) rfl _ (by simp [Act.eval]) rfl hlen hzd ?_; intro v' w8 hown8 hb8 hg8; obtain ⟨av', cv', hv'⟩ := hown8.form; rw [unhide HLQ] at hv'; subst hv')
                    all_goals (try go_wp2_with fail)
                    all_goals exact ⟨⟨j + 1, by go_num, by omega, Nat.le_trans hz5 hb8.size, hide (by rw [unhide HE]; exact hown8), hide ((belDrew (unhide HB5)).trans hb8)⟩, by simp [intOf]; omega⟩
          · obtain rfl : j = L := by omega
            have HOE := hide (show OwnR cpyE wr w.heap.size (.slice a10 q c10) (spS ds ns hs K (p + 1)) from by
              have h3 := unhide HO
              rw [List.take_of_length_le (by rw [unhide HXL]; exact Nat.le_refl _)] at h3
              rw [unhide HST]
              exact h3)
            clear HO hq
            go_wp2_with fail
            go_roundw
            case rel => exact ⟨p + 1, by go_num, by omega, hz, HOE, HB⟩
            case measure => simp [intOf]; omega
      · obtain rfl : p = n2 := by omega
        obtain ⟨np, hnp⟩ : ∃ np, (spS ds ns hs K p).length = np := ⟨_, rfl⟩
        obtain ⟨a8, c8, hv8⟩ := (unhide HO).form
        rw [hnp] at hv8
        subst hv8
        have HOF := hide (show OwnR cpyE wr w.heap.size (.slice a8 np c8) (spS ds ns hs K ns.length) from by rw [unhide HLM]; exact unhide HO)
        clear HO hnp
        go_wp2_with fail
        exact bodyPost_ret (v := .tuple #[.slice a8 np c8, .bool true]) (by simp [results, Tryz.results6, go_sem]) rfl ⟨_, rfl, unhide HOF, unhide HB⟩
end Go.Proofs.YtmienlnhbdbefaaGreatDoor

