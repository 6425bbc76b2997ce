/- The text of a message, as the specification builds it: plain mathematics. -/
import Derived.Test.YtjjdeffmciknjaaDoorWrqI
namespace Go.Proofs.YtjjdeffmciknjaaDoor.Plain
open Go.RowKit
set_option linter.unusedVariables false

def crcrT : ByteArray := ⟨#[13, 10, 13, 10]⟩
def hcT : ByteArray := ⟨#[32, 72, 84, 84, 80, 47, 49, 46, 49, 13, 10]⟩
/-- A header more. -/
def stepR (s : ByteArray) (h : Hd) : ByteArray := s ++ h.1 ++ csT ++ h.2 ++ crT
def accR (ls : List Hd) : ByteArray := ls.foldl stepR ⟨#[]⟩
def restT (hs : List Hd) (bd : ByteArray) : ByteArray := accR hs ++ clT ++ decN bd.size ++ crcrT ++ bd
theorem accR_take (ls : List Hd) (k : Nat) (h : k < ls.length) : accR (ls.take (k + 1)) = stepR (accR (ls.take k)) ls[k] := by
  unfold accR
  rw [List.take_succ_eq_append_getElem h, List.foldl_append]
  rfl
theorem app_l (a b : ByteArray) : (a ++ b).data.toList = a.data.toList ++ b.data.toList := by simp
theorem stepR_l (s : ByteArray) (h : Hd) : (stepR s h).data.toList = s.data.toList ++ ((rowT csT h).data.toList ++ crT.data.toList) := by
  unfold stepR rowT
  simp only [app_l, List.append_assoc]
theorem accR_l (ls : List Hd) : (accR ls).data.toList = (ls.map fun h => (rowT csT h).data.toList ++ crT.data.toList).flatten := by
  have key : ∀ (ls : List Hd) (s : ByteArray), (ls.foldl stepR s).data.toList = s.data.toList ++ (ls.map fun h => (rowT csT h).data.toList ++ crT.data.toList).flatten := by
    intro ls
    induction ls with
    | nil => intro s; simp
    | cons h t ih =>
      intro s
      rw [List.foldl_cons, ih, stepR_l, List.map_cons, List.flatten_cons, List.append_assoc]
  have := key ls ⟨#[]⟩
  simpa [accR] using this
theorem accR_size (ls : List Hd) (hf : fitH ls) : (accR ls).size ≤ ls.length * 2010 := by
  have key : ∀ (ls : List Hd) (s : ByteArray), fitH ls → (ls.foldl stepR s).size ≤ s.size + ls.length * 2010 := by
    intro ls
    induction ls with
    | nil => intro s _; simp
    | cons h t ih =>
      intro s hf
      have h1 := ih (stepR s h) fun x hx => hf x (List.mem_cons_of_mem _ hx)
      have h2 := hf h (List.mem_cons_self ..)
      have h3 : (stepR s h).size ≤ s.size + 2010 := by
        unfold stepR
        rw [ByteArray.size_append, ByteArray.size_append, ByteArray.size_append, ByteArray.size_append]
        have e1 : csT.size = 2 := rfl
        have e2 : crT.size = 2 := rfl
        omega
      rw [List.foldl_cons, List.length_cons, Nat.add_mul]
      omega
  have h1 := key ls ⟨#[]⟩ hf
  have h2 : (⟨#[]⟩ : ByteArray).size = 0 := rfl
  unfold accR
  omega
theorem flip_sep (cr : List UInt8) (ls : List (List UInt8)) : (ls.map (cr ++ ·)).flatten ++ cr = cr ++ (ls.map (· ++ cr)).flatten := by
  induction ls with
  | nil => simp
  | cons x t ih =>
    rw [List.map_cons, List.flatten_cons, List.append_assoc, ih, List.map_cons, List.flatten_cons]
    simp only [List.append_assoc]
/-- The program's text of a message is the specification's. -/
theorem msg_rest (first : ByteArray) (hs : List Hd) (bd : ByteArray) : msgT first hs bd = first ++ crT ++ restT hs bd := by
  apply ByteArray.ext
  apply Array.toList_inj.1
  unfold msgT joinT
  rw [List.toList_toArray]
  have e1 : lsL (linesT first hs bd) = first.data.toList :: lsL (hs.map (rowT csT) ++ [clT ++ decN bd.size, ⟨#[]⟩, bd]) := by simp [lsL, linesT]
  rw [e1, Lib.join_cons]
  have e2 : lsL (hs.map (rowT csT) ++ [clT ++ decN bd.size, ⟨#[]⟩, bd]) = lsL (hs.map (rowT csT)) ++ [(clT ++ decN bd.size).data.toList, [], bd.data.toList] := by simp [lsL]
  rw [e2]
  unfold Lib.joinTail
  rw [List.map_append, List.flatten_append]
  have e3 := flip_sep crT.data.toList (lsL (hs.map (rowT csT)))
  have e4 : (lsL (hs.map (rowT csT))).map (· ++ crT.data.toList) = hs.map fun h => (rowT csT h).data.toList ++ crT.data.toList := by simp [lsL, Function.comp_def]
  rw [e4, ← accR_l] at e3
  have e5 : crcrT.data.toList = crT.data.toList ++ crT.data.toList := rfl
  unfold restT
  simp only [app_l, e5]
  have e6 : ([clT.data.toList ++ (decN bd.size).data.toList, [], bd.data.toList].map (crT.data.toList ++ ·)).flatten = crT.data.toList ++ (clT.data.toList ++ (decN bd.size).data.toList ++ (crT.data.toList ++ (crT.data.toList ++ bd.data.toList))) := by
    simp
  rw [e6]
  rw [← List.append_assoc (((lsL (hs.map (rowT csT))).map (crT.data.toList ++ ·)).flatten), e3]
  simp only [List.append_assoc]

def stepQ (k : Nat) (s : ByteArray) (h : Hd) : ByteArray := s ++ (if k = 0 then quT else amT) ++ h.1 ++ eqT1 ++ h.2
def accQ (s : ByteArray) (qs : List Hd) : Nat → ByteArray
  | 0 => s
  | k + 1 => stepQ k (accQ s qs k) (qs.getD k (⟨#[]⟩, ⟨#[]⟩))
theorem accQ_l (s : ByteArray) (x : Hd) (r : List Hd) : ∀ k, k ≤ r.length → (accQ s (x :: r) (k + 1)).data.toList = s.data.toList ++ (quT.data.toList ++ ((rowT eqT1 x).data.toList ++ Lib.joinTail amT.data.toList ((lsL (r.map (rowT eqT1))).take k))) := by
  intro k
  induction k with
  | zero =>
    intro _
    show (stepQ 0 s x).data.toList = _
    unfold stepQ rowT
    rw [if_pos rfl]
    simp only [app_l, List.take_zero]
    simp [Lib.joinTail]
  | succ k ih =>
    intro hk
    have h1 := ih (by omega)
    have hkl : k < r.length := by omega
    have hg : (x :: r).getD (k + 1) (⟨#[]⟩, ⟨#[]⟩) = r[k] := by simp [List.getD, hkl]
    show (stepQ (k + 1) (accQ s (x :: r) (k + 1)) ((x :: r).getD (k + 1) (⟨#[]⟩, ⟨#[]⟩))).data.toList = _
    rw [hg]
    unfold stepQ
    rw [if_neg (by omega)]
    have h2 := Lib.joinTail_take_succ amT.data.toList (lsL (r.map (rowT eqT1))) k (rowT eqT1 r[k]).data.toList (by simp [lsL, hkl])
    rw [h2]
    simp only [app_l, h1, rowT]
    simp only [List.append_assoc]
/-- The first line, as the specification builds it. -/
theorem first_acc (m p : ByteArray) (qs : List Hd) : firstT m p qs ++ crT = accQ (m ++ blT ++ p) qs qs.length ++ hcT := by
  apply ByteArray.ext
  apply Array.toList_inj.1
  have e1 : hcT.data.toList = blT.data.toList ++ htT.data.toList ++ crT.data.toList := rfl
  cases qs with
  | nil =>
    unfold firstT targT
    rw [if_pos List.length_nil]
    show _ = (m ++ blT ++ p ++ hcT).data.toList
    simp only [app_l, e1, List.append_assoc]
  | cons x r =>
    have h1 := accQ_l (m ++ blT ++ p) x r r.length (Nat.le_refl _)
    have e2 : (lsL (r.map (rowT eqT1))).take r.length = lsL (r.map (rowT eqT1)) := List.take_of_length_le (by simp [lsL])
    rw [e2] at h1
    unfold firstT targT
    rw [if_neg (by simp), List.length_cons]
    have e3 : (joinT ((x :: r).map (rowT eqT1)) amT).data.toList = (rowT eqT1 x).data.toList ++ Lib.joinTail amT.data.toList (lsL (r.map (rowT eqT1))) := by
      unfold joinT
      rw [List.toList_toArray, List.map_cons]
      exact Lib.join_cons _ _ _
    simp only [app_l, h1, e1, e3, List.append_assoc]
theorem accQ_size (s : ByteArray) (qs : List Hd) (hf : fitH qs) : ∀ k, k ≤ qs.length → (accQ s qs k).size ≤ s.size + k * 2010 := by
  intro k
  induction k with
  | zero => intro _; simp [accQ]
  | succ k ih =>
    intro hk
    have h1 := ih (by omega)
    have hkl : k < qs.length := by omega
    have hg : qs.getD k (⟨#[]⟩, ⟨#[]⟩) = qs[k] := by simp [List.getD, hkl]
    have h2 := hf qs[k] (List.getElem_mem hkl)
    show (stepQ k (accQ s qs k) (qs.getD k (⟨#[]⟩, ⟨#[]⟩))).size ≤ _
    rw [hg]
    unfold stepQ
    have e0 : (if k = 0 then quT else amT).size = 1 := by split <;> rfl
    have e1 : eqT1.size = 1 := rfl
    rw [ByteArray.size_append, ByteArray.size_append, ByteArray.size_append, ByteArray.size_append, Nat.add_mul]
    omega
end Go.Proofs.YtjjdeffmciknjaaDoor.Plain
