/- The text of a message, as the specification builds it: plain mathematics. -/
import Derived.Test.YtanekbifdedmeaaGreatDoorGAJ
namespace Go.Proofs.YtanekbifdedmeaaGreatDoor.Plain
open Go.RowKit
set_option linter.unusedVariables false

def crcrT : ByteArray := ⟨#[13, 10, 13, 10]⟩
/-- A header more. -/
def stepR (s : ByteArray) (h : Hd) : ByteArray := s ++ h.1 ++ csT ++ h.2 ++ crT
def accR (ls : List Hd) : ByteArray := ls.foldl stepR ⟨#[]⟩
def restT (hs : List Hd) (bd : ByteArray) : ByteArray := accR hs ++ clT ++ decN bd.size ++ crcrT ++ bd
theorem accR_take (ls : List Hd) (k : Nat) (h : k < ls.length) : accR (ls.take (k + 1)) = stepR (accR (ls.take k)) ls[k] := by
  unfold accR
  rw [List.take_succ_eq_append_getElem h, List.foldl_append]
  rfl
theorem app_l (a b : ByteArray) : (a ++ b).data.toList = a.data.toList ++ b.data.toList := by simp
theorem stepR_l (s : ByteArray) (h : Hd) : (stepR s h).data.toList = s.data.toList ++ ((rowT csT h).data.toList ++ crT.data.toList) := by
  unfold stepR rowT
  simp only [app_l, List.append_assoc]
theorem accR_l (ls : List Hd) : (accR ls).data.toList = (ls.map fun h => (rowT csT h).data.toList ++ crT.data.toList).flatten := by
  have key : ∀ (ls : List Hd) (s : ByteArray), (ls.foldl stepR s).data.toList = s.data.toList ++ (ls.map fun h => (rowT csT h).data.toList ++ crT.data.toList).flatten := by
    intro ls
    induction ls with
    | nil => intro s; simp
    | cons h t ih =>
      intro s
      rw [List.foldl_cons, ih, stepR_l, List.map_cons, List.flatten_cons, List.append_assoc]
  have := key ls ⟨#[]⟩
  simpa [accR] using this
theorem accR_size (ls : List Hd) (hf : fitH ls) : (accR ls).size ≤ ls.length * 2010 := by
  have key : ∀ (ls : List Hd) (s : ByteArray), fitH ls → (ls.foldl stepR s).size ≤ s.size + ls.length * 2010 := by
    intro ls
    induction ls with
    | nil => intro s _; simp
    | cons h t ih =>
      intro s hf
      have h1 := ih (stepR s h) fun x hx => hf x (List.mem_cons_of_mem _ hx)
      have h2 := hf h (List.mem_cons_self ..)
      have h3 : (stepR s h).size ≤ s.size + 2010 := by
        unfold stepR
        rw [ByteArray.size_append, ByteArray.size_append, ByteArray.size_append, ByteArray.size_append]
        have e1 : csT.size = 2 := rfl
        have e2 : crT.size = 2 := rfl
        omega
      rw [List.foldl_cons, List.length_cons, Nat.add_mul]
      omega
  have h1 := key ls ⟨#[]⟩ hf
  have h2 : (⟨#[]⟩ : ByteArray).size = 0 := rfl
  unfold accR
  omega
theorem flip_sep (cr : List UInt8) (ls : List (List UInt8)) : (ls.map (cr ++ ·)).flatten ++ cr = cr ++ (ls.map (· ++ cr)).flatten := by
  induction ls with
  | nil => simp
  | cons x t ih =>
    rw [List.map_cons, List.flatten_cons, List.append_assoc, ih, List.map_cons, List.flatten_cons]
    simp only [List.append_assoc]
/-- The program's text of a message is the specification's. -/
theorem msg_rest (first : ByteArray) (hs : List Hd) (bd : ByteArray) : msgT first hs bd = first ++ crT ++ restT hs bd := by
  apply ByteArray.ext
  apply Array.toList_inj.1
  unfold msgT joinT
  rw [List.toList_toArray]
  have e1 : lsL (linesT first hs bd) = first.data.toList :: lsL (hs.map (rowT csT) ++ [clT ++ decN bd.size, ⟨#[]⟩, bd]) := by simp [lsL, linesT]
  rw [e1, Lib.join_cons]
  have e2 : lsL (hs.map (rowT csT) ++ [clT ++ decN bd.size, ⟨#[]⟩, bd]) = lsL (hs.map (rowT csT)) ++ [(clT ++ decN bd.size).data.toList, [], bd.data.toList] := by simp [lsL]
  rw [e2]
  unfold Lib.joinTail
  rw [List.map_append, List.flatten_append]
  have e3 := flip_sep crT.data.toList (lsL (hs.map (rowT csT)))
  have e4 : (lsL (hs.map (rowT csT))).map (· ++ crT.data.toList) = hs.map fun h => (rowT csT h).data.toList ++ crT.data.toList := by simp [lsL, Function.comp_def]
  rw [e4, ← accR_l] at e3
  have e5 : crcrT.data.toList = crT.data.toList ++ crT.data.toList := rfl
  unfold restT
  simp only [app_l, e5]
  have e6 : ([clT.data.toList ++ (decN bd.size).data.toList, [], bd.data.toList].map (crT.data.toList ++ ·)).flatten = crT.data.toList ++ (clT.data.toList ++ (decN bd.size).data.toList ++ (crT.data.toList ++ (crT.data.toList ++ bd.data.toList))) := by
    simp
  rw [e6]
  rw [← List.append_assoc (((lsL (hs.map (rowT csT))).map (crT.data.toList ++ ·)).flatten), e3]
  simp only [List.append_assoc]

end Go.Proofs.YtanekbifdedmeaaGreatDoor.Plain
