/- A text cut at a sign: the specification's l3Cut by its contract. -/
import Derived.Test.YtmgjkomgpkoenaaGreatGen
import Derived.Test.YtmgjkomgpkoenaaGreatRefM
namespace Go.Proofs.YtmgjkomgpkoenaaGreat
open Go.RowKit Plain
set_option linter.unusedVariables false

namespace Plain
def splt (m : Nat) : List UInt8 → List (List UInt8)
  | [] => [[]]
  | c :: l => if c.toNat = m then [] :: splt m l else match splt m l with
    | [] => [[c]]
    | h :: t => (c :: h) :: t
theorem splt_ne (m : Nat) (l : List UInt8) : ∃ h t, splt m l = h :: t := by
  induction l with
  | nil => exact ⟨[], [], rfl⟩
  | cons c l ih =>
    obtain ⟨h, t, e⟩ := ih
    rw [splt, e]
    split
    · exact ⟨_, _, rfl⟩
    · exact ⟨_, _, rfl⟩
theorem splt_end (m : Nat) (a : List UInt8) (h : ∀ x ∈ a, x.toNat ≠ m) : splt m a = [a] := by
  induction a with
  | nil => rfl
  | cons c l ih => rw [splt, if_neg (h c (by simp)), ih (fun x hx => h x (by simp [hx]))]
theorem splt_at (m : Nat) (a b : List UInt8) (d : UInt8) (hd : d.toNat = m) (h : ∀ x ∈ a, x.toNat ≠ m) : splt m (a ++ d :: b) = a :: splt m b := by
  induction a with
  | nil => rw [List.nil_append, splt, if_pos hd]
  | cons c l ih => rw [List.cons_append, splt, if_neg (h c (by simp)), ih (fun x hx => h x (by simp [hx]))]
theorem splt_len (m : Nat) (l : List UInt8) : (splt m l).length ≤ l.length + 1 := by
  induction l with
  | nil => simp [splt]
  | cons c l ih =>
    obtain ⟨h, t, e⟩ := splt_ne m l
    rw [e] at ih
    rw [splt, e]
    split <;> simp at ih ⊢ <;> omega
def toB (l : List UInt8) : ByteArray := ⟨l.toArray⟩
theorem toB_list (l : List UInt8) : (toB l).data.toList = l := rfl
theorem toB_of (s : ByteArray) : toB s.data.toList = s := rfl
theorem ext_mid (s : ByteArray) (a b : Nat) : s.extract a b = toB ((s.data.toList.drop a).take (b - a)) := by
  apply ByteArray.ext
  rw [ByteArray.data_extract]
  apply Array.toList_inj.1
  rw [Array.toList_extract, List.extract_eq_take_drop]
  rfl
def cutB (m : Nat) (s : ByteArray) : List ByteArray := (splt m s.data.toList).map toB
theorem len_data (s : ByteArray) : s.data.toList.length = s.size := Array.length_toList
theorem mid_snoc (l : List UInt8) (F k : Nat) (h : k < l.length) (hF : F ≤ k) : (l.drop F).take (k + 1 - F) = (l.drop F).take (k - F) ++ [l[k]] := by
  rw [show k + 1 - F = (k - F) + 1 from by omega, List.take_succ_eq_append_getElem (by rw [List.length_drop]; omega)]
  congr 2
  rw [List.getElem_drop]
  congr 1
  omega
theorem mid_cons (l : List UInt8) (F k : Nat) (h : k < l.length) (hF : F ≤ k) : l.drop F = (l.drop F).take (k - F) ++ l[k] :: l.drop (k + 1) := by
  have e := (List.take_append_drop (k - F) (l.drop F)).symm
  rw [List.drop_drop, show F + (k - F) = k from by omega, List.drop_eq_getElem_cons h] at e
  exact e
theorem map_snoc {α β : Type} (f : α → β) (xs : List β) (a : α) (l : List α) : xs ++ (a :: l).map f = (xs ++ [f a]) ++ l.map f := by simp
def emp (t : ByteArray) : Bool := t.toList.isEmpty
theorem emp_size (t : ByteArray) : emp t = decide (t.size = 0) := by
  unfold emp
  rw [ByteArray.toList_eq, Bool.eq_iff_iff, List.isEmpty_iff]
  simp only [decide_eq_true_eq]
  rw [← len_data]
  exact List.length_eq_zero_iff.symm
theorem emp_eq {t : ByteArray} (h : emp t = true) : t = ⟨#[]⟩ := by
  rw [emp_size] at h
  have h0 : t.size = 0 := by simpa using h
  apply ByteArray.ext
  exact Array.eq_empty_of_size_eq_zero h0
end Plain

end Go.Proofs.YtmgjkomgpkoenaaGreat