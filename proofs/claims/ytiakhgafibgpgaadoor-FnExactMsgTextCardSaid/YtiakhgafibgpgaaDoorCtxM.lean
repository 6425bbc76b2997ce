/- Members as texts: the bytes. -/
import Derived.Test.YtiakhgafibgpgaaDoorConT
import Derived.Test.YtiakhgafibgpgaaDoorBld
namespace Go.Proofs.YtiakhgafibgpgaaDoor.Plain
open Go
set_option linter.unusedVariables false

def strL (l : List UInt8) : ByteArray := ⟨l.toArray⟩
theorem strL_add (a b : List UInt8) : strL a ++ strL b = strL (a ++ b) := by
  apply ByteArray.ext
  simp [strL]
theorem strL_size (a : List UInt8) : (strL a).size = a.length := by simp [strL, ByteArray.size]
/-- Numbers, each behind a blank. -/
def numL (ls : List Int) : List UInt8 := ls.flatMap fun n => 32 :: Lib.decDigits n.toNat
theorem numL_take (ls : List Int) (k : Nat) (h : k < ls.length) : numL (ls.take (k + 1)) = numL (ls.take k) ++ (32 :: Lib.decDigits ls[k].toNat) := by
  unfold numL
  rw [List.take_succ_eq_append_getElem h, List.flatMap_append]
  simp
theorem dec_len : ∀ n : Fin 51, (Lib.decDigits n.val).length ≤ 2 := by
  intro n
  rw [Lib.decDigits]
  split
  · simp
  · rw [Lib.decDigits, dif_pos (by omega)]
    simp
theorem numL_len (ls : List Int) (h : ∀ a ∈ ls, 1 ≤ a ∧ a ≤ 50) : (numL ls).length ≤ 3 * ls.length := by
  induction ls with
  | nil => simp [numL]
  | cons a l ih =>
    have h1 := ih (fun b hb => h b (by simp [hb]))
    have ha := h a (by simp)
    have h2 := dec_len ⟨a.toNat, by omega⟩
    unfold numL at h1 ⊢
    rw [List.flatMap_cons, List.length_append, List.length_cons, List.length_cons]
    simp only at h2
    omega
theorem numL_take_len (ls : List Int) (h : ∀ a ∈ ls, 1 ≤ a ∧ a ≤ 50) (k : Nat) : (numL (ls.take k)).length ≤ 3 * ls.length := by
  have h1 := numL_len (ls.take k) (fun a ha => h a (List.mem_of_mem_take ha))
  have h2 : (ls.take k).length ≤ ls.length := by rw [List.length_take]; omega
  omega
/-- The text of members. -/
def confL (v l : List Int) : List UInt8 := if confB v l = true then (118 :: numL v) ++ (if l.length = 0 then [] else 32 :: 108 :: numL l) else []
theorem confB_l {v l : List Int} (h : confB v l = true) : (∀ a ∈ v, 1 ≤ a ∧ a ≤ 50) ∧ (∀ a ∈ l, 1 ≤ a ∧ a ≤ 50) ∧ l.length ≤ 7 := by
  unfold confB at h
  simp only [Bool.and_eq_true, decide_eq_true_iff] at h
  refine ⟨fun a ha => ?_, fun a ha => ?_, h.2.2.2⟩
  · have := (okIds_facts v 0 (by decide) h.1.1).2 a ha; omega
  · have := (okIds_facts l 0 (by decide) h.1.2).2 a ha; omega
/-- What a digit more ahead makes of the digits. -/
def decF : Nat → Nat → List UInt8 → List UInt8
  | 0, _, o => o
  | f + 1, n, o => if n = 0 then o else decF f (n / 10) (UInt8.ofNat (48 + n % 10) :: o)
theorem decF_is : ∀ n : Fin 51, n.val ≠ 0 → decF 3 n.val [] = Lib.decDigits n.val := by
  intro n hn
  obtain ⟨n, h⟩ := n
  simp only at hn ⊢
  rw [Lib.decDigits]
  split
  · rename_i hl
    have h1 : n / 10 = 0 := by omega
    have h2 : n % 10 = n := by omega
    simp [decF, hn, h1, h2]
  · rename_i hl
    have h1 : n / 10 ≠ 0 := by omega
    have h2 : n / 10 / 10 = 0 := by omega
    have h3 : n / 10 % 10 = n / 10 := by omega
    rw [Lib.decDigits, dif_pos (by omega)]
    simp [decF, hn, h1, h2, h3]
end Go.Proofs.YtiakhgafibgpgaaDoor.Plain
