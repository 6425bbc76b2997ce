/- The library's cutting of a text at blanks is mine. -/
import Derived.Test.YtfjldlmdhemajaaDoorRdcM
import Derived.Lib.Split
import Derived.Lib.ParseIntB
namespace Go.Proofs.YtfjldlmdhemajaaDoor.Plain
open Go
set_option linter.unusedVariables false

theorem idx32 (l : List UInt8) : (Lib.index l [32] = -1 ∧ no32 l) ∨ ∃ a b, l = a ++ 32 :: b ∧ no32 a ∧ Lib.index l [32] = a.length := by
  induction l with
  | nil => exact .inl ⟨rfl, fun x hx => by simp at hx⟩
  | cons c l ih =>
    by_cases hc : c = 32
    · subst hc
      refine .inr ⟨[], l, rfl, fun x hx => by simp at hx, ?_⟩
      rw [Lib.index, if_pos (by simp)]
      rfl
    · have hp : ¬ ([32] : List UInt8).isPrefixOf (c :: l) = true := by simp; exact fun e => hc e.symm
      have h32 : c.toNat ≠ 32 := fun e => hc (UInt8.toNat_inj.1 e)
      rcases ih with ⟨h1, h2⟩ | ⟨a, b, rfl, h2, h3⟩
      · refine .inl ⟨by rw [Lib.index, if_neg hp, h1]; rfl, fun x hx => ?_⟩
        rcases List.mem_cons.1 hx with rfl | hx
        · exact h32
        · exact h2 x hx
      · refine .inr ⟨c :: a, b, rfl, fun x hx => ?_, ?_⟩
        · rcases List.mem_cons.1 hx with rfl | hx
          · exact h32
          · exact h2 x hx
        · rw [Lib.index, if_neg hp, h3, if_neg (by simp)]
          simp
theorem no32_count {l : List UInt8} (h : no32 l) : l.count 32 = 0 := List.count_eq_zero.2 (fun hx => h 32 hx rfl)
theorem splitK_splt : ∀ (k : Nat) (l : List UInt8), l.count 32 ≤ k → Lib.splitK [32] 0 k l = splt 32 l := by
  intro k
  induction k with
  | zero =>
    intro l h
    have hn : no32 l := fun x hx e => by
      have : (32 : UInt8) ∈ l := by rw [show (32 : UInt8) = x from UInt8.toNat_inj.1 e.symm]; exact hx
      have := List.count_pos_iff.2 this
      omega
    rw [Lib.splitK, splt_end 32 l hn]
  | succ k ih =>
    intro l h
    rcases idx32 l with ⟨h1, h2⟩ | ⟨a, b, rfl, h2, h3⟩
    · rw [Lib.splitK, h1, if_pos (by decide), splt_end 32 l h2]
    · rw [Lib.splitK, h3, if_neg (by simp), splt_at 32 a b 32 rfl h2]
      have hc : b.count 32 ≤ k := by
        rw [List.count_append, List.count_cons_self] at h
        omega
      have e1 : (a ++ 32 :: b).take ((a.length : Int).toNat + 0) = a := by simp
      have e2 : (a ++ 32 :: b).drop ((a.length : Int).toNat + ([32] : List UInt8).length) = b := by
        rw [Int.toNat_natCast, List.length_singleton, ← List.drop_drop, List.drop_left]
        rfl
      rw [e1, e2, ih b hc]
theorem count32 : ∀ (f : Nat) (l : List UInt8), l.length < f → l.count 32 ≤ Lib.countFrom [32] f l := by
  intro f
  induction f with
  | zero => intro l h; omega
  | succ f ih =>
    intro l h
    rcases idx32 l with ⟨h1, h2⟩ | ⟨a, b, rfl, h2, h3⟩
    · rw [no32_count h2]; exact Nat.zero_le _
    · have e2 : (a ++ 32 :: b).drop ((a.length : Int).toNat + ([32] : List UInt8).length) = b := by
        rw [Int.toNat_natCast, List.length_singleton, ← List.drop_drop, List.drop_left]
        rfl
      have hb := ih b (by rw [List.length_append, List.length_cons] at h; omega)
      rw [Lib.countFrom, h3, if_neg (by simp), e2, List.count_append, List.count_cons_self, no32_count h2]
      omega
theorem splitB_cut (s sep : ByteArray) (hsep : sep.data.toList = [32]) : Lib.splitB sep 0 (Lib.countB s sep) s = cutB 32 s := by
  have h : s.data.toList.count 32 ≤ Lib.countB s sep := by unfold Lib.countB Lib.count; rw [hsep]; exact count32 _ _ (by omega)
  generalize Lib.countB s sep = k at h
  have e := Lib.splitB_data sep 0 k s
  rw [hsep, splitK_splt k _ h] at e
  unfold cutB
  rw [← e, List.map_map]
  have : (toB ∘ fun x : ByteArray => x.data.toList) = id := funext fun x => rfl
  rw [this, List.map_id]
theorem parse_dec : ∀ a : Int, 1 ≤ a → a ≤ 50 → Lib.parseIntB 64 (Lib.decDigits a.toNat) = .ok a := by
  intro a h1 h50
  have hd : ∀ n : Fin 51, 1 ≤ n.val → Lib.parseIntB 64 (decF 3 n.val []) = .ok (n.val : Int) := by decide
  have e := decF_is ⟨a.toNat, by omega⟩ (by simp; omega)
  have := hd ⟨a.toNat, by omega⟩ (by simp; omega)
  rw [e] at this
  rw [this]
  simp only
  congr 1
  omega
end Go.Proofs.YtfjldlmdhemajaaDoor.Plain
