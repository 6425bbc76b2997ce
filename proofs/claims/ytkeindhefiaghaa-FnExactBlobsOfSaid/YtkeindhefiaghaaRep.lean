/- RepoOk of the program by its contract: its scanner's word, mark and slash. -/
import Derived.Test.YtkeindhefiaghaaLow
import Derived.Test.YtkeindhefiaghaaCur
import Derived.Deep.RegionWith
namespace Go.Proofs.Ytkeindhefiaghaa
open Go.RowKit Plain
set_option linter.unusedVariables false

namespace Plain
theorem toList_data (s : ByteArray) : s.toList = s.data.toList := ByteArray.toList_eq s
theorem len_list (s : ByteArray) : s.data.toList.length = s.size := Array.length_toList
theorem ext_list (s : ByteArray) (p : Nat) : (s.extract p s.size).data.toList = s.data.toList.drop p := by
  rw [ByteArray.data_extract, Array.toList_extract, List.extract_eq_take_drop]
  exact List.take_of_length_le (by simp)
theorem ext_take (s : ByteArray) (n : Nat) : (s.extract 0 n).data.toList = s.data.toList.take n := by
  rw [ByteArray.data_extract, Array.toList_extract, List.extract_eq_take_drop]
  simp
def hpB (s p : ByteArray) : Bool := p.data.toList.isPrefixOf s.data.toList
theorem hp_short {s p : ByteArray} (h : s.size < p.size) : hpB s p = false := by
  unfold hpB
  cases e : p.data.toList.isPrefixOf s.data.toList with
  | false => rfl
  | true =>
    have := (List.isPrefixOf_iff_prefix.1 e).length_le
    simp at this
    change p.size ≤ s.size at this
    omega
theorem hp_eq {s p : ByteArray} (h : p.size ≤ s.size) : ((s.extract 0 p.size).toList == p.toList) = hpB s p := by
  rw [toList_data, toList_data, ext_take]
  unfold hpB
  rw [Bool.eq_iff_iff, List.isPrefixOf_iff_prefix, List.prefix_iff_eq_take]
  simp
  exact ⟨fun h => h.symm, fun h => h.symm⟩
end Plain









namespace Plain
def hpL (l p : List UInt8) : Bool := p.isPrefixOf l
/-- Which test of mark strikes, and what it takes then. -/
theorem mk_cases (l : List UInt8) : (hpL l [95, 95] = true ∧ mk l = 2) ∨ (hpL l [95, 95] = false ∧ hpL l [95] = true ∧ mk l = 1) ∨
    (hpL l [95, 95] = false ∧ hpL l [95] = false ∧ hpL l [46] = true ∧ mk l = 1) ∨ (hpL l [95, 95] = false ∧ hpL l [95] = false ∧ hpL l [46] = false ∧ mk l = hy l) := by
  unfold hpL
  cases l with
  | nil => simp [mk, hy]
  | cons c l =>
    by_cases h1 : c = 95
    · subst h1
      cases l with
      | nil => simp [mk, un]
      | cons d l =>
        by_cases h2 : d = 95
        · subst h2; simp [mk, un]
        · have h3 : ¬ d.toNat = 95 := fun e => h2 (by rw [u8 (by omega) e]; rfl)
          have h4 : ((95 : UInt8) == d) = false := by simpa using fun e => h2 e.symm
          simp [mk, un, h3, List.isPrefixOf, h4]
    · have h3 : ¬ c.toNat = 95 := fun e => h1 (by rw [u8 (by omega) e]; rfl)
      have h4 : ((95 : UInt8) == c) = false := by simpa using fun e => h1 e.symm
      by_cases h5 : c = 46
      · subst h5; simp [mk, List.isPrefixOf]
      · have h6 : ¬ c.toNat = 46 := fun e => h5 (by rw [u8 (by omega) e]; rfl)
        have h7 : ((46 : UInt8) == c) = false := by simpa using fun e => h5 e.symm
        simp [mk, h3, h6, List.isPrefixOf, h4, h7]
end Plain



end Go.Proofs.Ytkeindhefiaghaa