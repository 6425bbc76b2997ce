/- The digits of a digest are those of its words; the digest of abc. -/
import Derived.Test.YtlkkhhelonbcbaaDoorShaG
import Derived.Test.YtlkkhhelonbcbaaDoorNib
namespace Go.Proofs.YtlkkhhelonbcbaaDoor
open Go.RowKit Plain
set_option linter.unusedVariables false

namespace Plain
theorem hexTo_get (n : Int) (j : Nat) (h : j < 8) : (hexTo n 8).getD j 0 = digI (n / 2 ^ (4 * (7 - j)) % 16) := by simp [hexTo, List.getD, h]
theorem flat_get (L : List Int) : ∀ k, k < 8 * L.length → (L.flatMap fun n => hexTo n 8).getD k 0 = (hexTo (L.getD (k / 8) 0) 8).getD (k % 8) 0 := by
  induction L with
  | nil => intro k h; simp at h
  | cons x L ih =>
    intro k h
    have hl := hexTo_length x 8
    rw [List.flatMap_cons]
    by_cases hk : k < 8
    · rw [show k / 8 = 0 from by omega, show k % 8 = k from by omega]
      simp [List.getD, List.getElem?_append_left (show k < (hexTo x 8).length by omega)]
    · have h1 := ih (k - 8) (by simp at h; omega)
      rw [show k / 8 = (k - 8) / 8 + 1 from by omega, show k % 8 = (k - 8) % 8 from by omega]
      have e : (hexTo x 8 ++ L.flatMap fun n => hexTo n 8).getD k 0 = (L.flatMap fun n => hexTo n 8).getD (k - 8) 0 := by
        simp [List.getD, List.getElem?_append_right (show (hexTo x 8).length ≤ k by omega), hl]
      rw [e, h1]
      rfl
theorem dig_all : ∀ x : Fin 16, hexI (digI x.val) = x.val ∧ 0 ≤ digI x.val ∧ digI x.val < 256 := by decide +kernel
theorem dig_hex (y : Int) (h0 : 0 ≤ y) (h1 : y < 16) : hexI (digI y) = y ∧ 0 ≤ digI y ∧ digI y < 256 := by
  obtain ⟨n, rfl⟩ := Int.eq_ofNat_of_zero_le h0
  exact dig_all ⟨n, by omega⟩
theorem byte_of (c : Int) (h0 : 0 ≤ c) (h1 : c < 256) : (((UInt8.ofNat c.toNat).toNat : Nat) : Int) = c := by
  simp
  omega
/-- The byte of a digest in place 7 + k, as a digit. -/
theorem digest_at (v : List Int) (hv : v.length = 8) (k : Nat) (hk : k < 64) : (((strOfNums (digTo v 8)).data.toList.getD (7 + k) 0).toNat : Int) = digI (v.getD (k / 8) 0 / 2 ^ (4 * (7 - k % 8)) % 16) := by
  rw [strOfNums_data]
  have hlen := digTo_length v 8 (by omega)
  have e : (digTo v 8).getD (7 + k) 0 = digI (v.getD (k / 8) 0 / 2 ^ (4 * (7 - k % 8)) % 16) := by
    rw [← hexTo_get _ _ (by omega), ← flat_get v k (by omega)]
    unfold digTo
    rw [List.take_of_length_le (by omega)]
    simp [List.getD, headL]
    rw [show 7 + k = k + 7 from by omega]
    rfl
  have hb := dig_hex (v.getD (k / 8) 0 / 2 ^ (4 * (7 - k % 8)) % 16) (by omega) (by omega)
  rw [List.getD, List.getElem?_map]
  have e2 : (digTo v 8)[7 + k]? = some (digI (v.getD (k / 8) 0 / 2 ^ (4 * (7 - k % 8)) % 16)) := by
    rw [← e, List.getElem?_eq_getElem (by omega)]
    simp [List.getD, List.getElem?_eq_getElem (show 7 + k < (digTo v 8).length by omega)]
  rw [e2]
  exact byte_of _ hb.2.1 hb.2.2
theorem digest_ok (v : List Int) (hv : v.length = 8) : digB (strOfNums (digTo v 8)) = true := by
  have hlen := digTo_length v 8 (by omega)
  have hsz : (strOfNums (digTo v 8)).size = 71 := by rw [strOfNums_size, hlen]
  rw [digB_rest hsz]
  · unfold hexFrom
    rw [List.all_eq_true]
    intro c hc
    obtain ⟨i, hi, rfl⟩ := List.mem_iff_getElem.1 hc
    have hi2 : i < 64 := by rw [List.length_drop] at hi; have : (strOfNums (digTo v 8)).data.toList.length = 71 := hsz; omega
    have h := digest_at v hv i hi2
    have hb := dig_hex (v.getD (i / 8) 0 / 2 ^ (4 * (7 - i % 8)) % 16) (by omega) (by omega)
    rw [List.getElem_drop]
    have h3 : (strOfNums (digTo v 8)).data.toList.getD (7 + i) 0 = (strOfNums (digTo v 8)).data.toList[7 + i]'(by rw [List.length_drop] at hi; omega) := by
      rw [List.getD, List.getElem?_eq_getElem]; rfl
    rw [h3] at h
    rw [h, hb.1]
    simp
    omega
  · have e : ((strOfNums (digTo v 8)).extract 0 7).toList = shaL := by
      have e2 : (strOfNums (digTo v 8)).extract 0 7 = strOfNums headL := by
        apply ByteArray.ext
        rw [ByteArray.data_extract]
        unfold digTo strOfNums
        simp [headL]
      rw [e2]
      decide +kernel
    rw [e]; rfl
theorem digest_nib (v : List Int) (hv : v.length = 8) (k : Nat) (hk : k < 64) : nibI (strOfNums (digTo v 8)) k = v.getD (k / 8) 0 / 2 ^ (4 * (7 - k % 8)) % 16 := by
  unfold nibI
  rw [if_pos ⟨digest_ok v hv, by omega, by omega⟩, Int.toNat_natCast, digest_at v hv k hk]
  exact (dig_hex _ (by omega) (by omega)).1
set_option maxRecDepth 100000 in
theorem abc_is : digestB ⟨#[97, 98, 99]⟩ = ⟨#[115, 104, 97, 50, 53, 54, 58, 98, 97, 55, 56, 49, 54, 98, 102, 56, 102, 48, 49, 99, 102, 101, 97, 52, 49, 52, 49, 52, 48, 100, 101, 53, 100, 97, 101, 50, 50, 50, 51, 98, 48, 48, 51, 54, 49, 97, 51, 57, 54, 49, 55, 55, 97, 57, 99, 98, 52, 49, 48, 102, 102, 54, 49, 102, 50, 48, 48, 49, 53, 97, 100]⟩ := by decide +kernel
end Plain
end Go.Proofs.YtlkkhhelonbcbaaDoor
