/- The digits of a word, of the specification. -/
import Derived.Test.YtldgkpnlplfopaaGreatDoorMem
import Derived.Test.YtldgkpnlplfopaaGreatDoorShaM
namespace Go.Proofs.YtldgkpnlplfopaaGreatDoor
open Go.RowKit Plain
set_option linter.unusedVariables false

namespace Plain
def hexS : ByteArray := ⟨#[48, 49, 50, 51, 52, 53, 54, 55, 56, 57, 97, 98, 99, 100, 101, 102]⟩
def digI (x : Int) : Int := ((hexS.data.getD x.toNat 0).toNat : Int)
/-- The first k of a word's eight digits. -/
def hexTo (n : Int) (k : Nat) : List Int := (List.range k).map fun i => digI (n / 2 ^ (4 * (7 - i)) % 16)
theorem hexTo_next (n : Int) (k : Nat) : hexTo n (k + 1) = hexTo n k ++ [digI (n / 2 ^ (4 * (7 - k)) % 16)] := by simp [hexTo, List.range_succ]
theorem hexTo_length (n : Int) (k : Nat) : (hexTo n k).length = k := by simp [hexTo]
theorem and15 (x : Int) (h : 0 ≤ x) (h2 : x < 4294967296) : bits .and .u32 x 15 = x % 16 := by
  unfold bits
  have e : (BitVec.ofInt 32 x &&& BitVec.ofInt 32 15).toNat = (x % 16).toNat := by
    rw [BitVec.toNat_and, BitVec.toNat_ofInt]
    rw [show (BitVec.ofInt 32 15).toNat = 15 from rfl, Nat.and_two_pow_sub_one_eq_mod _ 4]
    omega
  show IntKind.wrap .u32 ((BitVec.ofInt 32 x &&& BitVec.ofInt 32 15).toNat : Int) = _
  rw [e, IntKind.wrap_u32']
  omega
theorem pow_bounds (n : Int) (q : Nat) (h0 : 0 ≤ n) (h1 : n < 4294967296) : 0 ≤ n / 2 ^ q ∧ n / 2 ^ q < 4294967296 := by
  refine ⟨Int.ediv_nonneg h0 (Int.pow_nonneg (by omega)), ?_⟩
  refine Int.lt_of_le_of_lt (Int.ediv_le_self _ h0) h1
theorem dig_at (x : Int) (h0 : 0 ≤ x) (h1 : x < 4294967296) (i : Nat) (hi : i = (bits .and .u32 x 15).toNat) (hb : i < (⟨#[48, 49, 50, 51, 52, 53, 54, 55, 56, 57, 97, 98, 99, 100, 101, 102]⟩ : ByteArray).size) :
    (((⟨#[48, 49, 50, 51, 52, 53, 54, 55, 56, 57, 97, 98, 99, 100, 101, 102]⟩ : ByteArray)[i]'hb).toNat : Int) = digI (x % 16) := by
  unfold digI
  rw [← and15 x h0 h1, ← hi]
  have e : hexS.data.getD i 0 = (⟨#[48, 49, 50, 51, 52, 53, 54, 55, 56, 57, 97, 98, 99, 100, 101, 102]⟩ : ByteArray)[i]'hb := by
    have hb2 : i < hexS.data.size := hb
    rw [Array.getD_eq_getD_getElem?, Array.getElem?_eq_getElem hb2]
    rfl
  rw [e]
theorem strOf_app (a b : List Int) : strOfNums a ++ strOfNums b = strOfNums (a ++ b) := by
  apply ByteArray.ext
  simp [strOfNums]
end Plain

set_option maxHeartbeats 1000000 in
theorem l1Hex_calls (n : Int) (w : World) (h0 : 0 ≤ n) (h1 : n < 4294967296) :
    Calls Tryz.prog 57 #[.int .u32 n] w fun r w' => r = .returned (.string (strOfNums (hexTo n 8))) ∧ Below w.heap.size w w' := by
  go_enter Tryz.func57, Tryz.ntmps57
  go_wp2_with fail
  go_loopw [3, 4] (fun v i wr => ∃ (k : Nat), i = .int .i64 (7 - (k : Int)) ∧ k ≤ 8 ∧ Hid (OwnB wr w.heap.size v (hexTo n k)) ∧ Hid (Below w.heap.size w wr)) (fun _ i _ => (intOf i + 1).toNat)
  case atStart => exact ⟨0, rfl, by omega, ownB_empty w _ (Nat.le_refl _), (Below.refl _ _).alloc (Nat.le_refl _) _⟩
  case round =>
    obtain ⟨k, rfl, hk, HO, HB⟩ := hrel
    by_cases hlt : k < 8
    · obtain ⟨q, hq⟩ : ∃ q, 4 * (7 - k) = q := ⟨_, rfl⟩
      have hqi : 4 * (7 - (k : Int)) = (q : Int) := by omega
      have hq28 : q ≤ 28 := by omega
      have hnx := hide (hexTo_next n k)
      rw [hq] at hnx
      have j0 : (0 : Int) ≤ (k : Int) := by omega
      have j1 : (k : Int) < 8 := by omega
      clear hq
      have hsz := (unhide HB).size
      have hl := hexTo_length n k
      obtain ⟨p0, p1⟩ := pow_bounds n q h0 h1
      have d0 : 0 ≤ bits .and .u32 (n / 2 ^ q) 15 := by rw [and15 _ p0 p1]; omega
      have d1 : bits .and .u32 (n / 2 ^ q) 15 < 16 := by rw [and15 _ p0 p1]; omega
      have hd := hide (dig_at (n / 2 ^ q) p0 p1 _ rfl)
      go_wp2_with (at_builtin; go_must (refine app1 rfl _ _ rfl (unhide HO) rfl rfl (by omega) hsz ?_); intro v' w1 hown1 hg1 hb1)
      go_roundw
      case rel => exact ⟨k + 1, by go_num, by omega, hide (by rw [unhide hnx, ← unhide hd]; exact hown1), hide ((unhide HB).trans hb1)⟩
      case measure => simp [intOf]; omega
    · obtain rfl : k = 8 := by omega
      have hcv := conv_ownB wr _ _ _ (unhide HO)
      go_wp2_with fail
      go_ret
      exact ⟨rfl, unhide HB⟩
end Go.Proofs.YtldgkpnlplfopaaGreatDoor
