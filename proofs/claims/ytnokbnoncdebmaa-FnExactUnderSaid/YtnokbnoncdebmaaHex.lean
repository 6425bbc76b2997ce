/- Digits of 16: what the two programs tell of one byte; what a digest is; Nibble. -/
import Derived.Test.YtnokbnoncdebmaaMem
import Derived.Lib.Bytealg
namespace Go.Proofs.Ytnokbnoncdebmaa
open Go.RowKit Plain
set_option linter.unusedVariables false

namespace Plain
def hexList : List UInt8 := [48, 49, 50, 51, 52, 53, 54, 55, 56, 57, 97, 98, 99, 100, 101, 102]
def hexI (c : Int) : Int := if 48 ≤ c ∧ c ≤ 57 then c - 48 else if 97 ≤ c ∧ c ≤ 102 then c - 87 else -1

theorem hex_all : ∀ n : Fin 256, Lib.indexByte hexList n.val.toUInt8 = hexI n.val := by decide +kernel

theorem hex_index (c : Int) (h0 : 0 ≤ c) (h1 : c < 256) : Lib.indexByte hexList c.toNat.toUInt8 = hexI c := by
  have h := hex_all ⟨c.toNat, by omega⟩
  simp only at h
  rw [h]
  congr 1
  omega

theorem hexI_bounds (c : Int) : -1 ≤ hexI c ∧ hexI c ≤ 15 := by unfold hexI; split <;> (try split) <;> omega
end Plain

theorem call_index (s : ByteArray) (c : Int) (w : World) : (callFunc 54 #[.string s, .int .u8 c]).run Try.prog w = .ok (.value (.int .i64 (Lib.indexByte s.data.toList c.toNat.toUInt8))) w := by
  rw [run_callFunc_extern Try.func54 (by kernel_rfl) (by kernel_rfl) (by kernel_rfl) (e := Extern.BytealgIndexByte.indexByte) (by kernel_rfl), Lib.run_indexByteString]
  rfl

theorem impl_hexValue (c : Int) (w : World) (h0 : 0 ≤ c) (h1 : c < 256) :
    Calls Try.prog 33 #[.int .u8 c] w fun e w' => e = .returned (.int .i64 (hexI c)) ∧ w = w' := by
  have hcall : ∀ w, (callFunc 54 #[.string { data := #[48, 49, 50, 51, 52, 53, 54, 55, 56, 57, 97, 98, 99, 100, 101, 102] }, .int .u8 c]).run Try.prog w = .ok (.value (.int .i64 (hexI c))) w := by
    intro w
    rw [call_index, ← hex_index c h0 h1]
    rfl
  have hb := hexI_bounds c
  go_enter Try.func33, Try.ntmps33
  go_wp2
  go_ret
  exact ⟨rfl, rfl⟩

theorem spec_l1Hexit (c : Int) (w : World) (h0 : 0 ≤ c) (h1 : c < 256) :
    Calls Try.prog 32 #[.int .u8 c] w fun e w' => e = .returned (.int .i64 (hexI c)) ∧ w = w' := by
  unfold hexI
  by_cases h2 : 48 ≤ c ∧ c ≤ 57
  · rw [if_pos h2]
    obtain ⟨h3, h4⟩ := h2
    go_enter Try.func32, Try.ntmps32
    go_wp2
    go_ret
    exact ⟨rfl, rfl⟩
  · rw [if_neg h2]
    by_cases h5 : 97 ≤ c ∧ c ≤ 102
    · rw [if_pos h5]
      obtain ⟨h3, h4⟩ := h5
      go_enter Try.func32, Try.ntmps32
      go_wp2
      go_ret
      exact ⟨by go_num, rfl⟩
    · rw [if_neg h5]
      by_cases h6 : c < 48
      · go_enter Try.func32, Try.ntmps32
        go_wp2
        go_ret
        exact ⟨rfl, rfl⟩
      · have h7 : 57 < c := by omega
        by_cases h8 : c < 97
        · go_enter Try.func32, Try.ntmps32
          go_wp2
          go_ret
          exact ⟨rfl, rfl⟩
        · have h9 : 102 < c := by omega
          go_enter Try.func32, Try.ntmps32
          go_wp2
          go_ret
          exact ⟨rfl, rfl⟩
end Go.Proofs.Ytnokbnoncdebmaa
