/- Digits of 16: what the two programs tell of one byte; what a digest is; Nibble. -/
import Derived.Test.YtmgjkomgpkoenaaGreatMem
import Derived.Lib.Bytealg
namespace Go.Proofs.YtmgjkomgpkoenaaGreat
open Go.RowKit Plain
set_option linter.unusedVariables false

namespace Plain
def hexList : List UInt8 := [48, 49, 50, 51, 52, 53, 54, 55, 56, 57, 97, 98, 99, 100, 101, 102]
def hexI (c : Int) : Int := if 48 ≤ c ∧ c ≤ 57 then c - 48 else if 97 ≤ c ∧ c ≤ 102 then c - 87 else -1

theorem hex_all : ∀ n : Fin 256, Lib.indexByte hexList n.val.toUInt8 = hexI n.val := by decide +kernel

theorem hex_index (c : Int) (h0 : 0 ≤ c) (h1 : c < 256) : Lib.indexByte hexList c.toNat.toUInt8 = hexI c := by
  have h := hex_all ⟨c.toNat, by omega⟩
  simp only at h
  rw [h]
  congr 1
  omega

theorem hexI_bounds (c : Int) : -1 ≤ hexI c ∧ hexI c ≤ 15 := by unfold hexI; split <;> (try split) <;> omega
end Plain





end Go.Proofs.YtmgjkomgpkoenaaGreat