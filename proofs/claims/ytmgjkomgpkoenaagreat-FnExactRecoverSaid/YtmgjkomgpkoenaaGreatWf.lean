/- The bytes of a frame, and facts that both programs' WriteFrame need. -/
import Derived.Test.YtmgjkomgpkoenaaGreatFour
import Derived.Test.YtmgjkomgpkoenaaGreatCrcS
import Derived.Test.YtmgjkomgpkoenaaGreatCrcT
import Derived.Test.YtmgjkomgpkoenaaGreatNum
import Derived.Deep.RegionWith
namespace Go.Proofs.YtmgjkomgpkoenaaGreat
open Go.RowKit Plain
set_option linter.unusedVariables false

namespace Plain
def sealB (k : Int) (body : ByteArray) : ByteArray := strOfNums [k] ++ strOfNums (fourL body.size) ++ body
def frameB (k : Int) (body : ByteArray) : ByteArray := if 1 ≤ k ∧ k ≤ 100 ∧ body.size ≤ 20000 then sealB k body ++ strOfNums (fourL (crcI (sealB k body))) else ByteArray.empty
theorem crcI_range (s : ByteArray) : 0 ≤ crcI s ∧ crcI s < 4294967296 := bits_u32_range _ _ _
theorem four_size (x : Int) : (strOfNums (fourL x)).size = 4 := by rw [strOfNums_size]; rfl
theorem seal_size (k : Int) (body : ByteArray) : (sealB k body).size = 5 + body.size := by unfold sealB; rw [ByteArray.size_append, ByteArray.size_append, strOfNums_size, strOfNums_size]; simp [fourL]
theorem one_size (x : Int) : (strOfNums [x]).size = 1 := by rw [strOfNums_size]; rfl
end Plain

theorem conv_cell (k : Int) : ∀ (W : World) (n : Nat), W.cell? ⟨n, 0, none⟩ = some (.int .u8 k) →
    (convert 149 9 (.slice (some ⟨n, 0, none⟩) 1 1)).run Tryz.prog W = .ok (.string (strOfNums [k])) W := by
  intro W n hc
  refine run_convert_bytes_arg W 149 5 Tryz.underlying149 Tryz.underlying5 n 0 1 1 [k] rfl ?_ 9 Tryz.underlying9
  intro i hi
  obtain rfl : i = 0 := by omega
  exact hc


theorem below_allocs2 {w : World} {A B C : Obj} (n : Nat) : Below w.heap.size w ((((w.alloc A).alloc B).alloc C).drewN n) :=
  below_drewN ((((Below.refl _ _).alloc (Nat.le_refl _) _).alloc (by simp) _).alloc (by simp; omega) _) n

end Go.Proofs.YtmgjkomgpkoenaaGreat
