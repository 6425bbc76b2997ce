/- TakeNumber of the specification by its contract. -/
import Derived.Test.YtiakhgafibgpgaaDoorMem
namespace Go.Proofs.YtiakhgafibgpgaaDoor
open Go.RowKit Plain
set_option linter.unusedVariables false

/-- What TakeNumber answers. -/
def takeV (s : ByteArray) : Value := match tkN s 0 with
  | none => .tuple #[.int .i64 0, .string ByteArray.empty, .bool false]
  | some (v, l) => .tuple #[.int .i64 v, .string (s.extract l s.size), .bool true]

theorem takeV_none {s : ByteArray} (h : tkN s 0 = none) : takeV s = .tuple #[.int .i64 0, .string ByteArray.empty, .bool false] := by unfold takeV; rw [h]
theorem takeV_some {s : ByteArray} {v l : Nat} (h : tkN s 0 = some (v, l)) : takeV s = .tuple #[.int .i64 v, .string (s.extract l s.size), .bool true] := by unfold takeV; rw [h]

end Go.Proofs.YtiakhgafibgpgaaDoor