/- The program's cursor: what take, rest and number of it answer and where they leave it. -/
import Derived.Test.YtiakhgafibgpgaaDoorMem
namespace Go.Proofs.YtiakhgafibgpgaaDoor
open Go.RowKit Plain
set_option linter.unusedVariables false







/-- What the reader's number answers, and where its cursor stands behind it. -/
def numV (r : Option (Nat × Nat)) : Value := match r with
  | none => .tuple #[.int .i64 0, .bool false]
  | some (v, l) => .tuple #[.int .i64 v, .bool true]
def numAt (p : Nat) (r : Option (Nat × Nat)) : Nat := match r with
  | none => p
  | some (v, l) => p + l

end Go.Proofs.YtiakhgafibgpgaaDoor