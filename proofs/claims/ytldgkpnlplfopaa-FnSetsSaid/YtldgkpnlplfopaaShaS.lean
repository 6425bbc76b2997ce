/- The program's schedule of a block. -/
import Derived.Test.YtldgkpnlplfopaaShaR
import Derived.Test.YtldgkpnlplfopaaShaB
namespace Go.Proofs.Ytldgkpnlplfopaa
open Go.RowKit Plain
set_option linter.unusedVariables false



theorem rowTo_start {arr : Array Value} {n : Nat} (f : Nat → Int) (h1 : arr.size = n) (h2 : arr.all (·.oneCell') = true) : RowTo arr n f 0 := ⟨h1, h2, fun j h => absurd h (Nat.not_lt_zero j)⟩

theorem other_cell {W : World} {a b i j : Nat} {v : Value} (h : a ≠ b) : (W.setCell ⟨a, i, none⟩ v).cell? ⟨b, j, none⟩ = W.cell? ⟨b, j, none⟩ :=
  World.cell?_setCell_other W ⟨a, i, none⟩ ⟨b, j, none⟩ v (fun e => h (congrArg Addr.block e))

end Go.Proofs.Ytldgkpnlplfopaa