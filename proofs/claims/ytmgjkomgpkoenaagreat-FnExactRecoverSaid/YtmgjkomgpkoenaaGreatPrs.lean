/- What is left of a purse. -/
import Derived.Test.YtmgjkomgpkoenaaGreatMan
namespace Go.Proofs.YtmgjkomgpkoenaaGreat.Plain
open Go.RowKit
set_option linter.unusedVariables false
/-- What is left of a purse behind n. -/
def purse (left : Int) (n : Nat) : Int := if left < n then -1 else left - n
theorem purse_no {left : Int} {n : Nat} (h : left < n) : purse left n = -1 := if_pos h
theorem purse_yes {left : Int} {n : Nat} (h : ¬ left < n) : purse left n = left - n := if_neg h
theorem purse_step {r : Int} {a b : Nat} (h : ¬ r < (a : Int)) : purse r (a + b) = purse (r - a) b := by
  unfold purse
  by_cases h2 : r - a < (b : Int)
  · rw [if_pos h2, if_pos (by omega)]
  · rw [if_neg h2, if_neg (by omega)]; omega
theorem belQ {B : Nat} {w w' : World} (h : Below B w w') (k : Nat) : Below B w (w'.drewN k) := ⟨h.os, h.tape, h.output, h.size, h.block⟩
end Go.Proofs.YtmgjkomgpkoenaaGreat.Plain
