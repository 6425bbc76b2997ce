/- Commands that are formed, as plain mathematics; how two of them are compared. -/
import Derived.Test.YtnkjdojpegmlcaaRepM
import Derived.Test.YtnkjdojpegmlcaaRefM
import Derived.Test.YtnkjdojpegmlcaaDig
import Derived.Test.YtnkjdojpegmlcaaManM
import Derived.Laws.StructEq
namespace Go.Proofs.Ytnkjdojpegmlcaa
open Go.RowKit Plain
set_option linter.unusedVariables false

namespace Plain
def numC (n : Int) : Bool := decide (0 ≤ n) && decide (n ≤ 1000000000000)
def nilB (s : ByteArray) : Bool := decide (s.toList = [])
def manK (t : ByteArray) : Bool := decide ((rmV (cutB 10 t)).2.2 = 0)
/-- What the fields of an op must be. -/
def fldB (op : Int) (rp tg dg tx : ByteArray) : Bool :=
  if op = 1 ∨ op = 7 then ((nilB rp && nilB tg) && nilB tx) && digB dg
  else if op = 2 then ((nilB rp && nilB tg) && nilB dg) && manK tx
  else if op = 3 then nilB tx && ((repoB rp && tagB tg) && digB dg)
  else if op = 4 then (nilB tx && nilB dg) && (repoB rp && tagB tg)
  else if op = 5 ∨ op = 6 then ((nilB rp && nilB tg) && nilB tx) && nilB dg
  else false
def fmB (ss sr op : Int) (rp tg dg tx : ByteArray) : Bool := (numC ss && numC sr) && fldB op rp tg dg tx
def eqT (a b : ByteArray) : Bool := a.toList == b.toList
theorem eqT_self (a : ByteArray) : eqT a a = true := by unfold eqT; simp
theorem eqT_nil (a : ByteArray) : eqT a ⟨#[]⟩ = nilB a := by unfold eqT nilB; rw [ByteArray.toList_eq ⟨#[]⟩]; rw [Bool.eq_iff_iff]; simp
def eqC (rp tg dg tx rp' tg' dg' tx' : ByteArray) : Bool := eqT rp rp' && (eqT tg tg' && (eqT dg dg' && eqT tx tx'))
end Plain

end Go.Proofs.Ytnkjdojpegmlcaa