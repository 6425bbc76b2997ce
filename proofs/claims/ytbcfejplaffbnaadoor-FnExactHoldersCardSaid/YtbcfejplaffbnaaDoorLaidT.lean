/- What the library's table of 64 places holds, beside the rounds' words. -/
import Derived.Test.YtbcfejplaffbnaaDoorLaidX
import Derived.Test.YtbcfejplaffbnaaDoorRzD
namespace Go.Proofs.YtbcfejplaffbnaaDoor
open Go.ChangeShapes Go.WideShapes Go.ChangeAt Go.WideMaps Go.WideElems Go.RowKit Plain
set_option linter.unusedVariables false

def tzName2 : String := "math/bits.deBruijn64tab"
theorem gZ2 : Tryd.prog.globalNamed tzName2 = some 0 := by kernel_rfl
theorem tZ2 : (Tryd.prog.globals[0]?).map (·.type) = some 100 := by kernel_rfl
theorem cZ2 : Tryd.prog.cellsOf 5 = 1 := by kernel_rfl
theorem datumZ2 : (Rows.laid_math_bits_deBruijn64tab : DataW Unit) = .agg (Lib.deBruijn64tab.map fun n : Nat => .lit (.int .u8 (n : Int))) := by kernel_rfl
theorem tz_of_laid {W : World} {laid : List (String × DataW Unit)} {ps : List MemPlace} (h : DataW.LaidVars Tryd.prog W laid ps) (i : Nat) (hi : laid[i]? = some (tzName2, Rows.laid_math_bits_deBruijn64tab)) : TzAt W := by
  obtain ⟨g0, t0, cs0, f0, p0, hg0, ht0, hv0, hd0⟩ := laidVars_at laid ps i _ _ h hi
  obtain rfl := Option.some.inj (gZ2.symm.trans hg0)
  obtain rfl := Option.some.inj (tZ2.symm.trans ht0)
  have main : TabAt 0 Lib.deBruijn64tab W := by
    intro j hj
    rw [World.var?_cell hg0 hv0 j]
    obtain ⟨xs, m1, rfl, hx1, hlen, hn, hel⟩ := DataW.trod_array Tryd.underlying100 hd0
    have hj3 : j < 64 := hj
    have hj2 : j < xs.length := by omega
    have h0 := hel j hj
    rw [List.getElem?_eq_getElem hj2] at h0
    obtain ⟨k, e1, e2, _⟩ := DataW.trod_int Tryd.underlying5 h0
    rw [datumZ2] at hx1
    have hx2 : (Lib.deBruijn64tab.map fun n : Nat => (.lit (.int .u8 (n : Int)) : DataW Unit)) = xs.map (·.1) := by
      have := congrArg Prod.fst hx1
      simpa using this
    have hx3 := congrArg (·[j]?) hx2
    have hkl : j < Lib.deBruijn64tab.length := hj
    simp only [List.getElem?_map, List.getElem?_eq_getElem hj2, List.getElem?_eq_getElem hkl, Option.map_some, e2] at hx3
    have hk : ((Lib.deBruijn64tab[j] : Nat) : Int) = k := by simpa using hx3
    rw [cZ2] at e1
    have e3 : (cs0.toList.drop (j * 1)).take 1 = [.int .u8 k] := e1
    have e4 := congrArg (·[0]?) e3
    simp at e4
    rw [e4, ← hk]
    simp [List.getD, List.getElem?_eq_getElem hkl]
  exact ⟨main, lt_of_cell (main 0 (by decide))⟩
end Go.Proofs.YtbcfejplaffbnaaDoor
