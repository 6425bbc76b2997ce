/- The package's table of the rounds' words, as the rows lay it. -/
import Derived.Test.YtlkkhhelonbcbaaDoorRows
import Derived.Test.YtlkkhhelonbcbaaDoorShaW
import Derived.ProofKit
import Derived.LaidMore
import Derived.OpenShut
import Derived.Stop.Joined
namespace Go.Proofs.YtlkkhhelonbcbaaDoor
open Go.ChangeShapes Go.WideShapes Go.ChangeAt Go.WideMaps Go.WideElems Go.RowKit Plain
set_option linter.unusedVariables false

def roundName : String := "loop.example/g00141/impl.roundWords"
def laidK : List (String × DataW Unit) := [(roundName, Rows.laid_loop_example_g00141_impl_roundWords)]
theorem gK : Tryd.prog.globalNamed roundName = some 0 := by kernel_rfl
theorem tK : (Tryd.prog.globals[0]?).map (·.type) = some 57 := by kernel_rfl
theorem cK : Tryd.prog.cellsOf 30 = 1 := by kernel_rfl
theorem datumK : (Rows.laid_loop_example_g00141_impl_roundWords : DataW Unit) = .agg (kL.map fun n => .lit (.int .u32 n)) := by kernel_rfl

/-- The door's own heap meets the condition. -/
theorem door_met (os : Os) (args : Array Value) : laidMetH Tryd.prog laidK ((World.doorLaid Tryd.prog 400 os).forCall (fun _ _ => 0) ⟨#[], args, []⟩).memory :=
  laidMetH_of_parts3 (fuel := 8) (laidMet_of_run' 8 (by kernel_rfl) (by kernel_rfl)) (by kernel_rfl) (by kernel_rfl)

theorem k_of_laid {W : World} (h : laidMetH Tryd.prog laidK W) : KAt W := by
  rw [MakeChecks.laidMetH_plain _ _ _ (by kernel_rfl)] at h
  obtain ⟨ps, ⟨g0, t0, cs0, f0, p0, q0, hg0, ht0, hv0, hd0, _⟩, _, _⟩ := h
  obtain rfl := Option.some.inj (gK.symm.trans hg0)
  obtain rfl := Option.some.inj (tK.symm.trans ht0)
  intro j hj
  rw [World.var?_cell hg0 hv0 j]
  obtain ⟨xs, m1, rfl, hx1, hlen, hn, hel⟩ := DataW.trod_array Tryd.underlying57 hd0
  have hj2 : j < xs.length := by omega
  have h0 := hel j hj
  rw [List.getElem?_eq_getElem hj2] at h0
  obtain ⟨k, e1, e2, _⟩ := DataW.trod_int Tryd.underlying30 h0
  rw [datumK] at hx1
  have hx2 : (kL.map fun n => (.lit (.int .u32 n) : DataW Unit)) = xs.map (·.1) := by
    have := congrArg Prod.fst hx1
    simpa using this
  have hx3 := congrArg (·[j]?) hx2
  have hkl : j < kL.length := hj
  simp only [List.getElem?_map, List.getElem?_eq_getElem hj2, List.getElem?_eq_getElem hkl, Option.map_some, e2] at hx3
  have hk : kL[j] = k := by simpa using hx3
  rw [cK] at e1
  have e3 : (cs0.toList.drop (j * 1)).take 1 = [.int .u32 k] := e1
  have e4 := congrArg (·[0]?) e3
  simp at e4
  rw [e4, ← hk]
  simp [List.getD, List.getElem?_eq_getElem hkl]
end Go.Proofs.YtlkkhhelonbcbaaDoor
