/- What the library's variables hold that ReadRequest's road reads, the handle of the type 'error' among them, and a world that meets it. -/
import Derived.Test.YtanekbifdedmeaaGreatDoorLaidS
import Derived.Test.YtanekbifdedmeaaGreatDoorRqC
import Derived.LaidHandle
import Derived.Lay
namespace Go.Proofs.YtanekbifdedmeaaGreatDoor
open Go.ChangeShapes Go.WideShapes Go.ChangeAt Go.WideMaps Go.WideElems Go.RowKit Plain
set_option linter.unusedVariables false

/-- The plain variables that the row lists. -/
def rqL : List (String × DataW Unit) := [("math/bits.deBruijn32tab", Rows.laid_math_bits_deBruijn32tab), ("math/bits.deBruijn64tab", Rows.laid_math_bits_deBruijn64tab), ("internal/strconv.uint64pow10", Rows.laid_internal_strconv_uint64pow10), ("unicode/utf8.acceptRanges", Rows.laid_unicode_utf8_acceptRanges), ("strconv.ErrRange", Rows.laid_strconv_ErrRange), ("strconv.ErrSyntax", Rows.laid_strconv_ErrSyntax), ("unicode/utf8.first", Rows.laid_unicode_utf8_first)]
theorem rq_plain : (Rows.fnExactReadRequestRow.laid.filter fun x => x.2.handleName?.isNone) = rqL := by kernel_rfl
theorem rq_hand : (Rows.fnExactReadRequestRow.laid.filter fun x => x.2.handleName?.isSome) = [("errors.errorType", Rows.laid_errors_errorType)] := by kernel_rfl
theorem er_rt : (Tryz.prog.cutTypes.find? (·.1 == "internal/reflectlite.rtype")).map (·.2) = some 146 := by kernel_rfl
theorem er_one : ((List.range 254).filter fun t => Tryz.prog.rowNamed t [101, 114, 114, 111, 114]) = [62] := by kernel_rfl
theorem er_size : Tryz.prog.types.size = 254 := by kernel_rfl
theorem er_g : Tryz.prog.globalNamed "errors.errorType" = some 0 := by kernel_rfl
theorem rq_of_laid {W : World} (h : laidMetH Tryz.prog Rows.fnExactReadRequestRow.laid W) (hs : W.ShapedOpen Tryz.prog) : RrV W ∧ P10 W ∧ ErV W := by
  unfold laidMetH at h
  rw [rq_hand, rq_plain] at h
  obtain ⟨h1, h2⟩ := h
  have hp : laidMetH Tryz.prog rqL W = laidMet Tryz.prog rqL W := MakeChecks.laidMetH_plain _ _ _ (by kernel_rfl)
  obtain ⟨r1, r2⟩ := rr_of_laid (laid := rqL) (by rw [hp]; exact h1) hp hs rfl rfl rfl
  refine ⟨r1, r2, ?_⟩
  obtain ⟨name, u, ty, e1, e2, e3, e4, e5⟩ := h2 _ (List.mem_singleton.2 rfl)
  have en : name = [101, 114, 114, 111, 114] := (Option.some.inj e1).symm
  subst en
  obtain rfl := Option.some.inj (er_rt.symm.trans e2)
  have hm : ty ∈ (List.range 254).filter fun t => Tryz.prog.rowNamed t [101, 114, 114, 111, 114] := List.mem_filter.2 ⟨List.mem_range.2 (by rw [← er_size]; exact e3), e4⟩
  rw [er_one] at hm
  obtain rfl := List.mem_singleton.1 hm
  have hh : typeHandle Tryz.prog 62 = .pointer (some ⟨9, 62, none⟩) := by kernel_rfl
  rw [hh] at e5
  have hv0 := World.var?_cell er_g e5 0
  simp at hv0
  exact hv0
/-- The settled world, the handle laid. -/
noncomputable def erW (os : Os) : World :=
  let w0 := World.holding Tryz.prog os ⟨#[], #[], []⟩
  { w0 with heap := w0.heap.modify 0 fun
      | .cells _ t frozen => .cells #[.iface 146 (.agg #[.pointer (some ⟨9, 62, none⟩)])] t frozen
      | o => o }
noncomputable def rqW (os : Os) : World := (erW os).layVars Tryz.prog rqL
theorem rqW_os (os : Os) : (rqW os).os = os := World.layVars_os _ _ _
theorem rqW_met (os : Os) (args : Array Value) : laidMetH Tryz.prog Rows.fnExactReadRequestRow.laid ((rqW os).forCall (fun _ _ => 0) ⟨#[], args, []⟩).memory := by
  refine laidMetH_of_parts ?_ ?_
  · rw [rq_plain]
    have e1 : (rqL.filter fun x => (rqL.map (·.1)).contains x.1) = rqL := List.filter_eq_self.2 fun x hx => List.contains_iff_mem.2 (List.mem_map.2 ⟨x, hx, rfl⟩)
    have e2 : (rqL.filter fun x => !(rqL.map (·.1)).contains x.1) = [] := List.filter_eq_nil_iff.2 fun x hx => by rw [List.contains_iff_mem.2 (List.mem_map.2 ⟨x, hx, rfl⟩)]; simp
    have h : laidMet Tryz.prog rqL (rqW os) := laidMet_layVars (w0 := erW os) (rqL.map (·.1)) [] (by rw [e1]; rfl) (by rw [e1]; kernel_rfl) (by rw [e1]; kernel_rfl) (by rw [e2]; exact LaidIn.none)
    exact h.of_heap (by simp [World.memory, World.forCall, Input.heap])
  · rw [rq_hand]
    kernel_rfl
end Go.Proofs.YtanekbifdedmeaaGreatDoor
