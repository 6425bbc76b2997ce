/- What the package variables hold that are laid: the table of the powers of ten. -/
import Derived.Test.YtjjdeffmciknjaaDoorRows
import Derived.Test.YtjjdeffmciknjaaDoorMsgI
import Derived.ProofKit
import Derived.LaidMore
import Derived.LaidLaws
import Derived.OpenShut
import Derived.OpenVars
import Derived.Stop.Joined
import Derived.Lib.LaidTab
namespace Go.Proofs.YtjjdeffmciknjaaDoor
open Go.ChangeShapes Go.WideShapes Go.ChangeAt Go.WideMaps Go.WideElems Go.RowKit Plain
set_option linter.unusedVariables false

theorem lvAt {P : Program} {w : World} : ∀ (laid : List (String × DataW Unit)) (ps : List MemPlace) (i : Nat) (n : String) (d : DataW Unit), DataW.LaidVars P w laid ps → laid[i]? = some (n, d) →
    ∃ g t cs fuel p, P.globalNamed n = some g ∧ (P.globals[g]?).map (·.type) = some t ∧ w.var? P n = some cs ∧ DataW.trod (fun _ => ()) P w 0 (fun _ => true) false fuel t cs.toList = some (d, p) := by
  intro laid
  induction laid with
  | nil => intro ps i n d _ h; simp at h
  | cons x r ih =>
    obtain ⟨n0, d0⟩ := x
    intro ps i n d h hi
    obtain ⟨g, t, cs, fuel, p, q, h1, h2, h3, h4, h5, _⟩ := h
    cases i with
    | zero =>
      obtain ⟨rfl, rfl⟩ : n0 = n ∧ d0 = d := by simpa using hi
      exact ⟨g, t, cs, fuel, p, h1, h2, h3, h4⟩
    | succ i => exact ih q i n d h5 (by simpa using hi)

theorem gP10 : Tryd.prog.globalNamed "internal/strconv.uint64pow10" = some 0 := by kernel_rfl
theorem tP10 : (Tryd.prog.globals[0]?).map (·.type) = some 97 := by kernel_rfl
theorem datumP10 : (Rows.laid_internal_strconv_uint64pow10 : DataW Unit) = Lib.tabData .u64 Lib.pow10Tab := by kernel_rfl
theorem pow_of_laid {W : World} {laid : List (String × DataW Unit)} {ps : List MemPlace} (h : DataW.LaidVars Tryd.prog W laid ps) (i : Nat) (hi : laid[i]? = some ("internal/strconv.uint64pow10", Rows.laid_internal_strconv_uint64pow10)) : P10 W := by
  obtain ⟨g0, t0, cs0, f0, p0, hg0, ht0, hv0, hd0⟩ := lvAt laid ps i _ _ h hi
  obtain rfl := Option.some.inj (gP10.symm.trans hg0)
  obtain rfl := Option.some.inj (tP10.symm.trans ht0)
  rw [datumP10] at hd0
  have e := Lib.cells_of_tab Tryd.underlying97 Tryd.underlying85 (by kernel_rfl) (by kernel_rfl) hd0
  unfold P10 Lib.TabIs
  rw [hv0, ← e]
end Go.Proofs.YtjjdeffmciknjaaDoor
