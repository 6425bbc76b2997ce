/- Texts of one kind, put together. -/
import Derived.Test.YtanekbifdedmeaaGreatDoorMsgJ
import Derived.Test.YtanekbifdedmeaaGreatDoorGAI
import Derived.Test.YtanekbifdedmeaaGreatDoorRows
import Derived.Test.YtanekbifdedmeaaGreatDoorMsgI
import Derived.ProofKit
import Derived.LaidMore
import Derived.LaidLaws
import Derived.OpenShut
import Derived.OpenVars
import Derived.Stop.Joined
import Derived.Lib.LaidTab

/- The program's WriteRequest. -/
namespace Go.Proofs.YtanekbifdedmeaaGreatDoor
open Go.RowKit Plain
set_option linter.unusedVariables false

namespace Plain
theorem texB_le {lo hi : Nat} {p : Nat → Bool} {s : ByteArray} (h : texB lo hi p s = true) : s.size ≤ hi := by
  unfold texB at h
  simp only [Bool.and_eq_true, decide_eq_true_eq] at h
  exact h.1.2
theorem fitB_facts {p : Hd → Bool} {ls : List Hd} (h : fitB p ls = true) : ls.length ≤ 20 ∧ ∀ x ∈ ls, p x = true := by
  unfold fitB at h
  simp only [Bool.and_eq_true, decide_eq_true_eq] at h
  exact ⟨h.1, fun x hx => List.all_eq_true.1 h.2 x hx⟩
theorem hrw_fit {ls : List Hd} (h : fitB hrwB ls = true) : ls.length ≤ 20 ∧ fitH ls := by
  obtain ⟨h1, h2⟩ := fitB_facts h
  refine ⟨h1, fun x hx => ?_⟩
  have h3 := h2 x hx
  unfold hrwB valB at h3
  simp only [Bool.and_eq_true] at h3
  have := texB_le h3.1.2
  have := texB_le h3.2.1
  omega
theorem tail_facts {hs : List Hd} {bd : ByteArray} (h : tailB hs bd = true) : hs.length ≤ 20 ∧ fitH hs ∧ bd.size ≤ 20000 := by
  unfold tailB at h
  simp only [Bool.and_eq_true, decide_eq_true_eq] at h
  exact ⟨(hrw_fit h.1).1, (hrw_fit h.1).2, h.2⟩
def blT : ByteArray := ⟨#[32]⟩
end Plain

end Go.Proofs.YtanekbifdedmeaaGreatDoor


/- What the package variables hold that are laid: the table of the powers of ten. -/
namespace Go.Proofs.YtanekbifdedmeaaGreatDoor
open Go.ChangeShapes Go.WideShapes Go.ChangeAt Go.WideMaps Go.WideElems Go.RowKit Plain
set_option linter.unusedVariables false

theorem lvAt {P : Program} {w : World} : ∀ (laid : List (String × DataW Unit)) (ps : List MemPlace) (i : Nat) (n : String) (d : DataW Unit), DataW.LaidVars P w laid ps → laid[i]? = some (n, d) →
    ∃ g t cs fuel p, P.globalNamed n = some g ∧ (P.globals[g]?).map (·.type) = some t ∧ w.var? P n = some cs ∧ DataW.trod (fun _ => ()) P w 0 (fun _ => true) false fuel t cs.toList = some (d, p) := by
  intro laid
  induction laid with
  | nil => intro ps i n d _ h; simp at h
  | cons x r ih =>
    obtain ⟨n0, d0⟩ := x
    intro ps i n d h hi
    obtain ⟨g, t, cs, fuel, p, q, h1, h2, h3, h4, h5, _⟩ := h
    cases i with
    | zero =>
      obtain ⟨rfl, rfl⟩ : n0 = n ∧ d0 = d := by simpa using hi
      exact ⟨g, t, cs, fuel, p, h1, h2, h3, h4⟩
    | succ i => exact ih q i n d h5 (by simpa using hi)

theorem gP10 : Tryz.prog.globalNamed "internal/strconv.uint64pow10" = some 1 := by kernel_rfl
theorem tP10 : (Tryz.prog.globals[1]?).map (·.type) = some 182 := by kernel_rfl
theorem datumP10 : (Rows.laid_internal_strconv_uint64pow10 : DataW Unit) = Lib.tabData .u64 Lib.pow10Tab := by kernel_rfl
theorem pow_of_laid {W : World} {laid : List (String × DataW Unit)} {ps : List MemPlace} (h : DataW.LaidVars Tryz.prog W laid ps) (i : Nat) (hi : laid[i]? = some ("internal/strconv.uint64pow10", Rows.laid_internal_strconv_uint64pow10)) : P10 W := by
  obtain ⟨g0, t0, cs0, f0, p0, hg0, ht0, hv0, hd0⟩ := lvAt laid ps i _ _ h hi
  obtain rfl := Option.some.inj (gP10.symm.trans hg0)
  obtain rfl := Option.some.inj (tP10.symm.trans ht0)
  rw [datumP10] at hd0
  have e := Lib.cells_of_tab Tryz.underlying182 Tryz.underlying159 (by kernel_rfl) (by kernel_rfl) hd0
  unfold P10 Lib.TabIs
  rw [hv0, ← e]
end Go.Proofs.YtanekbifdedmeaaGreatDoor

