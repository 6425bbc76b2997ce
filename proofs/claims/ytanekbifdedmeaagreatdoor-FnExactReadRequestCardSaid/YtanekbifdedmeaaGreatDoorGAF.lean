/- Texts of one kind, put together. -/
import Derived.Test.YtanekbifdedmeaaGreatDoorGAD
import Derived.Test.YtanekbifdedmeaaGreatDoorFitI
import Derived.Test.YtanekbifdedmeaaGreatDoorGAE
import Derived.Lib.ItoaLen
import Derived.Lib.AppendIntMem
import Derived.Lib.SmallJoins
import Derived.Test.YtanekbifdedmeaaGreatDoorGAH
import Derived.Test.YtanekbifdedmeaaGreatDoorRows
import Derived.ProofKit
import Derived.LaidMore
import Derived.LaidLaws
import Derived.OpenShut
import Derived.OpenVars
import Derived.Stop.Joined
import Derived.Lib.LaidTab

/- The program's rows of headers, and the text of a message. -/
namespace Go.Proofs.YtanekbifdedmeaaGreatDoor
open Go.RowKit Plain
set_option linter.unusedVariables false

namespace Plain
/-- Headers that are not long. -/
def fitH (ls : List Hd) : Prop := ∀ h ∈ ls, h.1.size ≤ 1000 ∧ h.2.size ≤ 1000
end Plain
theorem Plain.addS {a b : ByteArray} (W : World) (h : a.size + b.size ≤ 1000000000000) : (Op.stringOp .add a b).run Tryz.prog W = .ok (.string (a ++ b)) W := by
  have hm : (a.size : Int) + (b.size : Int) ≤ 9223372036854775807 := by omega
  simp [Op.stringOp, hm]

/-- The library's table of the powers of ten is as its text lays it. -/
def Plain.P10 (W : World) : Prop := Lib.TabIs Tryz.prog W "internal/strconv.uint64pow10" .u64 Lib.pow10Tab
theorem Plain.P10.below {W W' : World} (h : P10 W) (hb : Below W.heap.size W W') : P10 W' := Go.Joins.tab_stays (g := 1) (by kernel_rfl) h hb (Nat.le_refl _)
/-- A number in decimal. -/
def Plain.decN (n : Nat) : ByteArray := ⟨(Lib.decDigits n).toArray⟩
theorem formatInt_calls (n : Nat) (w : World) (hP : P10 w) (hn : n ≤ 9223372036854775807) :
    Calls Tryz.prog 50 #[.int .i64 n, .int .i64 10] w fun e w' => e = .returned (.string (decN n)) ∧ Below w.heap.size w w' :=
  (Any.strconv_FormatInt_10 Tryz.lays173 (n : Int) (by omega) (by omega) w hP).mono fun e w' ⟨h1, k, os, h2⟩ => ⟨by rw [h1, Lib.itoa_nonneg]; rfl, by rw [h2]; exact Lib.below_grow _ _ (Nat.le_refl _) _ _⟩

namespace Plain
end Plain
end Go.Proofs.YtanekbifdedmeaaGreatDoor


/- Responses, as the exact laws copy, measure and compare them. -/
namespace Go.Proofs.YtanekbifdedmeaaGreatDoor
open Go.RowKit Plain
set_option linter.unusedVariables false

/-- A response among the arguments. -/
structure Plain.RspArg (W : World) (st : Int) (ah : Option Addr) (nh ch : Nat) (hs : List Hd) (bd : ByteArray) : Prop where
  s : (Lit.int .i64 st).wf = true
  h : ArgRow 2 hdrL goodH W ah nh ch hs
  b : bd.size ≤ maxLen
theorem Plain.RspArg.below {W W' : World} {st : Int} {ah : Option Addr} {nh ch : Nat} {hs : List Hd} {bd : ByteArray} (h : RspArg W st ah nh ch hs bd) (hb : Below W.heap.size W W') : RspArg W' st ah nh ch hs bd :=
  ⟨h.s, ⟨h.h.len, h.h.le, h.h.good, h.h.row.below hb⟩, h.b⟩
/-- A response's row. -/
structure Plain.RspAt (W : World) (st : Int) (ah : Option Addr) (nh : Nat) (hs : List Hd) (bd : ByteArray) : Prop where
  lh : hs.length = nh
  bh : nh ≤ 1048576
  sh : smallH hs
  sb : bd.size ≤ 1000000000
  rh : RowAt hdrE W ah hs
theorem Plain.RspAt.below {W W' : World} {st : Int} {ah : Option Addr} {nh : Nat} {hs : List Hd} {bd : ByteArray} (h : RspAt W st ah nh hs bd) (hb : Below W.heap.size W W') : RspAt W' st ah nh hs bd := ⟨h.lh, h.bh, h.sh, h.sb, h.rh.below hb⟩
/-- What is known of a response that is not too long. -/
structure Plain.RspSm (st : Int) (nh : Nat) (hs : List Hd) (bd : ByteArray) : Prop where
  lh : hs.length = nh
  bh : nh ≤ 1048576
  sh : smallH hs
  sb : bd.size ≤ 1000000000
theorem Plain.RspSm.at {W : World} {st : Int} {ah : Option Addr} {nh : Nat} {hs : List Hd} {bd : ByteArray} (h : RspSm st nh hs bd) (h2 : RowAt hdrE W ah hs) : RspAt W st ah nh hs bd := ⟨h.lh, h.bh, h.sh, h.sb, h2⟩
end Go.Proofs.YtanekbifdedmeaaGreatDoor


/- What the package variables hold that are laid: the table of the powers of ten. -/
namespace Go.Proofs.YtanekbifdedmeaaGreatDoor
open Go.ChangeShapes Go.WideShapes Go.ChangeAt Go.WideMaps Go.WideElems Go.RowKit Plain
set_option linter.unusedVariables false

theorem lvAt {P : Program} {w : World} : ∀ (laid : List (String × DataW Unit)) (ps : List MemPlace) (i : Nat) (n : String) (d : DataW Unit), DataW.LaidVars P w laid ps → laid[i]? = some (n, d) →
    ∃ g t cs fuel p, P.globalNamed n = some g ∧ (P.globals[g]?).map (·.type) = some t ∧ w.var? P n = some cs ∧ DataW.trod (fun _ => ()) P w 0 (fun _ => true) false fuel t cs.toList = some (d, p) := by
  intro laid
  induction laid with
  | nil => intro ps i n d _ h; simp at h
  | cons x r ih =>
    obtain ⟨n0, d0⟩ := x
    intro ps i n d h hi
    obtain ⟨g, t, cs, fuel, p, q, h1, h2, h3, h4, h5, _⟩ := h
    cases i with
    | zero =>
      obtain ⟨rfl, rfl⟩ : n0 = n ∧ d0 = d := by simpa using hi
      exact ⟨g, t, cs, fuel, p, h1, h2, h3, h4⟩
    | succ i => exact ih q i n d h5 (by simpa using hi)

theorem gP10 : Tryz.prog.globalNamed "internal/strconv.uint64pow10" = some 1 := by kernel_rfl
theorem tP10 : (Tryz.prog.globals[1]?).map (·.type) = some 182 := by kernel_rfl
theorem datumP10 : (Rows.laid_internal_strconv_uint64pow10 : DataW Unit) = Lib.tabData .u64 Lib.pow10Tab := by kernel_rfl
theorem pow_of_laid {W : World} {laid : List (String × DataW Unit)} {ps : List MemPlace} (h : DataW.LaidVars Tryz.prog W laid ps) (i : Nat) (hi : laid[i]? = some ("internal/strconv.uint64pow10", Rows.laid_internal_strconv_uint64pow10)) : P10 W := by
  obtain ⟨g0, t0, cs0, f0, p0, hg0, ht0, hv0, hd0⟩ := lvAt laid ps i _ _ h hi
  obtain rfl := Option.some.inj (gP10.symm.trans hg0)
  obtain rfl := Option.some.inj (tP10.symm.trans ht0)
  rw [datumP10] at hd0
  have e := Lib.cells_of_tab Tryz.underlying182 Tryz.underlying159 (by kernel_rfl) (by kernel_rfl) hd0
  unfold P10 Lib.TabIs
  rw [hv0, ← e]
end Go.Proofs.YtanekbifdedmeaaGreatDoor

