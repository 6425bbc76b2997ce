/- Texts of one kind, put together. -/
import Derived.Test.YtknpccpfjclngaaGAA
import Derived.Lib.Bytealg
import Derived.Test.YtknpccpfjclngaaGAB
import Derived.Test.YtknpccpfjclngaaGen
import Derived.Deep.RegionLaw
import Derived.Laws.Rows
import Derived.OneCell
import Derived.Test.YtknpccpfjclngaaDrawB

/- Digits of 16: what the two programs tell of one byte; what a digest is; Nibble. -/
namespace Go.Proofs.Ytknpccpfjclngaa
open Go.RowKit Plain
set_option linter.unusedVariables false

namespace Plain
end Plain





end Go.Proofs.Ytknpccpfjclngaa


/- What a digest is: DigestOk and Nibble of both programs by their contracts. -/
namespace Go.Proofs.Ytknpccpfjclngaa
open Go.RowKit Plain
set_option linter.unusedVariables false

namespace Plain
end Plain







end Go.Proofs.Ytknpccpfjclngaa


/- Manifests as plain mathematics: when one is right, its text, what is read of a text. -/
namespace Go.Proofs.Ytknpccpfjclngaa
open Go.RowKit Plain
set_option linter.unusedVariables false
namespace Plain
end Plain
end Go.Proofs.Ytknpccpfjclngaa


/- Manifests: when one is right, and its text: both programs by their contracts. -/
namespace Go.Proofs.Ytknpccpfjclngaa
open Go.RowKit Plain
set_option linter.unusedVariables false

namespace Plain
theorem bel1 (w : World) (o : Obj) : Below w.heap.size w (w.alloc o) := (Below.refl _ _).alloc (Nat.le_refl _) _
theorem bcl {w w' : World} {B : Nat} (h : Below B w w') {g i : Nat} {v : Value} (hg : g < B) (hc : w.cell? ⟨g, i, none⟩ = some v) : w'.cell? ⟨g, i, none⟩ = some v := (h.cell (p := ⟨g, i, none⟩) hg).trans hc
theorem belOn {w W W' : World} (h0 : Below w.heap.size w W) (h1 : Below W.heap.size W W') : Below w.heap.size w W' := h0.trans (h1.mono h0.size)
end Plain









end Go.Proofs.Ytknpccpfjclngaa


/- What is left of a purse. -/
namespace Go.Proofs.Ytknpccpfjclngaa.Plain
open Go.RowKit
set_option linter.unusedVariables false
/-- What is left of a purse behind n. -/
def purse (left : Int) (n : Nat) : Int := if left < n then -1 else left - n
end Go.Proofs.Ytknpccpfjclngaa.Plain


/- A whole row is appended to a row of the call's own. -/
namespace Go.Proofs.Ytknpccpfjclngaa
open Go.RowKit Plain
set_option linter.unusedVariables false

/-- How a slice's address may be. -/
def Plain.AdG (ad : Option Addr) (c : Nat) : Prop := (ad = none ∧ c = 0) ∨ ∃ g, ad = some ⟨g, 0, none⟩
end Go.Proofs.Ytknpccpfjclngaa


/- The text that DrawSum draws is short. -/
namespace Go.Proofs.Ytknpccpfjclngaa
open Go.RowKit Plain
set_option linter.unusedVariables false

theorem Plain.Rd.onlyB {w w' : World} {R B : Nat} {a : Option Addr} {len cap : Nat} {zs : List Int} (h : Rd w R a len cap zs) (hb : Below B w w') (hR : R < B) : Rd w' R a len cap zs := by
  obtain ⟨p, h⟩ := h
  refine ⟨p, ⟨(hb.cell (p := ⟨R, 0, none⟩) hR).trans h.c0, (hb.cell (p := ⟨R, 1, none⟩) hR).trans h.c1, (hb.frozen (p := ⟨R, 1, none⟩) hR).trans h.fz, h.le, h.small, ?_, h.apart⟩⟩
  rcases h.row with hr | ⟨x, hx, h1, h2, h3, h4, h5⟩
  · exact .inl hr
  · refine .inr ⟨x, hx, h1, h2, h3, fun i hi => ?_, h5⟩
    have hbk : (x.add i).block = x.block := by unfold Addr.add; split <;> rfl
    rw [hb.cell (p := x.add i) (by rw [hbk]; have := h.apart x hx (by omega); omega)]
    exact h4 i hi

end Go.Proofs.Ytknpccpfjclngaa


/- A row that is owned, behind a cell that is written elsewhere. -/
namespace Go.Proofs.Ytknpccpfjclngaa
open Go.RowKit Plain
set_option linter.unusedVariables false

theorem OwnR.onlN {α : Type} {e : Elem α} {W w' : World} {B : Nat} {v : Value} {xs : List α} {q : Addr} (h : OwnR e W B v xs) (ho : OnlyAt q W w') (hq : q.block < B) : OwnR e w' B v xs := by
  have hlt := h.lt
  refine ⟨h.1, ?_⟩
  rcases h.2 with ⟨a, c⟩ | ⟨g, cap, cur, rfl, c, d, r⟩
  · exact .inl ⟨a, c⟩
  · exact .inr ⟨g, cap, cur, rfl, c, (ho.block g (hlt g rfl) (by omega)).trans d, r⟩
end Go.Proofs.Ytknpccpfjclngaa

