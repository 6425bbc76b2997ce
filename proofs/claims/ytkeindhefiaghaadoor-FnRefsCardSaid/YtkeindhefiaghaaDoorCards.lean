/-
  DERIVED. GIVEN WITH THE SEED: THE CARDS: each row of YtkeindhefiaghaaDoorRows.lean that lists a variable, with what it lists TIED to the program's text (the seventh form; the later family's looks); each row that meets fmt, with fmt's text TOLD by the authors' own Lean function (tested against real Go, not proved from fmt's source: count such statements apart). THE CARD IS WHAT COUNTS. Prove the row's statement (the work); the ties are given (YtkeindhefiaghaaDoorTie.lean); close each card by the builder's one call (the guide's Derived/Test/ToyasCard.lean, 'card_holds'). Laid BY PROGRAM, IN A SANDBOX (cutbox-door.mjs). By AI agents, Wed Nov 11 2026. No macro, syntax, notation, axiom, sorry.
-/
import Derived.Test.YtkeindhefiaghaaDoorRows
import GoSem.ClaimSeven
namespace Go.Proofs.YtkeindhefiaghaaDoor
namespace Rows

/-- THE TIED CARD OF 'laws.FnRefs'. -/
def fnRefsCard : Claim7 := { stood := { row := fnRefsRow, standIns := [], harness := (true, "59ec05d2d96741a128b28fbb3a0828e9cd19858c16e48a9fb3e7dcd18d99382e"), looks := false }, kinds := [], alts := [], laidByText := true, laidKinds := [.data, .pinned], laidTests := true, laidLooks := .later }
def FnRefsCardSaid : Prop := Claim7.holds Tryd.pinned (.plain (OpenSpec.ofChange fnRefsSpec)) fnRefsCard

/-- THE TIED CARD OF 'laws.FnExactRepoOk'. -/
def fnExactRepoOkCard : Claim7 := { stood := { row := fnExactRepoOkRow, standIns := [], harness := (true, "59ec05d2d96741a128b28fbb3a0828e9cd19858c16e48a9fb3e7dcd18d99382e"), looks := false }, kinds := [], alts := [], laidByText := true, laidKinds := [.data, .pinned], laidTests := true, laidLooks := .later }
def FnExactRepoOkCardSaid : Prop := Claim7.holds Tryd.pinned (.plain (OpenSpec.ofChange fnExactRepoOkSpec)) fnExactRepoOkCard

/-- THE TIED CARD OF 'laws.FnExactReadRef'. -/
def fnExactReadRefCard : Claim7 := { stood := { row := fnExactReadRefRow, standIns := [], harness := (true, "59ec05d2d96741a128b28fbb3a0828e9cd19858c16e48a9fb3e7dcd18d99382e"), looks := false }, kinds := [], alts := [], laidByText := true, laidKinds := [.data, .pinned], laidTests := true, laidLooks := .later }
def FnExactReadRefCardSaid : Prop := Claim7.holds Tryd.pinned (.plain (OpenSpec.ofChange fnExactReadRefSpec)) fnExactReadRefCard

/-- THE TIED CARD OF 'laws.FnExactWriteRef'. -/
def fnExactWriteRefCard : Claim7 := { stood := { row := fnExactWriteRefRow, standIns := [], harness := (true, "59ec05d2d96741a128b28fbb3a0828e9cd19858c16e48a9fb3e7dcd18d99382e"), looks := false }, kinds := [], alts := [], laidByText := true, laidKinds := [.data, .pinned], laidTests := true, laidLooks := .later }
def FnExactWriteRefCardSaid : Prop := Claim7.holds Tryd.pinned (.plain (OpenSpec.ofChange fnExactWriteRefSpec)) fnExactWriteRefCard

/-- THE SECOND FORM's CARD OF 'laws.FnRefs'. -/
def fnRefsUptoCard : Claim7 := { stood := { row := fnRefsUptoRow, standIns := [], harness := (true, "59ec05d2d96741a128b28fbb3a0828e9cd19858c16e48a9fb3e7dcd18d99382e"), looks := false }, kinds := [], alts := [], laidByText := true, laidKinds := [.data, .pinned], laidTests := true, laidLooks := .later }
def FnRefsUptoCardSaid : Prop := Claim7.holds Tryd.pinned (.plain (OpenSpec.upto fnRefsSpec)) fnRefsUptoCard

/-- THE SECOND FORM's CARD OF 'laws.FnExactRepoOk'. -/
def fnExactRepoOkUptoCard : Claim7 := { stood := { row := fnExactRepoOkUptoRow, standIns := [], harness := (true, "59ec05d2d96741a128b28fbb3a0828e9cd19858c16e48a9fb3e7dcd18d99382e"), looks := false }, kinds := [], alts := [], laidByText := true, laidKinds := [.data, .pinned], laidTests := true, laidLooks := .later }
def FnExactRepoOkUptoCardSaid : Prop := Claim7.holds Tryd.pinned (.plain (OpenSpec.upto fnExactRepoOkSpec)) fnExactRepoOkUptoCard

/-- THE SECOND FORM's CARD OF 'laws.FnExactReadRef'. -/
def fnExactReadRefUptoCard : Claim7 := { stood := { row := fnExactReadRefUptoRow, standIns := [], harness := (true, "59ec05d2d96741a128b28fbb3a0828e9cd19858c16e48a9fb3e7dcd18d99382e"), looks := false }, kinds := [], alts := [], laidByText := true, laidKinds := [.data, .pinned], laidTests := true, laidLooks := .later }
def FnExactReadRefUptoCardSaid : Prop := Claim7.holds Tryd.pinned (.plain (OpenSpec.upto fnExactReadRefSpec)) fnExactReadRefUptoCard

/-- THE SECOND FORM's CARD OF 'laws.FnExactWriteRef'. -/
def fnExactWriteRefUptoCard : Claim7 := { stood := { row := fnExactWriteRefUptoRow, standIns := [], harness := (true, "59ec05d2d96741a128b28fbb3a0828e9cd19858c16e48a9fb3e7dcd18d99382e"), looks := false }, kinds := [], alts := [], laidByText := true, laidKinds := [.data, .pinned], laidTests := true, laidLooks := .later }
def FnExactWriteRefUptoCardSaid : Prop := Claim7.holds Tryd.pinned (.plain (OpenSpec.upto fnExactWriteRefSpec)) fnExactWriteRefUptoCard
end Rows
end Go.Proofs.YtkeindhefiaghaaDoor
