/-
  DERIVED. GIVEN WITH THE SEED: THE CARDS: each row of YtjjdeffmciknjaaDoorRows.lean that lists a variable, with what it lists TIED to the program's text (the seventh form; the later family's looks); each row that meets fmt, with fmt's text TOLD by the authors' own Lean function (tested against real Go, not proved from fmt's source: count such statements apart). THE CARD IS WHAT COUNTS. Prove the row's statement (the work); the ties are given (YtjjdeffmciknjaaDoorTie.lean); close each card by the builder's one call (the guide's Derived/Test/ToyasCard.lean, 'card_holds'). Laid BY PROGRAM, IN A SANDBOX (cutbox-door.mjs). By AI agents, Wed Nov 11 2026. No macro, syntax, notation, axiom, sorry.
-/
import Derived.Test.YtjjdeffmciknjaaDoorRows
import GoSem.ClaimSeven
namespace Go.Proofs.YtjjdeffmciknjaaDoor
namespace Rows

/-- THE TIED CARD OF 'laws.FnExactRequestOk'. -/
def fnExactRequestOkCard : Claim7 := { stood := { row := fnExactRequestOkRow, standIns := [], harness := (true, "f3c4d9ecfe1efaaaaea79c94a839e97b15e4b84218355218d31c9eeb181bbd7f"), looks := false }, kinds := [], alts := [], laidByText := true, laidKinds := [.data, .pinned], laidTests := true, laidLooks := .later }
def FnExactRequestOkCardSaid : Prop := Claim7.holds Tryd.pinned (.plain (OpenSpec.ofChange fnExactRequestOkSpec)) fnExactRequestOkCard

/-- THE TIED CARD OF 'laws.FnExactWriteRequest'. -/
def fnExactWriteRequestCard : Claim7 := { stood := { row := fnExactWriteRequestRow, standIns := [], harness := (true, "f3c4d9ecfe1efaaaaea79c94a839e97b15e4b84218355218d31c9eeb181bbd7f"), looks := false }, kinds := [], alts := [], laidByText := true, laidKinds := [.data, .data, .data, .data, .pinned], laidTests := true, laidLooks := .later }
def FnExactWriteRequestCardSaid : Prop := Claim7.holds Tryd.pinned (.plain (OpenSpec.ofChange fnExactWriteRequestSpec)) fnExactWriteRequestCard

/-- THE TIED CARD OF 'laws.FnExactWriteResponse'. -/
def fnExactWriteResponseCard : Claim7 := { stood := { row := fnExactWriteResponseRow, standIns := [], harness := (true, "f3c4d9ecfe1efaaaaea79c94a839e97b15e4b84218355218d31c9eeb181bbd7f"), looks := false }, kinds := [], alts := [], laidByText := true, laidKinds := [.data, .data, .data, .data, .pinned], laidTests := true, laidLooks := .later }
def FnExactWriteResponseCardSaid : Prop := Claim7.holds Tryd.pinned (.plain (OpenSpec.ofChange fnExactWriteResponseSpec)) fnExactWriteResponseCard

/-- THE SECOND FORM's CARD OF 'laws.FnExactRequestOk'. -/
def fnExactRequestOkUptoCard : Claim7 := { stood := { row := fnExactRequestOkUptoRow, standIns := [], harness := (true, "f3c4d9ecfe1efaaaaea79c94a839e97b15e4b84218355218d31c9eeb181bbd7f"), looks := false }, kinds := [], alts := [], laidByText := true, laidKinds := [.data, .pinned], laidTests := true, laidLooks := .later }
def FnExactRequestOkUptoCardSaid : Prop := Claim7.holds Tryd.pinned (.plain (OpenSpec.upto fnExactRequestOkSpec)) fnExactRequestOkUptoCard

/-- THE SECOND FORM's CARD OF 'laws.FnExactWriteRequest'. -/
def fnExactWriteRequestUptoCard : Claim7 := { stood := { row := fnExactWriteRequestUptoRow, standIns := [], harness := (true, "f3c4d9ecfe1efaaaaea79c94a839e97b15e4b84218355218d31c9eeb181bbd7f"), looks := false }, kinds := [], alts := [], laidByText := true, laidKinds := [.data, .data, .data, .data, .pinned], laidTests := true, laidLooks := .later }
def FnExactWriteRequestUptoCardSaid : Prop := Claim7.holds Tryd.pinned (.plain (OpenSpec.upto fnExactWriteRequestSpec)) fnExactWriteRequestUptoCard

/-- THE SECOND FORM's CARD OF 'laws.FnExactWriteResponse'. -/
def fnExactWriteResponseUptoCard : Claim7 := { stood := { row := fnExactWriteResponseUptoRow, standIns := [], harness := (true, "f3c4d9ecfe1efaaaaea79c94a839e97b15e4b84218355218d31c9eeb181bbd7f"), looks := false }, kinds := [], alts := [], laidByText := true, laidKinds := [.data, .data, .data, .data, .pinned], laidTests := true, laidLooks := .later }
def FnExactWriteResponseUptoCardSaid : Prop := Claim7.holds Tryd.pinned (.plain (OpenSpec.upto fnExactWriteResponseSpec)) fnExactWriteResponseUptoCard
end Rows
end Go.Proofs.YtjjdeffmciknjaaDoor
