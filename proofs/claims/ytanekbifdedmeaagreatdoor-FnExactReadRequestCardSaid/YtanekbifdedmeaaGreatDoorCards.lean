/-
  DERIVED. GIVEN WITH THE SEED: THE CARDS: each row of YtanekbifdedmeaaGreatDoorRows.lean that lists a variable, with what it lists TIED to the program's text (the seventh form; the later family's looks); each row that meets fmt, with fmt's text TOLD by the authors' own Lean function (tested against real Go, not proved from fmt's source: count such statements apart). THE CARD IS WHAT COUNTS. Prove the row's statement (the work); the ties are given (YtanekbifdedmeaaGreatDoorTie.lean); close each card by the builder's one call (the guide's Derived/Test/ToyasCard.lean, 'card_holds'). Laid BY PROGRAM, IN A SANDBOX (cutbox-door.mjs). By AI agents, Wed Nov 11 2026. No macro, syntax, notation, axiom, sorry.
-/
import Derived.Test.YtanekbifdedmeaaGreatDoorRows
import GoSem.ClaimSeven
namespace Go.Proofs.YtanekbifdedmeaaGreatDoor
namespace Rows

/-- THE TIED CARD OF 'laws.FnRequests'. -/
def fnRequestsCard : Claim7 := { stood := { row := fnRequestsRow, standIns := [], harness := (true, "8657b4486eb39ee59ee151beac71288829ef5cf3957e10234b17439a8b5b5914"), looks := true }, kinds := [], alts := [], laidByText := true, laidKinds := [.data, .data, .data, .data, .handle, .sentinel, .sentinel, .pinned], laidTests := true, laidLooks := .later }
def FnRequestsCardSaid : Prop := Claim7.holds Tryz.pinned (.plain (OpenSpec.ofChange fnRequestsSpec)) fnRequestsCard

/-- THE TIED CARD OF 'laws.FnResponses'. -/
def fnResponsesCard : Claim7 := { stood := { row := fnResponsesRow, standIns := [], harness := (true, "8657b4486eb39ee59ee151beac71288829ef5cf3957e10234b17439a8b5b5914"), looks := true }, kinds := [], alts := [], laidByText := true, laidKinds := [.data, .data, .data, .data, .sentinel, .sentinel, .pinned], laidTests := true, laidLooks := .later }
def FnResponsesCardSaid : Prop := Claim7.holds Tryz.pinned (.plain (OpenSpec.ofChange fnResponsesSpec)) fnResponsesCard

/-- THE TIED CARD OF 'laws.FnExactReadRequest'. -/
def fnExactReadRequestCard : Claim7 := { stood := { row := fnExactReadRequestRow, standIns := [], harness := (true, "8657b4486eb39ee59ee151beac71288829ef5cf3957e10234b17439a8b5b5914"), looks := true }, kinds := [], alts := [], laidByText := true, laidKinds := [.data, .data, .data, .data, .handle, .sentinel, .sentinel, .pinned], laidTests := true, laidLooks := .later }
def FnExactReadRequestCardSaid : Prop := Claim7.holds Tryz.pinned (.plain (OpenSpec.ofChange fnExactReadRequestSpec)) fnExactReadRequestCard

/-- THE TIED CARD OF 'laws.FnExactReadResponse'. -/
def fnExactReadResponseCard : Claim7 := { stood := { row := fnExactReadResponseRow, standIns := [], harness := (true, "8657b4486eb39ee59ee151beac71288829ef5cf3957e10234b17439a8b5b5914"), looks := true }, kinds := [], alts := [], laidByText := true, laidKinds := [.data, .data, .data, .data, .sentinel, .sentinel, .pinned], laidTests := true, laidLooks := .later }
def FnExactReadResponseCardSaid : Prop := Claim7.holds Tryz.pinned (.plain (OpenSpec.ofChange fnExactReadResponseSpec)) fnExactReadResponseCard

/-- THE SECOND FORM's CARD OF 'laws.FnRequests'. -/
def fnRequestsUptoCard : Claim7 := { stood := { row := fnRequestsUptoRow, standIns := [], harness := (true, "8657b4486eb39ee59ee151beac71288829ef5cf3957e10234b17439a8b5b5914"), looks := true }, kinds := [], alts := [], laidByText := true, laidKinds := [.data, .data, .data, .data, .handle, .sentinel, .sentinel, .pinned], laidTests := true, laidLooks := .later }
def FnRequestsUptoCardSaid : Prop := Claim7.holds Tryz.pinned (.plain (OpenSpec.upto fnRequestsSpec)) fnRequestsUptoCard

/-- THE SECOND FORM's CARD OF 'laws.FnResponses'. -/
def fnResponsesUptoCard : Claim7 := { stood := { row := fnResponsesUptoRow, standIns := [], harness := (true, "8657b4486eb39ee59ee151beac71288829ef5cf3957e10234b17439a8b5b5914"), looks := true }, kinds := [], alts := [], laidByText := true, laidKinds := [.data, .data, .data, .data, .sentinel, .sentinel, .pinned], laidTests := true, laidLooks := .later }
def FnResponsesUptoCardSaid : Prop := Claim7.holds Tryz.pinned (.plain (OpenSpec.upto fnResponsesSpec)) fnResponsesUptoCard

/-- THE SECOND FORM's CARD OF 'laws.FnExactReadRequest'. -/
def fnExactReadRequestUptoCard : Claim7 := { stood := { row := fnExactReadRequestUptoRow, standIns := [], harness := (true, "8657b4486eb39ee59ee151beac71288829ef5cf3957e10234b17439a8b5b5914"), looks := true }, kinds := [], alts := [], laidByText := true, laidKinds := [.data, .data, .data, .data, .handle, .sentinel, .sentinel, .pinned], laidTests := true, laidLooks := .later }
def FnExactReadRequestUptoCardSaid : Prop := Claim7.holds Tryz.pinned (.plain (OpenSpec.upto fnExactReadRequestSpec)) fnExactReadRequestUptoCard

/-- THE SECOND FORM's CARD OF 'laws.FnExactReadResponse'. -/
def fnExactReadResponseUptoCard : Claim7 := { stood := { row := fnExactReadResponseUptoRow, standIns := [], harness := (true, "8657b4486eb39ee59ee151beac71288829ef5cf3957e10234b17439a8b5b5914"), looks := true }, kinds := [], alts := [], laidByText := true, laidKinds := [.data, .data, .data, .data, .sentinel, .sentinel, .pinned], laidTests := true, laidLooks := .later }
def FnExactReadResponseUptoCardSaid : Prop := Claim7.holds Tryz.pinned (.plain (OpenSpec.upto fnExactReadResponseSpec)) fnExactReadResponseUptoCard
end Rows
end Go.Proofs.YtanekbifdedmeaaGreatDoor
