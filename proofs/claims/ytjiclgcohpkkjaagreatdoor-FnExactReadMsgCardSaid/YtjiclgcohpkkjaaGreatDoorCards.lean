/-
  DERIVED. GIVEN WITH THE SEED: THE CARDS: each row of YtjiclgcohpkkjaaGreatDoorRows.lean that lists a variable, with what it lists TIED to the program's text (the seventh form; the later family's looks); each row that meets fmt, with fmt's text TOLD by the authors' own Lean function (tested against real Go, not proved from fmt's source: count such statements apart). THE CARD IS WHAT COUNTS. Prove the row's statement (the work); the ties are given (YtjiclgcohpkkjaaGreatDoorTie.lean); close each card by the builder's one call (the guide's Derived/Test/ToyasCard.lean, 'card_holds'). Laid BY PROGRAM, IN A SANDBOX (cutbox-door.mjs). By AI agents, Wed Nov 11 2026. No macro, syntax, notation, axiom, sorry.
-/
import Derived.Test.YtjiclgcohpkkjaaGreatDoorRows
import GoSem.ClaimSeven
namespace Go.Proofs.YtjiclgcohpkkjaaGreatDoor
namespace Rows

/-- THE TIED CARD OF 'laws.FnExactReadMsg'. -/
def fnExactReadMsgCard : Claim7 := { stood := { row := fnExactReadMsgRow, standIns := [], harness := (true, "d7e31913c6294c03d5cfb20a17656f40508e062826b3858c283f9863d9e7f7d3"), looks := true }, kinds := [], alts := [], laidByText := true, laidKinds := [.data, .data, .data, .data, .sentinel, .sentinel, .pinned], laidTests := true, laidLooks := .later }
def FnExactReadMsgCardSaid : Prop := Claim7.holds Tryz.pinned (.plain (OpenSpec.ofChange fnExactReadMsgSpec)) fnExactReadMsgCard

/-- THE TIED CARD OF 'laws.FnMessages'. -/
def fnMessagesCard : Claim7 := { stood := { row := fnMessagesRow, standIns := [], harness := (true, "d7e31913c6294c03d5cfb20a17656f40508e062826b3858c283f9863d9e7f7d3"), looks := true }, kinds := [], alts := [], laidByText := true, laidKinds := [.data, .data, .data, .data, .sentinel, .sentinel, .pinned], laidTests := true, laidLooks := .later }
def FnMessagesCardSaid : Prop := Claim7.holds Tryz.pinned (.plain (OpenSpec.ofChange fnMessagesSpec)) fnMessagesCard

/-- THE SECOND FORM's CARD OF 'laws.FnExactReadMsg'. -/
def fnExactReadMsgUptoCard : Claim7 := { stood := { row := fnExactReadMsgUptoRow, standIns := [], harness := (true, "d7e31913c6294c03d5cfb20a17656f40508e062826b3858c283f9863d9e7f7d3"), looks := true }, kinds := [], alts := [], laidByText := true, laidKinds := [.data, .data, .data, .data, .sentinel, .sentinel, .pinned], laidTests := true, laidLooks := .later }
def FnExactReadMsgUptoCardSaid : Prop := Claim7.holds Tryz.pinned (.plain (OpenSpec.upto fnExactReadMsgSpec)) fnExactReadMsgUptoCard

/-- THE SECOND FORM's CARD OF 'laws.FnMessages'. -/
def fnMessagesUptoCard : Claim7 := { stood := { row := fnMessagesUptoRow, standIns := [], harness := (true, "d7e31913c6294c03d5cfb20a17656f40508e062826b3858c283f9863d9e7f7d3"), looks := true }, kinds := [], alts := [], laidByText := true, laidKinds := [.data, .data, .data, .data, .sentinel, .sentinel, .pinned], laidTests := true, laidLooks := .later }
def FnMessagesUptoCardSaid : Prop := Claim7.holds Tryz.pinned (.plain (OpenSpec.upto fnMessagesSpec)) fnMessagesUptoCard
end Rows
end Go.Proofs.YtjiclgcohpkkjaaGreatDoor
