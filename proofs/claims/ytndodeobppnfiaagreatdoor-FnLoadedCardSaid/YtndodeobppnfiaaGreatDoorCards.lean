/-
  DERIVED. GIVEN WITH THE SEED: THE CARDS: each row of YtndodeobppnfiaaGreatDoorRows.lean that lists a variable, with what it lists TIED to the program's text (the seventh form; the later family's looks); each row that meets fmt, with fmt's text TOLD by the authors' own Lean function (tested against real Go, not proved from fmt's source: count such statements apart). THE CARD IS WHAT COUNTS. Prove the row's statement (the work); the ties are given (YtndodeobppnfiaaGreatDoorTie.lean); close each card by the builder's one call (the guide's Derived/Test/ToyasCard.lean, 'card_holds'). Laid BY PROGRAM, IN A SANDBOX (cutbox-door.mjs). By AI agents, Wed Nov 11 2026. No macro, syntax, notation, axiom, sorry.
-/
import Derived.Test.YtndodeobppnfiaaGreatDoorRows
import GoSem.ClaimSeven
namespace Go.Proofs.YtndodeobppnfiaaGreatDoor
namespace Rows

/-- THE TIED CARD OF 'laws.FnLoaded'. -/
def fnLoadedCard : Claim7 := { stood := { row := fnLoadedRow, standIns := [], harness := (true, "3c9667c208128f39003bcace4fde134e089d81c0287d76b3dedf671a687910bb"), looks := false }, kinds := [], alts := [], laidByText := true, laidKinds := [.data, .data, .data, .data], laidTests := true, laidLooks := .later }
def FnLoadedCardSaid : Prop := Claim7.holds Tryz.pinned (.plain (OpenSpec.ofChange fnLoadedSpec)) fnLoadedCard

/-- THE SECOND FORM's CARD OF 'laws.FnLoaded'. -/
def fnLoadedUptoCard : Claim7 := { stood := { row := fnLoadedUptoRow, standIns := [], harness := (true, "3c9667c208128f39003bcace4fde134e089d81c0287d76b3dedf671a687910bb"), looks := false }, kinds := [], alts := [], laidByText := true, laidKinds := [.data, .data, .data, .data], laidTests := true, laidLooks := .later }
def FnLoadedUptoCardSaid : Prop := Claim7.holds Tryz.pinned (.plain (OpenSpec.upto fnLoadedSpec)) fnLoadedUptoCard
end Rows
end Go.Proofs.YtndodeobppnfiaaGreatDoor
