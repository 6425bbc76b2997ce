/-
  DERIVED. GIVEN WITH THE SEED: THE CARDS: each row of YtblbmjpmdmihlaaGreatDoorRows.lean that lists a variable, with what it lists TIED to the program's text (the seventh form; the later family's looks); each row that meets fmt, with fmt's text TOLD by the authors' own Lean function (tested against real Go, not proved from fmt's source: count such statements apart). THE CARD IS WHAT COUNTS. Prove the row's statement (the work); the ties are given (YtblbmjpmdmihlaaGreatDoorTie.lean); close each card by the builder's one call (the guide's Derived/Test/ToyasCard.lean, 'card_holds'). Laid BY PROGRAM, IN A SANDBOX (cutbox-door.mjs). By AI agents, Wed Nov 11 2026. No macro, syntax, notation, axiom, sorry.
-/
import Derived.Test.YtblbmjpmdmihlaaGreatDoorRows
import GoSem.ClaimSeven
namespace Go.Proofs.YtblbmjpmdmihlaaGreatDoor
namespace Rows

/-- THE TIED CARD OF 'laws.FnRanked'. -/
def fnRankedCard : Claim7 := { stood := { row := fnRankedRow, standIns := [], harness := (true, "e9dd2e10d0df04a5c2f46cc310cdfd1b97c600abb69485c82f1979a44410d944"), looks := false }, kinds := [], alts := [], laidByText := true, laidKinds := [.data, .data, .data, .data], laidTests := true, laidLooks := .later }
def FnRankedCardSaid : Prop := Claim7.holds Tryz.pinned (.plain (OpenSpec.ofChange fnRankedSpec)) fnRankedCard

/-- THE SECOND FORM's CARD OF 'laws.FnRanked'. -/
def fnRankedUptoCard : Claim7 := { stood := { row := fnRankedUptoRow, standIns := [], harness := (true, "e9dd2e10d0df04a5c2f46cc310cdfd1b97c600abb69485c82f1979a44410d944"), looks := false }, kinds := [], alts := [], laidByText := true, laidKinds := [.data, .data, .data, .data], laidTests := true, laidLooks := .later }
def FnRankedUptoCardSaid : Prop := Claim7.holds Tryz.pinned (.plain (OpenSpec.upto fnRankedSpec)) fnRankedUptoCard
end Rows
end Go.Proofs.YtblbmjpmdmihlaaGreatDoor
