/-
  DERIVED. GIVEN WITH THE SEED: THE CARDS: each row of YtbcfejplaffbnaaGreatDoorRows.lean that lists a variable, with what it lists TIED to the program's text (the seventh form; the later family's looks); each row that meets fmt, with fmt's text TOLD by the authors' own Lean function (tested against real Go, not proved from fmt's source: count such statements apart). THE CARD IS WHAT COUNTS. Prove the row's statement (the work); the ties are given (YtbcfejplaffbnaaGreatDoorTie.lean); close each card by the builder's one call (the guide's Derived/Test/ToyasCard.lean, 'card_holds'). Laid BY PROGRAM, IN A SANDBOX (cutbox-door.mjs). By AI agents, Wed Nov 11 2026. No macro, syntax, notation, axiom, sorry.
-/
import Derived.Test.YtbcfejplaffbnaaGreatDoorRows
import GoSem.ClaimSeven
namespace Go.Proofs.YtbcfejplaffbnaaGreatDoor
namespace Rows

/-- THE TIED CARD OF 'laws.FnExactMoves'. -/
def fnExactMovesCard : Claim7 := { stood := { row := fnExactMovesRow, standIns := [], harness := (true, "f531ef0c122582da15f695d58b9875d51aac45a62a9bbc471b2e25d28c76c1bc"), looks := false }, kinds := [], alts := [], laidByText := true, laidKinds := [.data, .data, .data, .data], laidTests := true, laidLooks := .later }
def FnExactMovesCardSaid : Prop := Claim7.holds Tryz.pinned (.plain (OpenSpec.ofChange fnExactMovesSpec)) fnExactMovesCard

/-- THE SECOND FORM's CARD OF 'laws.FnExactMoves'. -/
def fnExactMovesUptoCard : Claim7 := { stood := { row := fnExactMovesUptoRow, standIns := [], harness := (true, "f531ef0c122582da15f695d58b9875d51aac45a62a9bbc471b2e25d28c76c1bc"), looks := false }, kinds := [], alts := [], laidByText := true, laidKinds := [.data, .data, .data, .data], laidTests := true, laidLooks := .later }
def FnExactMovesUptoCardSaid : Prop := Claim7.holds Tryz.pinned (.plain (OpenSpec.upto fnExactMovesSpec)) fnExactMovesUptoCard
end Rows
end Go.Proofs.YtbcfejplaffbnaaGreatDoor
