/-
  DERIVED. GIVEN WITH THE SEED: THE CARDS: each row of YtmicacoegkmklaaGreatDoorRows.lean that lists a variable, with what it lists TIED to the program's text (the seventh form; the later family's looks); each row that meets fmt, with fmt's text TOLD by the authors' own Lean function (tested against real Go, not proved from fmt's source: count such statements apart). THE CARD IS WHAT COUNTS. Prove the row's statement (the work); the ties are given (YtmicacoegkmklaaGreatDoorTie.lean); close each card by the builder's one call (the guide's Derived/Test/ToyasCard.lean, 'card_holds'). Laid BY PROGRAM, IN A SANDBOX (cutbox-door.mjs). By AI agents, Wed Nov 11 2026. No macro, syntax, notation, axiom, sorry.
-/
import Derived.Test.YtmicacoegkmklaaGreatDoorRows
import GoSem.ClaimSeven
namespace Go.Proofs.YtmicacoegkmklaaGreatDoor
namespace Rows

/-- THE TIED CARD OF 'laws.FnExactPlan'. -/
def fnExactPlanCard : Claim7 := { stood := { row := fnExactPlanRow, standIns := [], harness := (true, "44a7c6476becad9d07db73ceca57aa65460e2819fe546cbd06bb838958a82840"), looks := false }, kinds := [], alts := [], laidByText := true, laidKinds := [.data, .data, .data, .data], laidTests := true, laidLooks := .later }
def FnExactPlanCardSaid : Prop := Claim7.holds Tryz.pinned (.plain (OpenSpec.ofChange fnExactPlanSpec)) fnExactPlanCard

/-- THE TIED CARD OF 'laws.FnExactSpare'. -/
def fnExactSpareCard : Claim7 := { stood := { row := fnExactSpareRow, standIns := [], harness := (true, "44a7c6476becad9d07db73ceca57aa65460e2819fe546cbd06bb838958a82840"), looks := false }, kinds := [], alts := [], laidByText := true, laidKinds := [.data, .data, .data, .data], laidTests := true, laidLooks := .later }
def FnExactSpareCardSaid : Prop := Claim7.holds Tryz.pinned (.plain (OpenSpec.ofChange fnExactSpareSpec)) fnExactSpareCard

/-- THE SECOND FORM's CARD OF 'laws.FnExactPlan'. -/
def fnExactPlanUptoCard : Claim7 := { stood := { row := fnExactPlanUptoRow, standIns := [], harness := (true, "44a7c6476becad9d07db73ceca57aa65460e2819fe546cbd06bb838958a82840"), looks := false }, kinds := [], alts := [], laidByText := true, laidKinds := [.data, .data, .data, .data], laidTests := true, laidLooks := .later }
def FnExactPlanUptoCardSaid : Prop := Claim7.holds Tryz.pinned (.plain (OpenSpec.upto fnExactPlanSpec)) fnExactPlanUptoCard

/-- THE SECOND FORM's CARD OF 'laws.FnExactSpare'. -/
def fnExactSpareUptoCard : Claim7 := { stood := { row := fnExactSpareUptoRow, standIns := [], harness := (true, "44a7c6476becad9d07db73ceca57aa65460e2819fe546cbd06bb838958a82840"), looks := false }, kinds := [], alts := [], laidByText := true, laidKinds := [.data, .data, .data, .data], laidTests := true, laidLooks := .later }
def FnExactSpareUptoCardSaid : Prop := Claim7.holds Tryz.pinned (.plain (OpenSpec.upto fnExactSpareSpec)) fnExactSpareUptoCard
end Rows
end Go.Proofs.YtmicacoegkmklaaGreatDoor
