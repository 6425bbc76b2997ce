/-
  DERIVED. GIVEN WITH THE SEED: THE CARDS: each row of YtmienlnhbdbefaaGreatDoorRows.lean that lists a variable, with what it lists TIED to the program's text (the seventh form; the later family's looks); each row that meets fmt, with fmt's text TOLD by the authors' own Lean function (tested against real Go, not proved from fmt's source: count such statements apart). THE CARD IS WHAT COUNTS. Prove the row's statement (the work); the ties are given (YtmienlnhbdbefaaGreatDoorTie.lean); close each card by the builder's one call (the guide's Derived/Test/ToyasCard.lean, 'card_holds'). Laid BY PROGRAM, IN A SANDBOX (cutbox-door.mjs). By AI agents, Wed Nov 11 2026. No macro, syntax, notation, axiom, sorry.
-/
import Derived.Test.YtmienlnhbdbefaaGreatDoorRows
import GoSem.ClaimSeven
namespace Go.Proofs.YtmienlnhbdbefaaGreatDoor
namespace Rows

/-- THE TIED CARD OF 'laws.FnSpare'. -/
def fnSpareCard : Claim7 := { stood := { row := fnSpareRow, standIns := [], harness := (true, "1a6b96cb509e29af784529d998c8dd46b4d4e046641ac12e59e9c14f9e0c455a"), looks := false }, kinds := [], alts := [], laidByText := true, laidKinds := [.data, .data, .data, .data], laidTests := true, laidLooks := .later }
def FnSpareCardSaid : Prop := Claim7.holds Tryz.pinned (.plain (OpenSpec.ofChange fnSpareSpec)) fnSpareCard

/-- THE SECOND FORM's CARD OF 'laws.FnSpare'. -/
def fnSpareUptoCard : Claim7 := { stood := { row := fnSpareUptoRow, standIns := [], harness := (true, "1a6b96cb509e29af784529d998c8dd46b4d4e046641ac12e59e9c14f9e0c455a"), looks := false }, kinds := [], alts := [], laidByText := true, laidKinds := [.data, .data, .data, .data], laidTests := true, laidLooks := .later }
def FnSpareUptoCardSaid : Prop := Claim7.holds Tryz.pinned (.plain (OpenSpec.upto fnSpareSpec)) fnSpareUptoCard
end Rows
end Go.Proofs.YtmienlnhbdbefaaGreatDoor
