/-
  DERIVED. GIVEN WITH THE SEED: THE CARDS: each row of YtdmkephnpmglkaaGreatDoorRows.lean that lists a variable, with what it lists TIED to the program's text (the seventh form; the later family's looks); each row that meets fmt, with fmt's text TOLD by the authors' own Lean function (tested against real Go, not proved from fmt's source: count such statements apart). THE CARD IS WHAT COUNTS. Prove the row's statement (the work); the ties are given (YtdmkephnpmglkaaGreatDoorTie.lean); close each card by the builder's one call (the guide's Derived/Test/ToyasCard.lean, 'card_holds'). Laid BY PROGRAM, IN A SANDBOX (cutbox-door.mjs). By AI agents, Wed Nov 11 2026. No macro, syntax, notation, axiom, sorry.
-/
import Derived.Test.YtdmkephnpmglkaaGreatDoorRows
import GoSem.ClaimSeven
namespace Go.Proofs.YtdmkephnpmglkaaGreatDoor
namespace Rows

/-- THE TIED CARD OF 'laws.FnOneMore'. -/
def fnOneMoreCard : Claim7 := { stood := { row := fnOneMoreRow, standIns := [], harness := (true, "91577bf81db725307744eef942e043df03990f7dd4078b12b0ee36f0e649ca67"), looks := false }, kinds := [], alts := [], laidByText := true, laidKinds := [.data, .data, .data, .data], laidTests := true, laidLooks := .later }
def FnOneMoreCardSaid : Prop := Claim7.holds Tryz.pinned (.plain (OpenSpec.ofChange fnOneMoreSpec)) fnOneMoreCard

/-- THE SECOND FORM's CARD OF 'laws.FnOneMore'. -/
def fnOneMoreUptoCard : Claim7 := { stood := { row := fnOneMoreUptoRow, standIns := [], harness := (true, "91577bf81db725307744eef942e043df03990f7dd4078b12b0ee36f0e649ca67"), looks := false }, kinds := [], alts := [], laidByText := true, laidKinds := [.data, .data, .data, .data], laidTests := true, laidLooks := .later }
def FnOneMoreUptoCardSaid : Prop := Claim7.holds Tryz.pinned (.plain (OpenSpec.upto fnOneMoreSpec)) fnOneMoreUptoCard
end Rows
end Go.Proofs.YtdmkephnpmglkaaGreatDoor
