/-
  DERIVED. GIVEN WITH THE SEED: THE CARDS: each row of YtbcfejplaffbnaaDoorRows.lean that lists a variable, with what it lists TIED to the program's text (the seventh form; the later family's looks); each row that meets fmt, with fmt's text TOLD by the authors' own Lean function (tested against real Go, not proved from fmt's source: count such statements apart). THE CARD IS WHAT COUNTS. Prove the row's statement (the work); the ties are given (YtbcfejplaffbnaaDoorTie.lean); close each card by the builder's one call (the guide's Derived/Test/ToyasCard.lean, 'card_holds'). Laid BY PROGRAM, IN A SANDBOX (cutbox-door.mjs). By AI agents, Wed Nov 11 2026. No macro, syntax, notation, axiom, sorry.
-/
import Derived.Test.YtbcfejplaffbnaaDoorRows
import GoSem.ClaimSeven
namespace Go.Proofs.YtbcfejplaffbnaaDoor
namespace Rows

/-- THE TIED CARD OF 'laws.FnExactRanked'. -/
def fnExactRankedCard : Claim7 := { stood := { row := fnExactRankedRow, standIns := [], harness := (true, "f5ccb19c57c1d8b1e22590495cfeca23fefe139954f6ce121729e6ffb228703b"), looks := false }, kinds := [], alts := [], laidByText := true, laidKinds := [.data, .data, .data, .data], laidTests := true, laidLooks := .later }
def FnExactRankedCardSaid : Prop := Claim7.holds Tryd.pinned (.plain (OpenSpec.ofChange fnExactRankedSpec)) fnExactRankedCard

/-- THE TIED CARD OF 'laws.FnExactHolders'. -/
def fnExactHoldersCard : Claim7 := { stood := { row := fnExactHoldersRow, standIns := [], harness := (true, "f5ccb19c57c1d8b1e22590495cfeca23fefe139954f6ce121729e6ffb228703b"), looks := false }, kinds := [], alts := [], laidByText := true, laidKinds := [.data, .data, .data, .data], laidTests := true, laidLooks := .later }
def FnExactHoldersCardSaid : Prop := Claim7.holds Tryd.pinned (.plain (OpenSpec.ofChange fnExactHoldersSpec)) fnExactHoldersCard

/-- THE TIED CARD OF 'laws.FnExactLoads'. -/
def fnExactLoadsCard : Claim7 := { stood := { row := fnExactLoadsRow, standIns := [], harness := (true, "f5ccb19c57c1d8b1e22590495cfeca23fefe139954f6ce121729e6ffb228703b"), looks := false }, kinds := [], alts := [], laidByText := true, laidKinds := [.data, .data, .data, .data], laidTests := true, laidLooks := .later }
def FnExactLoadsCardSaid : Prop := Claim7.holds Tryd.pinned (.plain (OpenSpec.ofChange fnExactLoadsSpec)) fnExactLoadsCard

/-- THE SECOND FORM's CARD OF 'laws.FnExactRanked'. -/
def fnExactRankedUptoCard : Claim7 := { stood := { row := fnExactRankedUptoRow, standIns := [], harness := (true, "f5ccb19c57c1d8b1e22590495cfeca23fefe139954f6ce121729e6ffb228703b"), looks := false }, kinds := [], alts := [], laidByText := true, laidKinds := [.data, .data, .data, .data], laidTests := true, laidLooks := .later }
def FnExactRankedUptoCardSaid : Prop := Claim7.holds Tryd.pinned (.plain (OpenSpec.upto fnExactRankedSpec)) fnExactRankedUptoCard

/-- THE SECOND FORM's CARD OF 'laws.FnExactHolders'. -/
def fnExactHoldersUptoCard : Claim7 := { stood := { row := fnExactHoldersUptoRow, standIns := [], harness := (true, "f5ccb19c57c1d8b1e22590495cfeca23fefe139954f6ce121729e6ffb228703b"), looks := false }, kinds := [], alts := [], laidByText := true, laidKinds := [.data, .data, .data, .data], laidTests := true, laidLooks := .later }
def FnExactHoldersUptoCardSaid : Prop := Claim7.holds Tryd.pinned (.plain (OpenSpec.upto fnExactHoldersSpec)) fnExactHoldersUptoCard

/-- THE SECOND FORM's CARD OF 'laws.FnExactLoads'. -/
def fnExactLoadsUptoCard : Claim7 := { stood := { row := fnExactLoadsUptoRow, standIns := [], harness := (true, "f5ccb19c57c1d8b1e22590495cfeca23fefe139954f6ce121729e6ffb228703b"), looks := false }, kinds := [], alts := [], laidByText := true, laidKinds := [.data, .data, .data, .data], laidTests := true, laidLooks := .later }
def FnExactLoadsUptoCardSaid : Prop := Claim7.holds Tryd.pinned (.plain (OpenSpec.upto fnExactLoadsSpec)) fnExactLoadsUptoCard
end Rows
end Go.Proofs.YtbcfejplaffbnaaDoor
