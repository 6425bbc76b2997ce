/-
  DERIVED. GIVEN WITH THE SEED: THE CARDS: each row of YtlkkhhelonbcbaaDoorRows.lean that lists a variable, with what it lists TIED to the program's text (the seventh form; the later family's looks); each row that meets fmt, with fmt's text TOLD by the authors' own Lean function (tested against real Go, not proved from fmt's source: count such statements apart). THE CARD IS WHAT COUNTS. Prove the row's statement (the work); the ties are given (YtlkkhhelonbcbaaDoorTie.lean); close each card by the builder's one call (the guide's Derived/Test/ToyasCard.lean, 'card_holds'). Laid BY PROGRAM, IN A SANDBOX (cutbox-door.mjs). By AI agents, Wed Nov 11 2026. No macro, syntax, notation, axiom, sorry.
-/
import Derived.Test.YtlkkhhelonbcbaaDoorRows
import GoSem.ClaimSeven
namespace Go.Proofs.YtlkkhhelonbcbaaDoor
namespace Rows

/-- THE TIED CARD OF 'laws.FnDigested'. -/
def fnDigestedCard : Claim7 := { stood := { row := fnDigestedRow, standIns := [], harness := (true, "e3048ab21c204749a57b1112c23b34583efd09fba7ed31f17bfbf25e47666e8e"), looks := false }, kinds := [], alts := [], laidByText := true, laidKinds := [.data], laidTests := true, laidLooks := .later }
def FnDigestedCardSaid : Prop := Claim7.holds Tryd.pinned (.plain (OpenSpec.ofChange fnDigestedSpec)) fnDigestedCard

/-- THE TIED CARD OF 'laws.FnExactSum'. -/
def fnExactSumCard : Claim7 := { stood := { row := fnExactSumRow, standIns := [], harness := (true, "e3048ab21c204749a57b1112c23b34583efd09fba7ed31f17bfbf25e47666e8e"), looks := false }, kinds := [], alts := [], laidByText := true, laidKinds := [.data], laidTests := true, laidLooks := .later }
def FnExactSumCardSaid : Prop := Claim7.holds Tryd.pinned (.plain (OpenSpec.ofChange fnExactSumSpec)) fnExactSumCard

/-- THE TIED CARD OF 'laws.FnExactDigest'. -/
def fnExactDigestCard : Claim7 := { stood := { row := fnExactDigestRow, standIns := [], harness := (true, "e3048ab21c204749a57b1112c23b34583efd09fba7ed31f17bfbf25e47666e8e"), looks := false }, kinds := [], alts := [], laidByText := true, laidKinds := [.data], laidTests := true, laidLooks := .later }
def FnExactDigestCardSaid : Prop := Claim7.holds Tryd.pinned (.plain (OpenSpec.ofChange fnExactDigestSpec)) fnExactDigestCard

/-- THE TIED CARD OF 'laws.FnExactMixed'. -/
def fnExactMixedCard : Claim7 := { stood := { row := fnExactMixedRow, standIns := [], harness := (true, "e3048ab21c204749a57b1112c23b34583efd09fba7ed31f17bfbf25e47666e8e"), looks := false }, kinds := [], alts := [], laidByText := true, laidKinds := [.data], laidTests := true, laidLooks := .later }
def FnExactMixedCardSaid : Prop := Claim7.holds Tryd.pinned (.plain (OpenSpec.ofChange fnExactMixedSpec)) fnExactMixedCard

/-- THE SECOND FORM's CARD OF 'laws.FnDigested'. -/
def fnDigestedUptoCard : Claim7 := { stood := { row := fnDigestedUptoRow, standIns := [], harness := (true, "e3048ab21c204749a57b1112c23b34583efd09fba7ed31f17bfbf25e47666e8e"), looks := false }, kinds := [], alts := [], laidByText := true, laidKinds := [.data], laidTests := true, laidLooks := .later }
def FnDigestedUptoCardSaid : Prop := Claim7.holds Tryd.pinned (.plain (OpenSpec.upto fnDigestedSpec)) fnDigestedUptoCard

/-- THE SECOND FORM's CARD OF 'laws.FnExactSum'. -/
def fnExactSumUptoCard : Claim7 := { stood := { row := fnExactSumUptoRow, standIns := [], harness := (true, "e3048ab21c204749a57b1112c23b34583efd09fba7ed31f17bfbf25e47666e8e"), looks := false }, kinds := [], alts := [], laidByText := true, laidKinds := [.data], laidTests := true, laidLooks := .later }
def FnExactSumUptoCardSaid : Prop := Claim7.holds Tryd.pinned (.plain (OpenSpec.upto fnExactSumSpec)) fnExactSumUptoCard

/-- THE SECOND FORM's CARD OF 'laws.FnExactDigest'. -/
def fnExactDigestUptoCard : Claim7 := { stood := { row := fnExactDigestUptoRow, standIns := [], harness := (true, "e3048ab21c204749a57b1112c23b34583efd09fba7ed31f17bfbf25e47666e8e"), looks := false }, kinds := [], alts := [], laidByText := true, laidKinds := [.data], laidTests := true, laidLooks := .later }
def FnExactDigestUptoCardSaid : Prop := Claim7.holds Tryd.pinned (.plain (OpenSpec.upto fnExactDigestSpec)) fnExactDigestUptoCard

/-- THE SECOND FORM's CARD OF 'laws.FnExactMixed'. -/
def fnExactMixedUptoCard : Claim7 := { stood := { row := fnExactMixedUptoRow, standIns := [], harness := (true, "e3048ab21c204749a57b1112c23b34583efd09fba7ed31f17bfbf25e47666e8e"), looks := false }, kinds := [], alts := [], laidByText := true, laidKinds := [.data], laidTests := true, laidLooks := .later }
def FnExactMixedUptoCardSaid : Prop := Claim7.holds Tryd.pinned (.plain (OpenSpec.upto fnExactMixedSpec)) fnExactMixedUptoCard
end Rows
end Go.Proofs.YtlkkhhelonbcbaaDoor
