/-
  DERIVED. GIVEN WITH THE SEED: THE CARDS: each row of YtikiihjabbmkcaaGreatDoorRows.lean that lists a variable, with what it lists TIED to the program's text (the seventh form; the later family's looks); each row that meets fmt, with fmt's text TOLD by the authors' own Lean function (tested against real Go, not proved from fmt's source: count such statements apart). THE CARD IS WHAT COUNTS. Prove the row's statement (the work); the ties are given (YtikiihjabbmkcaaGreatDoorTie.lean); close each card by the builder's one call (the guide's Derived/Test/ToyasCard.lean, 'card_holds'). Laid BY PROGRAM, IN A SANDBOX (cutbox-door.mjs). By AI agents, Wed Nov 11 2026. No macro, syntax, notation, axiom, sorry.
-/
import Derived.Test.YtikiihjabbmkcaaGreatDoorRows
import GoSem.ClaimSeven
namespace Go.Proofs.YtikiihjabbmkcaaGreatDoor
namespace Rows

/-- THE TIED CARD OF 'laws.FnExactHave'. -/
def fnExactHaveCard : Claim7 := { stood := { row := fnExactHaveRow, standIns := [], harness := (true, "69d8bece8c3b4e7e8a462ff4530a94db217855171924c3431a9555951af74668"), looks := true }, kinds := [], alts := [], laidByText := true, laidKinds := [.handle, .data, .data], laidTests := true, laidLooks := .later }
def FnExactHaveCardSaid : Prop := Claim7.holds Tryz.pinned (.plain (OpenSpec.ofChange fnExactHaveSpec)) fnExactHaveCard

/-- THE TIED CARD OF 'laws.FnExactPeerRight'. -/
def fnExactPeerRightCard : Claim7 := { stood := { row := fnExactPeerRightRow, standIns := [], harness := (true, "69d8bece8c3b4e7e8a462ff4530a94db217855171924c3431a9555951af74668"), looks := true }, kinds := [], alts := [], laidByText := true, laidKinds := [.handle, .data, .data], laidTests := true, laidLooks := .later }
def FnExactPeerRightCardSaid : Prop := Claim7.holds Tryz.pinned (.plain (OpenSpec.ofChange fnExactPeerRightSpec)) fnExactPeerRightCard

/-- THE TIED CARD OF 'laws.FnExactMeet'. -/
def fnExactMeetCard : Claim7 := { stood := { row := fnExactMeetRow, standIns := [], harness := (true, "69d8bece8c3b4e7e8a462ff4530a94db217855171924c3431a9555951af74668"), looks := true }, kinds := [], alts := [], laidByText := true, laidKinds := [.handle, .data, .data], laidTests := true, laidLooks := .later }
def FnExactMeetCardSaid : Prop := Claim7.holds Tryz.pinned (.plain (OpenSpec.ofChange fnExactMeetSpec)) fnExactMeetCard

/-- THE TIED CARD OF 'laws.FnExactHear'. -/
def fnExactHearCard : Claim7 := { stood := { row := fnExactHearRow, standIns := [], harness := (true, "69d8bece8c3b4e7e8a462ff4530a94db217855171924c3431a9555951af74668"), looks := true }, kinds := [], alts := [], laidByText := true, laidKinds := [.handle, .data, .data], laidTests := true, laidLooks := .later }
def FnExactHearCardSaid : Prop := Claim7.holds Tryz.pinned (.plain (OpenSpec.ofChange fnExactHearSpec)) fnExactHearCard

/-- THE TIED CARD OF 'laws.FnExactTick'. -/
def fnExactTickCard : Claim7 := { stood := { row := fnExactTickRow, standIns := [], harness := (true, "69d8bece8c3b4e7e8a462ff4530a94db217855171924c3431a9555951af74668"), looks := true }, kinds := [], alts := [], laidByText := true, laidKinds := [.handle, .data, .data], laidTests := true, laidLooks := .later }
def FnExactTickCardSaid : Prop := Claim7.holds Tryz.pinned (.plain (OpenSpec.ofChange fnExactTickSpec)) fnExactTickCard

/-- THE TIED CARD OF 'laws.FnExactBanned'. -/
def fnExactBannedCard : Claim7 := { stood := { row := fnExactBannedRow, standIns := [], harness := (true, "69d8bece8c3b4e7e8a462ff4530a94db217855171924c3431a9555951af74668"), looks := true }, kinds := [], alts := [], laidByText := true, laidKinds := [.handle, .data, .data], laidTests := true, laidLooks := .later }
def FnExactBannedCardSaid : Prop := Claim7.holds Tryz.pinned (.plain (OpenSpec.ofChange fnExactBannedSpec)) fnExactBannedCard

/-- THE SECOND FORM's CARD OF 'laws.FnExactHave'. -/
def fnExactHaveUptoCard : Claim7 := { stood := { row := fnExactHaveUptoRow, standIns := [], harness := (true, "69d8bece8c3b4e7e8a462ff4530a94db217855171924c3431a9555951af74668"), looks := true }, kinds := [], alts := [], laidByText := true, laidKinds := [.handle, .data, .data], laidTests := true, laidLooks := .later }
def FnExactHaveUptoCardSaid : Prop := Claim7.holds Tryz.pinned (.plain (OpenSpec.upto fnExactHaveSpec)) fnExactHaveUptoCard

/-- THE SECOND FORM's CARD OF 'laws.FnExactPeerRight'. -/
def fnExactPeerRightUptoCard : Claim7 := { stood := { row := fnExactPeerRightUptoRow, standIns := [], harness := (true, "69d8bece8c3b4e7e8a462ff4530a94db217855171924c3431a9555951af74668"), looks := true }, kinds := [], alts := [], laidByText := true, laidKinds := [.handle, .data, .data], laidTests := true, laidLooks := .later }
def FnExactPeerRightUptoCardSaid : Prop := Claim7.holds Tryz.pinned (.plain (OpenSpec.upto fnExactPeerRightSpec)) fnExactPeerRightUptoCard

/-- THE SECOND FORM's CARD OF 'laws.FnExactMeet'. -/
def fnExactMeetUptoCard : Claim7 := { stood := { row := fnExactMeetUptoRow, standIns := [], harness := (true, "69d8bece8c3b4e7e8a462ff4530a94db217855171924c3431a9555951af74668"), looks := true }, kinds := [], alts := [], laidByText := true, laidKinds := [.handle, .data, .data], laidTests := true, laidLooks := .later }
def FnExactMeetUptoCardSaid : Prop := Claim7.holds Tryz.pinned (.plain (OpenSpec.upto fnExactMeetSpec)) fnExactMeetUptoCard

/-- THE SECOND FORM's CARD OF 'laws.FnExactHear'. -/
def fnExactHearUptoCard : Claim7 := { stood := { row := fnExactHearUptoRow, standIns := [], harness := (true, "69d8bece8c3b4e7e8a462ff4530a94db217855171924c3431a9555951af74668"), looks := true }, kinds := [], alts := [], laidByText := true, laidKinds := [.handle, .data, .data], laidTests := true, laidLooks := .later }
def FnExactHearUptoCardSaid : Prop := Claim7.holds Tryz.pinned (.plain (OpenSpec.upto fnExactHearSpec)) fnExactHearUptoCard

/-- THE SECOND FORM's CARD OF 'laws.FnExactTick'. -/
def fnExactTickUptoCard : Claim7 := { stood := { row := fnExactTickUptoRow, standIns := [], harness := (true, "69d8bece8c3b4e7e8a462ff4530a94db217855171924c3431a9555951af74668"), looks := true }, kinds := [], alts := [], laidByText := true, laidKinds := [.handle, .data, .data], laidTests := true, laidLooks := .later }
def FnExactTickUptoCardSaid : Prop := Claim7.holds Tryz.pinned (.plain (OpenSpec.upto fnExactTickSpec)) fnExactTickUptoCard

/-- THE SECOND FORM's CARD OF 'laws.FnExactBanned'. -/
def fnExactBannedUptoCard : Claim7 := { stood := { row := fnExactBannedUptoRow, standIns := [], harness := (true, "69d8bece8c3b4e7e8a462ff4530a94db217855171924c3431a9555951af74668"), looks := true }, kinds := [], alts := [], laidByText := true, laidKinds := [.handle, .data, .data], laidTests := true, laidLooks := .later }
def FnExactBannedUptoCardSaid : Prop := Claim7.holds Tryz.pinned (.plain (OpenSpec.upto fnExactBannedSpec)) fnExactBannedUptoCard
end Rows
end Go.Proofs.YtikiihjabbmkcaaGreatDoor
