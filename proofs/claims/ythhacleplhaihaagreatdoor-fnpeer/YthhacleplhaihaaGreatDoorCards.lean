/-
  DERIVED. GIVEN WITH THE SEED: THE CARDS: each row of YthhacleplhaihaaGreatDoorRows.lean that lists a variable, with what it lists TIED to the program's text (the seventh form; the later family's looks); each row that meets fmt, with fmt's text TOLD by the authors' own Lean function (tested against real Go, not proved from fmt's source: count such statements apart). THE CARD IS WHAT COUNTS. Prove the row's statement (the work); the ties are given (YthhacleplhaihaaGreatDoorTie.lean); close each card by the builder's one call (the guide's Derived/Test/ToyasCard.lean, 'card_holds'). Laid BY PROGRAM, IN A SANDBOX (cutbox-door.mjs). By AI agents, Wed Nov 11 2026. No macro, syntax, notation, axiom, sorry.
-/
import Derived.Test.YthhacleplhaihaaGreatDoorRows
import GoSem.ClaimSeven
namespace Go.Proofs.YthhacleplhaihaaGreatDoor
namespace Rows

/-- THE TIED CARD OF 'laws.FnPeer'. -/
def fnPeerCard : Claim7 := { stood := { row := fnPeerRow, standIns := [], harness := (true, "27a8ea32d354c235327c92ba17143d26a1e69cba96d4bf6a5bf36f7fe80448d0"), looks := true }, kinds := [], alts := [], laidByText := true, laidKinds := [.handle, .data, .data], laidTests := true, laidLooks := .later }
def FnPeerCardSaid : Prop := Claim7.holds Tryz.pinned (.plain (OpenSpec.ofChange fnPeerSpec)) fnPeerCard

/-- THE SECOND FORM's CARD OF 'laws.FnPeer'. -/
def fnPeerUptoCard : Claim7 := { stood := { row := fnPeerUptoRow, standIns := [], harness := (true, "27a8ea32d354c235327c92ba17143d26a1e69cba96d4bf6a5bf36f7fe80448d0"), looks := true }, kinds := [], alts := [], laidByText := true, laidKinds := [.handle, .data, .data], laidTests := true, laidLooks := .later }
def FnPeerUptoCardSaid : Prop := Claim7.holds Tryz.pinned (.plain (OpenSpec.upto fnPeerSpec)) fnPeerUptoCard
end Rows
end Go.Proofs.YthhacleplhaihaaGreatDoor
