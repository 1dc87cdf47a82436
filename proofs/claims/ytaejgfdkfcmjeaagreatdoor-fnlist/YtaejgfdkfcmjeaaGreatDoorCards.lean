/-
  DERIVED. GIVEN WITH THE SEED: THE CARDS: each row of YtaejgfdkfcmjeaaGreatDoorRows.lean that lists a variable, with what it lists TIED to the program's text (the seventh form; the later family's looks); each row that meets fmt, with fmt's text TOLD by the authors' own Lean function (tested against real Go, not proved from fmt's source: count such statements apart). THE CARD IS WHAT COUNTS. Prove the row's statement (the work); the ties are given (YtaejgfdkfcmjeaaGreatDoorTie.lean); close each card by the builder's one call (the guide's Derived/Test/ToyasCard.lean, 'card_holds'). Laid BY PROGRAM, IN A SANDBOX (cutbox-door.mjs). By AI agents, Wed Nov 11 2026. No macro, syntax, notation, axiom, sorry.
-/
import Derived.Test.YtaejgfdkfcmjeaaGreatDoorRows
import GoSem.ClaimSeven
namespace Go.Proofs.YtaejgfdkfcmjeaaGreatDoor
namespace Rows

/-- THE TIED CARD OF 'laws.FnList'. -/
def fnListCard : Claim7 := { stood := { row := fnListRow, standIns := [], harness := (true, "cf69671d65efc63ff09e5509e7699e61ab384f27c87da0800baf3a934a4904fa"), looks := true }, kinds := [], alts := [], laidByText := true, laidKinds := [.handle, .data, .data, .sentinel], laidTests := true, laidLooks := .later }
def FnListCardSaid : Prop := Claim7.holds Tryz.pinned (.plain (OpenSpec.ofChange fnListSpec)) fnListCard

/-- THE SECOND FORM's CARD OF 'laws.FnList'. -/
def fnListUptoCard : Claim7 := { stood := { row := fnListUptoRow, standIns := [], harness := (true, "cf69671d65efc63ff09e5509e7699e61ab384f27c87da0800baf3a934a4904fa"), looks := true }, kinds := [], alts := [], laidByText := true, laidKinds := [.handle, .data, .data, .sentinel], laidTests := true, laidLooks := .later }
def FnListUptoCardSaid : Prop := Claim7.holds Tryz.pinned (.plain (OpenSpec.upto fnListSpec)) fnListUptoCard
end Rows
end Go.Proofs.YtaejgfdkfcmjeaaGreatDoor
