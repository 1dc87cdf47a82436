/-
  DERIVED. GIVEN WITH THE SEED: THE CARDS: each row of YtjfdllgodijibaaGreatDoorRows.lean that lists a variable, with what it lists TIED to the program's text (the seventh form; the later family's looks); each row that meets fmt, with fmt's text TOLD by the authors' own Lean function (tested against real Go, not proved from fmt's source: count such statements apart). THE CARD IS WHAT COUNTS. Prove the row's statement (the work); the ties are given (YtjfdllgodijibaaGreatDoorTie.lean); close each card by the builder's one call (the guide's Derived/Test/ToyasCard.lean, 'card_holds'). Laid BY PROGRAM, IN A SANDBOX (cutbox-door.mjs). By AI agents, Wed Nov 11 2026. No macro, syntax, notation, axiom, sorry.
-/
import Derived.Test.YtjfdllgodijibaaGreatDoorRows
import GoSem.ClaimSeven
namespace Go.Proofs.YtjfdllgodijibaaGreatDoor
namespace Rows

/-- THE TIED CARD OF 'laws.FnWay'. -/
def fnWayCard : Claim7 := { stood := { row := fnWayRow, standIns := [], harness := (true, "f73075757a72d28e852a7eb87edace771de163b203c041766d10347900d31ab8"), looks := true }, kinds := [], alts := [], laidByText := true, laidKinds := [.data, .data], laidTests := true, laidLooks := .later }
def FnWayCardSaid : Prop := Claim7.holds Tryz.pinned (.plain (OpenSpec.ofChange fnWaySpec)) fnWayCard

/-- THE SECOND FORM's CARD OF 'laws.FnWay'. -/
def fnWayUptoCard : Claim7 := { stood := { row := fnWayUptoRow, standIns := [], harness := (true, "f73075757a72d28e852a7eb87edace771de163b203c041766d10347900d31ab8"), looks := true }, kinds := [], alts := [], laidByText := true, laidKinds := [.data, .data], laidTests := true, laidLooks := .later }
def FnWayUptoCardSaid : Prop := Claim7.holds Tryz.pinned (.plain (OpenSpec.upto fnWaySpec)) fnWayUptoCard
end Rows
end Go.Proofs.YtjfdllgodijibaaGreatDoor
