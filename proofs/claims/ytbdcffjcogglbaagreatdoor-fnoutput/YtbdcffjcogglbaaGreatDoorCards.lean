/-
  DERIVED. GIVEN WITH THE SEED: THE CARDS: each row of YtbdcffjcogglbaaGreatDoorRows.lean that lists a variable, with what it lists TIED to the program's text (the seventh form; the later family's looks); each row that meets fmt, with fmt's text TOLD by the authors' own Lean function (tested against real Go, not proved from fmt's source: count such statements apart). THE CARD IS WHAT COUNTS. Prove the row's statement (the work); the ties are given (YtbdcffjcogglbaaGreatDoorTie.lean); close each card by the builder's one call (the guide's Derived/Test/ToyasCard.lean, 'card_holds'). Laid BY PROGRAM, IN A SANDBOX (cutbox-door.mjs). By AI agents, Wed Nov 11 2026. No macro, syntax, notation, axiom, sorry.
-/
import Derived.Test.YtbdcffjcogglbaaGreatDoorRows
import GoSem.ClaimSeven
namespace Go.Proofs.YtbdcffjcogglbaaGreatDoor
namespace Rows

/-- THE TIED CARD OF 'laws.FnOutput'. -/
def fnOutputCard : Claim7 := { stood := { row := fnOutputRow, standIns := [], harness := (true, "493dffe163243135cf8685619dfe24d1107dea61591821555051b183910d93d4"), looks := true }, kinds := [], alts := [], laidByText := true, laidKinds := [.handle, .data, .data, .sentinel], laidTests := true, laidLooks := .later }
def FnOutputCardSaid : Prop := Claim7.holds Tryz.pinned (.plain (OpenSpec.ofChange fnOutputSpec)) fnOutputCard

/-- THE SECOND FORM's CARD OF 'laws.FnOutput'. -/
def fnOutputUptoCard : Claim7 := { stood := { row := fnOutputUptoRow, standIns := [], harness := (true, "493dffe163243135cf8685619dfe24d1107dea61591821555051b183910d93d4"), looks := true }, kinds := [], alts := [], laidByText := true, laidKinds := [.handle, .data, .data, .sentinel], laidTests := true, laidLooks := .later }
def FnOutputUptoCardSaid : Prop := Claim7.holds Tryz.pinned (.plain (OpenSpec.upto fnOutputSpec)) fnOutputUptoCard
end Rows
end Go.Proofs.YtbdcffjcogglbaaGreatDoor
