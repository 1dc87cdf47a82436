/-
  DERIVED. GIVEN WITH THE SEED: THE CARDS: each row of YtkgjfdanjmnmbaaGreatDoorRows.lean that lists a variable, with what it lists TIED to the program's text (the seventh form; the later family's looks); each row that meets fmt, with fmt's text TOLD by the authors' own Lean function (tested against real Go, not proved from fmt's source: count such statements apart). THE CARD IS WHAT COUNTS. Prove the row's statement (the work); the ties are given (YtkgjfdanjmnmbaaGreatDoorTie.lean); close each card by the builder's one call (the guide's Derived/Test/ToyasCard.lean, 'card_holds'). Laid BY PROGRAM, IN A SANDBOX (cutbox-door.mjs). By AI agents, Wed Nov 11 2026. No macro, syntax, notation, axiom, sorry.
-/
import Derived.Test.YtkgjfdanjmnmbaaGreatDoorRows
import GoSem.ClaimSeven
namespace Go.Proofs.YtkgjfdanjmnmbaaGreatDoor
namespace Rows

/-- THE TIED CARD OF 'laws.FnExactOutput'. -/
def fnExactOutputCard : Claim7 := { stood := { row := fnExactOutputRow, standIns := [], harness := (true, "02bc0b405f953b3c82194a8ea0dc03989b69e4e81d8d3cd73c4ffb4c89bfa072"), looks := true }, kinds := [], alts := [], laidByText := true, laidKinds := [.handle, .data, .data, .sentinel], laidTests := true, laidLooks := .later }
def FnExactOutputCardSaid : Prop := Claim7.holds Tryz.pinned (.plain (OpenSpec.ofChange fnExactOutputSpec)) fnExactOutputCard

/-- THE SECOND FORM's CARD OF 'laws.FnExactOutput'. -/
def fnExactOutputUptoCard : Claim7 := { stood := { row := fnExactOutputUptoRow, standIns := [], harness := (true, "02bc0b405f953b3c82194a8ea0dc03989b69e4e81d8d3cd73c4ffb4c89bfa072"), looks := true }, kinds := [], alts := [], laidByText := true, laidKinds := [.handle, .data, .data, .sentinel], laidTests := true, laidLooks := .later }
def FnExactOutputUptoCardSaid : Prop := Claim7.holds Tryz.pinned (.plain (OpenSpec.upto fnExactOutputSpec)) fnExactOutputUptoCard
end Rows
end Go.Proofs.YtkgjfdanjmnmbaaGreatDoor
