/-
  DERIVED. GIVEN WITH THE SEED: THE CARDS: each row of YtmeohaiidmmgkaaGreatDoorRows.lean that lists a variable, with what it lists TIED to the program's text (the seventh form; the later family's looks); each row that meets fmt, with fmt's text TOLD by the authors' own Lean function (tested against real Go, not proved from fmt's source: count such statements apart). THE CARD IS WHAT COUNTS. Prove the row's statement (the work); the ties are given (YtmeohaiidmmgkaaGreatDoorTie.lean); close each card by the builder's one call (the guide's Derived/Test/ToyasCard.lean, 'card_holds'). Laid BY PROGRAM, IN A SANDBOX (cutbox-door.mjs). By AI agents, Wed Nov 11 2026. No macro, syntax, notation, axiom, sorry.
-/
import Derived.Test.YtmeohaiidmmgkaaGreatDoorRows
import GoSem.ClaimSeven
namespace Go.Proofs.YtmeohaiidmmgkaaGreatDoor
namespace Rows

/-- THE TIED CARD OF 'laws.FnExactKeepRight'. -/
def fnExactKeepRightCard : Claim7 := { stood := { row := fnExactKeepRightRow, standIns := [], harness := (true, "78bf3f90be3a99427fc0122831b854aea941992734d2477131586aa0ae28ee58"), looks := true }, kinds := [], alts := [], laidByText := true, laidKinds := [.handle, .data, .data], laidTests := true, laidLooks := .later }
def FnExactKeepRightCardSaid : Prop := Claim7.holds Tryz.pinned (.plain (OpenSpec.ofChange fnExactKeepRightSpec)) fnExactKeepRightCard

/-- THE TIED CARD OF 'laws.FnExactKeepAdd'. -/
def fnExactKeepAddCard : Claim7 := { stood := { row := fnExactKeepAddRow, standIns := [], harness := (true, "78bf3f90be3a99427fc0122831b854aea941992734d2477131586aa0ae28ee58"), looks := true }, kinds := [], alts := [], laidByText := true, laidKinds := [.handle, .data, .data], laidTests := true, laidLooks := .later }
def FnExactKeepAddCardSaid : Prop := Claim7.holds Tryz.pinned (.plain (OpenSpec.ofChange fnExactKeepAddSpec)) fnExactKeepAddCard

/-- THE TIED CARD OF 'laws.FnExactKeepSync'. -/
def fnExactKeepSyncCard : Claim7 := { stood := { row := fnExactKeepSyncRow, standIns := [], harness := (true, "78bf3f90be3a99427fc0122831b854aea941992734d2477131586aa0ae28ee58"), looks := true }, kinds := [], alts := [], laidByText := true, laidKinds := [.handle, .data, .data], laidTests := true, laidLooks := .later }
def FnExactKeepSyncCardSaid : Prop := Claim7.holds Tryz.pinned (.plain (OpenSpec.ofChange fnExactKeepSyncSpec)) fnExactKeepSyncCard

/-- THE TIED CARD OF 'laws.FnExactKeepRecover'. -/
def fnExactKeepRecoverCard : Claim7 := { stood := { row := fnExactKeepRecoverRow, standIns := [], harness := (true, "78bf3f90be3a99427fc0122831b854aea941992734d2477131586aa0ae28ee58"), looks := true }, kinds := [], alts := [], laidByText := true, laidKinds := [.handle, .data, .data], laidTests := true, laidLooks := .later }
def FnExactKeepRecoverCardSaid : Prop := Claim7.holds Tryz.pinned (.plain (OpenSpec.ofChange fnExactKeepRecoverSpec)) fnExactKeepRecoverCard

/-- THE TIED CARD OF 'laws.FnExactHave'. -/
def fnExactHaveCard : Claim7 := { stood := { row := fnExactHaveRow, standIns := [], harness := (true, "78bf3f90be3a99427fc0122831b854aea941992734d2477131586aa0ae28ee58"), looks := true }, kinds := [], alts := [], laidByText := true, laidKinds := [.handle, .data, .data], laidTests := true, laidLooks := .later }
def FnExactHaveCardSaid : Prop := Claim7.holds Tryz.pinned (.plain (OpenSpec.ofChange fnExactHaveSpec)) fnExactHaveCard

/-- THE TIED CARD OF 'laws.FnExactPieceOf'. -/
def fnExactPieceOfCard : Claim7 := { stood := { row := fnExactPieceOfRow, standIns := [], harness := (true, "78bf3f90be3a99427fc0122831b854aea941992734d2477131586aa0ae28ee58"), looks := true }, kinds := [], alts := [], laidByText := true, laidKinds := [.handle, .data, .data], laidTests := true, laidLooks := .later }
def FnExactPieceOfCardSaid : Prop := Claim7.holds Tryz.pinned (.plain (OpenSpec.ofChange fnExactPieceOfSpec)) fnExactPieceOfCard

/-- THE SECOND FORM's CARD OF 'laws.FnExactKeepRight'. -/
def fnExactKeepRightUptoCard : Claim7 := { stood := { row := fnExactKeepRightUptoRow, standIns := [], harness := (true, "78bf3f90be3a99427fc0122831b854aea941992734d2477131586aa0ae28ee58"), looks := true }, kinds := [], alts := [], laidByText := true, laidKinds := [.handle, .data, .data], laidTests := true, laidLooks := .later }
def FnExactKeepRightUptoCardSaid : Prop := Claim7.holds Tryz.pinned (.plain (OpenSpec.upto fnExactKeepRightSpec)) fnExactKeepRightUptoCard

/-- THE SECOND FORM's CARD OF 'laws.FnExactKeepAdd'. -/
def fnExactKeepAddUptoCard : Claim7 := { stood := { row := fnExactKeepAddUptoRow, standIns := [], harness := (true, "78bf3f90be3a99427fc0122831b854aea941992734d2477131586aa0ae28ee58"), looks := true }, kinds := [], alts := [], laidByText := true, laidKinds := [.handle, .data, .data], laidTests := true, laidLooks := .later }
def FnExactKeepAddUptoCardSaid : Prop := Claim7.holds Tryz.pinned (.plain (OpenSpec.upto fnExactKeepAddSpec)) fnExactKeepAddUptoCard

/-- THE SECOND FORM's CARD OF 'laws.FnExactKeepSync'. -/
def fnExactKeepSyncUptoCard : Claim7 := { stood := { row := fnExactKeepSyncUptoRow, standIns := [], harness := (true, "78bf3f90be3a99427fc0122831b854aea941992734d2477131586aa0ae28ee58"), looks := true }, kinds := [], alts := [], laidByText := true, laidKinds := [.handle, .data, .data], laidTests := true, laidLooks := .later }
def FnExactKeepSyncUptoCardSaid : Prop := Claim7.holds Tryz.pinned (.plain (OpenSpec.upto fnExactKeepSyncSpec)) fnExactKeepSyncUptoCard

/-- THE SECOND FORM's CARD OF 'laws.FnExactKeepRecover'. -/
def fnExactKeepRecoverUptoCard : Claim7 := { stood := { row := fnExactKeepRecoverUptoRow, standIns := [], harness := (true, "78bf3f90be3a99427fc0122831b854aea941992734d2477131586aa0ae28ee58"), looks := true }, kinds := [], alts := [], laidByText := true, laidKinds := [.handle, .data, .data], laidTests := true, laidLooks := .later }
def FnExactKeepRecoverUptoCardSaid : Prop := Claim7.holds Tryz.pinned (.plain (OpenSpec.upto fnExactKeepRecoverSpec)) fnExactKeepRecoverUptoCard

/-- THE SECOND FORM's CARD OF 'laws.FnExactHave'. -/
def fnExactHaveUptoCard : Claim7 := { stood := { row := fnExactHaveUptoRow, standIns := [], harness := (true, "78bf3f90be3a99427fc0122831b854aea941992734d2477131586aa0ae28ee58"), looks := true }, kinds := [], alts := [], laidByText := true, laidKinds := [.handle, .data, .data], laidTests := true, laidLooks := .later }
def FnExactHaveUptoCardSaid : Prop := Claim7.holds Tryz.pinned (.plain (OpenSpec.upto fnExactHaveSpec)) fnExactHaveUptoCard

/-- THE SECOND FORM's CARD OF 'laws.FnExactPieceOf'. -/
def fnExactPieceOfUptoCard : Claim7 := { stood := { row := fnExactPieceOfUptoRow, standIns := [], harness := (true, "78bf3f90be3a99427fc0122831b854aea941992734d2477131586aa0ae28ee58"), looks := true }, kinds := [], alts := [], laidByText := true, laidKinds := [.handle, .data, .data], laidTests := true, laidLooks := .later }
def FnExactPieceOfUptoCardSaid : Prop := Claim7.holds Tryz.pinned (.plain (OpenSpec.upto fnExactPieceOfSpec)) fnExactPieceOfUptoCard
end Rows
end Go.Proofs.YtmeohaiidmmgkaaGreatDoor
