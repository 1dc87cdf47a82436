/-
  DERIVED. GIVEN WITH THE SEED: THE CARDS: each row of YtpddanmnlkcdpaaGreatDoorRows.lean that lists a variable, with what it lists TIED to the program's text (the seventh form; the later family's looks); each row that meets fmt, with fmt's text TOLD by the authors' own Lean function (tested against real Go, not proved from fmt's source: count such statements apart). THE CARD IS WHAT COUNTS. Prove the row's statement (the work); the ties are given (YtpddanmnlkcdpaaGreatDoorTie.lean); close each card by the builder's one call (the guide's Derived/Test/ToyasCard.lean, 'card_holds'). Laid BY PROGRAM, IN A SANDBOX (cutbox-door.mjs). By AI agents, Wed Nov 11 2026. No macro, syntax, notation, axiom, sorry.
-/
import Derived.Test.YtpddanmnlkcdpaaGreatDoorRows
import GoSem.ClaimSeven
namespace Go.Proofs.YtpddanmnlkcdpaaGreatDoor
namespace Rows

/-- THE TIED CARD OF 'laws.FnExactMeet'. -/
def fnExactMeetCard : Claim7 := { stood := { row := fnExactMeetRow, standIns := [], harness := (true, "5ecb77777fb98e8e6f3f637f02c917222406312f1e9c7c5e6d5a0ef0786719a6"), looks := true }, kinds := [], alts := [], laidByText := true, laidKinds := [.handle, .data, .data], laidTests := true, laidLooks := .later }
def FnExactMeetCardSaid : Prop := Claim7.holds Tryz.pinned (.plain (OpenSpec.ofChange fnExactMeetSpec)) fnExactMeetCard

/-- THE TIED CARD OF 'laws.FnExactHear'. -/
def fnExactHearCard : Claim7 := { stood := { row := fnExactHearRow, standIns := [], harness := (true, "5ecb77777fb98e8e6f3f637f02c917222406312f1e9c7c5e6d5a0ef0786719a6"), looks := true }, kinds := [], alts := [], laidByText := true, laidKinds := [.handle, .data, .data], laidTests := true, laidLooks := .later }
def FnExactHearCardSaid : Prop := Claim7.holds Tryz.pinned (.plain (OpenSpec.ofChange fnExactHearSpec)) fnExactHearCard

/-- THE TIED CARD OF 'laws.FnExactTick'. -/
def fnExactTickCard : Claim7 := { stood := { row := fnExactTickRow, standIns := [], harness := (true, "5ecb77777fb98e8e6f3f637f02c917222406312f1e9c7c5e6d5a0ef0786719a6"), looks := true }, kinds := [], alts := [], laidByText := true, laidKinds := [.handle, .data, .data], laidTests := true, laidLooks := .later }
def FnExactTickCardSaid : Prop := Claim7.holds Tryz.pinned (.plain (OpenSpec.ofChange fnExactTickSpec)) fnExactTickCard

/-- THE SECOND FORM's CARD OF 'laws.FnExactMeet'. -/
def fnExactMeetUptoCard : Claim7 := { stood := { row := fnExactMeetUptoRow, standIns := [], harness := (true, "5ecb77777fb98e8e6f3f637f02c917222406312f1e9c7c5e6d5a0ef0786719a6"), looks := true }, kinds := [], alts := [], laidByText := true, laidKinds := [.handle, .data, .data], laidTests := true, laidLooks := .later }
def FnExactMeetUptoCardSaid : Prop := Claim7.holds Tryz.pinned (.plain (OpenSpec.upto fnExactMeetSpec)) fnExactMeetUptoCard

/-- THE SECOND FORM's CARD OF 'laws.FnExactHear'. -/
def fnExactHearUptoCard : Claim7 := { stood := { row := fnExactHearUptoRow, standIns := [], harness := (true, "5ecb77777fb98e8e6f3f637f02c917222406312f1e9c7c5e6d5a0ef0786719a6"), looks := true }, kinds := [], alts := [], laidByText := true, laidKinds := [.handle, .data, .data], laidTests := true, laidLooks := .later }
def FnExactHearUptoCardSaid : Prop := Claim7.holds Tryz.pinned (.plain (OpenSpec.upto fnExactHearSpec)) fnExactHearUptoCard

/-- THE SECOND FORM's CARD OF 'laws.FnExactTick'. -/
def fnExactTickUptoCard : Claim7 := { stood := { row := fnExactTickUptoRow, standIns := [], harness := (true, "5ecb77777fb98e8e6f3f637f02c917222406312f1e9c7c5e6d5a0ef0786719a6"), looks := true }, kinds := [], alts := [], laidByText := true, laidKinds := [.handle, .data, .data], laidTests := true, laidLooks := .later }
def FnExactTickUptoCardSaid : Prop := Claim7.holds Tryz.pinned (.plain (OpenSpec.upto fnExactTickSpec)) fnExactTickUptoCard
end Rows
end Go.Proofs.YtpddanmnlkcdpaaGreatDoor
