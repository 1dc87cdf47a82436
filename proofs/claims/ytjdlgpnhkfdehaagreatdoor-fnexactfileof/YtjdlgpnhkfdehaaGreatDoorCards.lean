/-
  DERIVED. GIVEN WITH THE SEED: THE CARDS: each row of YtjdlgpnhkfdehaaGreatDoorRows.lean that lists a variable, with what it lists TIED to the program's text (the seventh form; the later family's looks); each row that meets fmt, with fmt's text TOLD by the authors' own Lean function (tested against real Go, not proved from fmt's source: count such statements apart). THE CARD IS WHAT COUNTS. Prove the row's statement (the work); the ties are given (YtjdlgpnhkfdehaaGreatDoorTie.lean); close each card by the builder's one call (the guide's Derived/Test/ToyasCard.lean, 'card_holds'). Laid BY PROGRAM, IN A SANDBOX (cutbox-door.mjs). By AI agents, Wed Nov 11 2026. No macro, syntax, notation, axiom, sorry.
-/
import Derived.Test.YtjdlgpnhkfdehaaGreatDoorRows
import GoSem.ClaimSeven
namespace Go.Proofs.YtjdlgpnhkfdehaaGreatDoor
namespace Rows

/-- THE TIED CARD OF 'laws.FnBlock'. -/
def fnBlockCard : Claim7 := { stood := { row := fnBlockRow, standIns := [], harness := (true, "0a69bcfa08c30e286bc923300526ce2063a4a68c8394d841016149f83c96e187"), looks := true }, kinds := [], alts := [], laidByText := true, laidKinds := [.sentinel], laidTests := true, laidLooks := .later }
def FnBlockCardSaid : Prop := Claim7.holds Tryz.pinned (.plain (OpenSpec.ofChange fnBlockSpec)) fnBlockCard

/-- THE TIED CARD OF 'laws.FnList'. -/
def fnListCard : Claim7 := { stood := { row := fnListRow, standIns := [], harness := (true, "0a69bcfa08c30e286bc923300526ce2063a4a68c8394d841016149f83c96e187"), looks := true }, kinds := [], alts := [], laidByText := true, laidKinds := [.handle, .data, .data, .sentinel], laidTests := true, laidLooks := .later }
def FnListCardSaid : Prop := Claim7.holds Tryz.pinned (.plain (OpenSpec.ofChange fnListSpec)) fnListCard

/-- THE TIED CARD OF 'laws.FnWay'. -/
def fnWayCard : Claim7 := { stood := { row := fnWayRow, standIns := [], harness := (true, "0a69bcfa08c30e286bc923300526ce2063a4a68c8394d841016149f83c96e187"), looks := true }, kinds := [], alts := [], laidByText := true, laidKinds := [.data, .data], laidTests := true, laidLooks := .later }
def FnWayCardSaid : Prop := Claim7.holds Tryz.pinned (.plain (OpenSpec.ofChange fnWaySpec)) fnWayCard

/-- THE TIED CARD OF 'laws.FnExactBlockUnpack'. -/
def fnExactBlockUnpackCard : Claim7 := { stood := { row := fnExactBlockUnpackRow, standIns := [], harness := (true, "0a69bcfa08c30e286bc923300526ce2063a4a68c8394d841016149f83c96e187"), looks := true }, kinds := [], alts := [], laidByText := true, laidKinds := [.sentinel], laidTests := true, laidLooks := .later }
def FnExactBlockUnpackCardSaid : Prop := Claim7.holds Tryz.pinned (.plain (OpenSpec.ofChange fnExactBlockUnpackSpec)) fnExactBlockUnpackCard

/-- THE TIED CARD OF 'laws.FnExactListOf'. -/
def fnExactListOfCard : Claim7 := { stood := { row := fnExactListOfRow, standIns := [], harness := (true, "0a69bcfa08c30e286bc923300526ce2063a4a68c8394d841016149f83c96e187"), looks := true }, kinds := [], alts := [], laidByText := true, laidKinds := [.data, .data], laidTests := true, laidLooks := .later }
def FnExactListOfCardSaid : Prop := Claim7.holds Tryz.pinned (.plain (OpenSpec.ofChange fnExactListOfSpec)) fnExactListOfCard

/-- THE TIED CARD OF 'laws.FnExactFileOf'. -/
def fnExactFileOfCard : Claim7 := { stood := { row := fnExactFileOfRow, standIns := [], harness := (true, "0a69bcfa08c30e286bc923300526ce2063a4a68c8394d841016149f83c96e187"), looks := true }, kinds := [], alts := [], laidByText := true, laidKinds := [.sentinel], laidTests := true, laidLooks := .later }
def FnExactFileOfCardSaid : Prop := Claim7.holds Tryz.pinned (.plain (OpenSpec.ofChange fnExactFileOfSpec)) fnExactFileOfCard

/-- THE SECOND FORM's CARD OF 'laws.FnBlock'. -/
def fnBlockUptoCard : Claim7 := { stood := { row := fnBlockUptoRow, standIns := [], harness := (true, "0a69bcfa08c30e286bc923300526ce2063a4a68c8394d841016149f83c96e187"), looks := true }, kinds := [], alts := [], laidByText := true, laidKinds := [.sentinel], laidTests := true, laidLooks := .later }
def FnBlockUptoCardSaid : Prop := Claim7.holds Tryz.pinned (.plain (OpenSpec.upto fnBlockSpec)) fnBlockUptoCard

/-- THE SECOND FORM's CARD OF 'laws.FnList'. -/
def fnListUptoCard : Claim7 := { stood := { row := fnListUptoRow, standIns := [], harness := (true, "0a69bcfa08c30e286bc923300526ce2063a4a68c8394d841016149f83c96e187"), looks := true }, kinds := [], alts := [], laidByText := true, laidKinds := [.handle, .data, .data, .sentinel], laidTests := true, laidLooks := .later }
def FnListUptoCardSaid : Prop := Claim7.holds Tryz.pinned (.plain (OpenSpec.upto fnListSpec)) fnListUptoCard

/-- THE SECOND FORM's CARD OF 'laws.FnWay'. -/
def fnWayUptoCard : Claim7 := { stood := { row := fnWayUptoRow, standIns := [], harness := (true, "0a69bcfa08c30e286bc923300526ce2063a4a68c8394d841016149f83c96e187"), looks := true }, kinds := [], alts := [], laidByText := true, laidKinds := [.data, .data], laidTests := true, laidLooks := .later }
def FnWayUptoCardSaid : Prop := Claim7.holds Tryz.pinned (.plain (OpenSpec.upto fnWaySpec)) fnWayUptoCard

/-- THE SECOND FORM's CARD OF 'laws.FnExactBlockUnpack'. -/
def fnExactBlockUnpackUptoCard : Claim7 := { stood := { row := fnExactBlockUnpackUptoRow, standIns := [], harness := (true, "0a69bcfa08c30e286bc923300526ce2063a4a68c8394d841016149f83c96e187"), looks := true }, kinds := [], alts := [], laidByText := true, laidKinds := [.sentinel], laidTests := true, laidLooks := .later }
def FnExactBlockUnpackUptoCardSaid : Prop := Claim7.holds Tryz.pinned (.plain (OpenSpec.upto fnExactBlockUnpackSpec)) fnExactBlockUnpackUptoCard

/-- THE SECOND FORM's CARD OF 'laws.FnExactListOf'. -/
def fnExactListOfUptoCard : Claim7 := { stood := { row := fnExactListOfUptoRow, standIns := [], harness := (true, "0a69bcfa08c30e286bc923300526ce2063a4a68c8394d841016149f83c96e187"), looks := true }, kinds := [], alts := [], laidByText := true, laidKinds := [.data, .data], laidTests := true, laidLooks := .later }
def FnExactListOfUptoCardSaid : Prop := Claim7.holds Tryz.pinned (.plain (OpenSpec.upto fnExactListOfSpec)) fnExactListOfUptoCard

/-- THE SECOND FORM's CARD OF 'laws.FnExactFileOf'. -/
def fnExactFileOfUptoCard : Claim7 := { stood := { row := fnExactFileOfUptoRow, standIns := [], harness := (true, "0a69bcfa08c30e286bc923300526ce2063a4a68c8394d841016149f83c96e187"), looks := true }, kinds := [], alts := [], laidByText := true, laidKinds := [.sentinel], laidTests := true, laidLooks := .later }
def FnExactFileOfUptoCardSaid : Prop := Claim7.holds Tryz.pinned (.plain (OpenSpec.upto fnExactFileOfSpec)) fnExactFileOfUptoCard
end Rows
end Go.Proofs.YtjdlgpnhkfdehaaGreatDoor
