/-
  DERIVED. GIVEN WITH THE SEED: THE CARDS: each row of YtkfipamdfpknpaaDoorRows.lean that lists a variable, with what it lists TIED to the program's text (the seventh form; the later family's looks); each row that meets fmt, with fmt's text TOLD by the authors' own Lean function (tested against real Go, not proved from fmt's source: count such statements apart). THE CARD IS WHAT COUNTS. Prove the row's statement (the work); the ties are given (YtkfipamdfpknpaaDoorTie.lean); close each card by the builder's one call (the guide's Derived/Test/ToyasCard.lean, 'card_holds'). Laid BY PROGRAM, IN A SANDBOX (cutbox-door.mjs). By AI agents, Wed Nov 11 2026. No macro, syntax, notation, axiom, sorry.
-/
import Derived.Test.YtkfipamdfpknpaaDoorRows
import GoSem.ClaimSeven
namespace Go.Proofs.YtkfipamdfpknpaaDoor
namespace Rows

/-- THE TIED CARD OF 'laws.FnExactListRead'. -/
def fnExactListReadCard : Claim7 := { stood := { row := fnExactListReadRow, standIns := [], harness := (true, "b4c3ee5cb1768551308546823c48e41dede9926244420433cea1fea7bbfd38c9"), looks := true }, kinds := [], alts := [], laidByText := true, laidKinds := [.handle], laidTests := true, laidLooks := .later }
def FnExactListReadCardSaid : Prop := Claim7.holds Tryd.pinned (.plain (OpenSpec.ofChange fnExactListReadSpec)) fnExactListReadCard

/-- THE TIED CARD OF 'laws.FnExactFits'. -/
def fnExactFitsCard : Claim7 := { stood := { row := fnExactFitsRow, standIns := [], harness := (true, "b4c3ee5cb1768551308546823c48e41dede9926244420433cea1fea7bbfd38c9"), looks := true }, kinds := [], alts := [], laidByText := true, laidKinds := [.data, .data], laidTests := true, laidLooks := .later }
def FnExactFitsCardSaid : Prop := Claim7.holds Tryd.pinned (.plain (OpenSpec.ofChange fnExactFitsSpec)) fnExactFitsCard

/-- THE TIED CARD OF 'laws.FnExactWayOf'. -/
def fnExactWayOfCard : Claim7 := { stood := { row := fnExactWayOfRow, standIns := [], harness := (true, "b4c3ee5cb1768551308546823c48e41dede9926244420433cea1fea7bbfd38c9"), looks := true }, kinds := [], alts := [], laidByText := true, laidKinds := [.data, .data], laidTests := true, laidLooks := .later }
def FnExactWayOfCardSaid : Prop := Claim7.holds Tryd.pinned (.plain (OpenSpec.ofChange fnExactWayOfSpec)) fnExactWayOfCard

/-- THE SECOND FORM's CARD OF 'laws.FnExactListRead'. -/
def fnExactListReadUptoCard : Claim7 := { stood := { row := fnExactListReadUptoRow, standIns := [], harness := (true, "b4c3ee5cb1768551308546823c48e41dede9926244420433cea1fea7bbfd38c9"), looks := true }, kinds := [], alts := [], laidByText := true, laidKinds := [.handle], laidTests := true, laidLooks := .later }
def FnExactListReadUptoCardSaid : Prop := Claim7.holds Tryd.pinned (.plain (OpenSpec.upto fnExactListReadSpec)) fnExactListReadUptoCard

/-- THE SECOND FORM's CARD OF 'laws.FnExactFits'. -/
def fnExactFitsUptoCard : Claim7 := { stood := { row := fnExactFitsUptoRow, standIns := [], harness := (true, "b4c3ee5cb1768551308546823c48e41dede9926244420433cea1fea7bbfd38c9"), looks := true }, kinds := [], alts := [], laidByText := true, laidKinds := [.data, .data], laidTests := true, laidLooks := .later }
def FnExactFitsUptoCardSaid : Prop := Claim7.holds Tryd.pinned (.plain (OpenSpec.upto fnExactFitsSpec)) fnExactFitsUptoCard

/-- THE SECOND FORM's CARD OF 'laws.FnExactWayOf'. -/
def fnExactWayOfUptoCard : Claim7 := { stood := { row := fnExactWayOfUptoRow, standIns := [], harness := (true, "b4c3ee5cb1768551308546823c48e41dede9926244420433cea1fea7bbfd38c9"), looks := true }, kinds := [], alts := [], laidByText := true, laidKinds := [.data, .data], laidTests := true, laidLooks := .later }
def FnExactWayOfUptoCardSaid : Prop := Claim7.holds Tryd.pinned (.plain (OpenSpec.upto fnExactWayOfSpec)) fnExactWayOfUptoCard
end Rows
end Go.Proofs.YtkfipamdfpknpaaDoor
