/-
  DERIVED. GIVEN WITH THE SEED: THE CARDS: each row of YtghghkfhcpldhaaDoorRows.lean that lists a variable, with what it lists TIED to the program's text (the seventh form; the later family's looks); each row that meets fmt, with fmt's text TOLD by the authors' own Lean function (tested against real Go, not proved from fmt's source: count such statements apart). THE CARD IS WHAT COUNTS. Prove the row's statement (the work); the ties are given (YtghghkfhcpldhaaDoorTie.lean); close each card by the builder's one call (the guide's Derived/Test/ToyasCard.lean, 'card_holds'). Laid BY PROGRAM, IN A SANDBOX (cutbox-door.mjs). By AI agents, Wed Nov 11 2026. No macro, syntax, notation, axiom, sorry.
-/
import Derived.Test.YtghghkfhcpldhaaDoorRows
import GoSem.ClaimSeven
namespace Go.Proofs.YtghghkfhcpldhaaDoor
namespace Rows

/-- THE TIED CARD OF 'laws.FnProof'. -/
def fnProofCard : Claim7 := { stood := { row := fnProofRow, standIns := [], harness := (true, "76a7b26cca4fe0bd28986b691e191773b38fe6622cb07d944f1c37489477a974"), looks := false }, kinds := [], alts := [], laidByText := true, laidKinds := [.data, .data], laidTests := true, laidLooks := .later }
def FnProofCardSaid : Prop := Claim7.holds Tryd.pinned (.plain (OpenSpec.ofChange fnProofSpec)) fnProofCard

/-- THE TIED CARD OF 'laws.FnTree'. -/
def fnTreeCard : Claim7 := { stood := { row := fnTreeRow, standIns := [], harness := (true, "76a7b26cca4fe0bd28986b691e191773b38fe6622cb07d944f1c37489477a974"), looks := false }, kinds := [], alts := [], laidByText := true, laidKinds := [.data, .data], laidTests := true, laidLooks := .later }
def FnTreeCardSaid : Prop := Claim7.holds Tryd.pinned (.plain (OpenSpec.ofChange fnTreeSpec)) fnTreeCard

/-- THE SECOND FORM's CARD OF 'laws.FnProof'. -/
def fnProofUptoCard : Claim7 := { stood := { row := fnProofUptoRow, standIns := [], harness := (true, "76a7b26cca4fe0bd28986b691e191773b38fe6622cb07d944f1c37489477a974"), looks := false }, kinds := [], alts := [], laidByText := true, laidKinds := [.data, .data], laidTests := true, laidLooks := .later }
def FnProofUptoCardSaid : Prop := Claim7.holds Tryd.pinned (.plain (OpenSpec.upto fnProofSpec)) fnProofUptoCard

/-- THE SECOND FORM's CARD OF 'laws.FnTree'. -/
def fnTreeUptoCard : Claim7 := { stood := { row := fnTreeUptoRow, standIns := [], harness := (true, "76a7b26cca4fe0bd28986b691e191773b38fe6622cb07d944f1c37489477a974"), looks := false }, kinds := [], alts := [], laidByText := true, laidKinds := [.data, .data], laidTests := true, laidLooks := .later }
def FnTreeUptoCardSaid : Prop := Claim7.holds Tryd.pinned (.plain (OpenSpec.upto fnTreeSpec)) fnTreeUptoCard
end Rows
end Go.Proofs.YtghghkfhcpldhaaDoor
