/- The laws' own helpers on rows of numbers: the budget of their sizes, and whether two are alike. -/
import Derived.Test.YtkfipamdfpknpaaDoorIntRow
import Derived.BigRegion
import Derived.BigQuiet
import Derived.Deep.QuietTactic
namespace Go.Proofs.YtkfipamdfpknpaaDoor.In
open Go.RowKit

theorem ret_bool {a b : Bool} (h : a = b) : Ending.returned (.bool a) = .returned (.bool b) := by rw [h]

end Go.Proofs.YtkfipamdfpknpaaDoor.In
