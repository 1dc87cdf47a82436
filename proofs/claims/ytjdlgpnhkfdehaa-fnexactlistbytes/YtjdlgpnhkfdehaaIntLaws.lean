/- The laws' own helpers on rows of numbers: the budget of their sizes, and whether two are alike. -/
import Derived.Test.YtjdlgpnhkfdehaaIntRow
import Derived.BigRegion
import Derived.BigQuiet
import Derived.Deep.QuietTactic
namespace Go.Proofs.Ytjdlgpnhkfdehaa.In
open Go.RowKit

theorem ret_bool {a b : Bool} (h : a = b) : Ending.returned (.bool a) = .returned (.bool b) := by rw [h]

end Go.Proofs.Ytjdlgpnhkfdehaa.In
