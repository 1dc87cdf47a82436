/- Texts put together: InclSpec. -/
import Derived.Test.YtkfipamdfpknpaaDoorWy28
/- The walk of spec.Included. -/
namespace Go.Proofs.YtkfipamdfpknpaaDoor.Tr
open Go.RowKit
open Go.Proofs.YtkfipamdfpknpaaDoor.St
open Go.Proofs.YtkfipamdfpknpaaDoor.Sh (nodeV nodeV_size)
theorem od_pos (a : Nat) (h : 0 < a) : od a % 2 = 1 ∧ 0 < od a ∧ od a ≤ a := by
 induction a using Nat.strongRecOn with
 | ind a ih =>
  by_cases he : a % 2 = 0
  ·rw [od_even a he h]
   have := ih (a / 2) (by omega) (by omega)
   omega
  ·rw [od_odd a (by omega)]
   omega
end Go.Proofs.YtkfipamdfpknpaaDoor.Tr

