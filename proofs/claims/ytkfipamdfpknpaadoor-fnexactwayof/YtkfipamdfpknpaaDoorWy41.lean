/- Texts put together: BitWalks. -/
import Derived.Test.YtkfipamdfpknpaaDoorWy40
import Derived.Test.YtkfipamdfpknpaaDoorChecked
/- The walks of both BitsOf. -/
namespace Go.Proofs.YtkfipamdfpknpaaDoor.Bi
open Go.RowKit
open Go.Proofs.YtkfipamdfpknpaaDoor.Sh
open Go.Proofs.YtkfipamdfpknpaaDoor.Nu (ret_strJ)
theorem is_yes (n a b : Int) (w : World) (h1 : a ≤ n) (h2 : n ≤ b) :
  Calls Tryd.prog 30 #[.int .i64 n, .int .i64 a, .int .i64 b] w fun e w' => e = .returned (.bool true) ∧ w' = w := by
 go_enter Tryd.func30, Tryd.ntmps30
 go_wp2_with fail
 go_ret
 exact ⟨rfl, rfl⟩
theorem is_no (n a b : Int) (w : World) (h : n < a ∨ b < n) :
  Calls Tryd.prog 30 #[.int .i64 n, .int .i64 a, .int .i64 b] w fun e w' => e = .returned (.bool false) ∧ w' = w := by
 by_cases h1 : a ≤ n
 ·have h2 : ¬ n ≤ b := by omega
  clear h
  go_enter Tryd.func30, Tryd.ntmps30
  go_wp2_with fail
  go_ret
  exact ⟨rfl, rfl⟩
 ·clear h
  go_enter Tryd.func30, Tryd.ntmps30
  go_wp2_with fail
  go_ret
  exact ⟨rfl, rfl⟩
end Go.Proofs.YtkfipamdfpknpaaDoor.Bi

