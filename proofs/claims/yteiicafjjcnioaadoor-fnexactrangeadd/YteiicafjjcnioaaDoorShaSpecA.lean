/- The walks of spec.l02Keys and spec.l02Start: the numbers of the rounds, and of the first state, in a new row. -/
import Derived.Test.YteiicafjjcnioaaDoorShaTurn
import Derived.Test.YteiicafjjcnioaaDoorShaMade
import Derived.Test.YteiicafjjcnioaaDoorShaPlain3
namespace Go.Proofs.YteiicafjjcnioaaDoor.Sh
open Go.RowKit

set_option maxRecDepth 100000 in
set_option maxHeartbeats 1000000 in
theorem keys_any (w : World) : Calls Tryd.prog 113 #[] w fun e w' => e = .returned (.slice (some ⟨w.heap.size, 0, none⟩) 64 64) ∧ w' = w.alloc (.cells (rowF .u32 64 keyF) 89) := by
  go_enter Tryd.func113, Tryd.ntmps113
  go_wp2
  go_ret
  exact ⟨rfl, rfl⟩

set_option maxRecDepth 100000 in
set_option maxHeartbeats 1000000 in
theorem start_any (w : World) : Calls Tryd.prog 97 #[] w fun e w' => e = .returned (.slice (some ⟨w.heap.size, 0, none⟩) 8 8) ∧ w' = w.alloc (.cells (rowF .i64 8 firstF) 2) := by
  go_enter Tryd.func97, Tryd.ntmps97
  go_wp2
  go_ret
  exact ⟨rfl, rfl⟩
end Go.Proofs.YteiicafjjcnioaaDoor.Sh
