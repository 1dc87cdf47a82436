/- The walks of spec.l02Keys and spec.l02Start: the numbers of the rounds, and of the first state, in a new row. -/
import Derived.Test.YtghghkfhcpldhaaDoorShaTurn
import Derived.Test.YtghghkfhcpldhaaDoorShaMade
import Derived.Test.YtghghkfhcpldhaaDoorShaPlain3
namespace Go.Proofs.YtghghkfhcpldhaaDoor.Sh
open Go.RowKit

set_option maxRecDepth 100000 in
set_option maxHeartbeats 1000000 in
theorem keys_any (w : World) : Calls Tryd.prog 78 #[] w fun e w' => e = .returned (.slice (some ⟨w.heap.size, 0, none⟩) 64 64) ∧ w' = w.alloc (.cells (rowF .u32 64 keyF) 80) := by
  go_enter Tryd.func78, Tryd.ntmps78
  go_wp2
  go_ret
  exact ⟨rfl, rfl⟩

set_option maxRecDepth 100000 in
set_option maxHeartbeats 1000000 in
theorem start_any (w : World) : Calls Tryd.prog 70 #[] w fun e w' => e = .returned (.slice (some ⟨w.heap.size, 0, none⟩) 8 8) ∧ w' = w.alloc (.cells (rowF .i64 8 firstF) 2) := by
  go_enter Tryd.func70, Tryd.ntmps70
  go_wp2
  go_ret
  exact ⟨rfl, rfl⟩
end Go.Proofs.YtghghkfhcpldhaaDoor.Sh
