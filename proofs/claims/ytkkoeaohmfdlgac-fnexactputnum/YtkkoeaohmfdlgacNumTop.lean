/- The walk of the law FnExactPutNum out of the two contracts. -/
import Derived.Test.YtkkoeaohmfdlgacNumWalks
namespace Go.Proofs.Ytkkoeaohmfdlgac.fnExactPutNum
open Go.RowKit

set_option maxHeartbeats 400000 in
theorem walk (a0 : Int) (w0 : (Lit.int .i64 a0).wf = true) (w : World) :
    Calls Try.prog 3 #[.int .i64 a0] w fun e w' => e = .returned (.bool true) ∧ Below w.heap.size w w' := by
  have hr : -9223372036854775808 ≤ a0 ∧ a0 ≤ 9223372036854775807 := by simpa [Lit.wf, IntKind.min, IntKind.max, IntKind.signed, IntKind.bits] using w0
  clear w0
  obtain ⟨h1, h2⟩ := hr
  go_enter Try.func3, Try.ntmps3
  go_wp2_with fail
  refine (Nu.put_spec _ _ h1 h2).mono ?_
  rintro e wa ⟨rfl, hb1⟩
  go_wp2_with fail
  refine (Nu.put_impl _ _ h1 h2).mono ?_
  rintro e wb ⟨rfl, hb2⟩
  go_wp2
  go_ret
  exact ⟨rfl, hb1.trans (hb2.mono hb1.size)⟩
end Go.Proofs.Ytkkoeaohmfdlgac.fnExactPutNum
