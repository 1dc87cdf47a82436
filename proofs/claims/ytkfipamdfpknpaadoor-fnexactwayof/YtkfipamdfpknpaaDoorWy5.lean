/- Texts put together: ShaIdx. -/
import Derived.Test.YtkfipamdfpknpaaDoorChecked
import Derived.Test.YtkfipamdfpknpaaDoorWy4
import Derived.WalkKit
/- An array of eight numbers by value, asked at a place. -/
namespace Go.Proofs.YtkfipamdfpknpaaDoor.Sh
open Go.RowKit
set_option maxRecDepth 100000 in
theorem idx8 (xa xb xc xd xe xf xg xh : Int) (j : Nat) (hj : j < 8) (u : World) :
  (Instr.index 112 (.agg #[.int .u32 xa, .int .u32 xb, .int .u32 xc, .int .u32 xd, .int .u32 xe, .int .u32 xf, .int .u32 xg, .int .u32 xh]) (.int .i64 (j : Int))).run Tryd.prog u
   = .ok (.int .u32 ((⟨xa, xb, xc, xd, xe, xf, xg, xh⟩ : St).at j)) u := by
 have hs : ∀ u : World, (Go.sizeOf 111).run Tryd.prog u = .ok 1 u := fun u => by kernel_rfl
 have : j = 0 ∨ j = 1 ∨ j = 2 ∨ j = 3 ∨ j = 4 ∨ j = 5 ∨ j = 6 ∨ j = 7 := by omega
 rcases this with rfl | rfl | rfl | rfl | rfl | rfl | rfl | rfl <;>
 simp [Instr.index, asIntOf, underlying, Tryd.underlying112, Tryd.underlying111, Result.andThen, hs, St.at, Go.part, isAgg]
end Go.Proofs.YtkfipamdfpknpaaDoor.Sh

