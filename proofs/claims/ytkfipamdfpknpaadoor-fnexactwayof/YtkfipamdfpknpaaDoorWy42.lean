/- Texts put together: BlkSpec. -/
import Derived.Test.YtkfipamdfpknpaaDoorWy39
import Derived.Test.YtkfipamdfpknpaaDoorWy41
/- The walks of the specification's Blocks. -/
namespace Go.Proofs.YtkfipamdfpknpaaDoor.Bk
open Go.RowKit
open Go.Proofs.YtkfipamdfpknpaaDoor.St (OwnS one_newS one_cellS app_one)
open Go.Proofs.YtkfipamdfpknpaaDoor.Bi (is_yes is_no)
theorem own_noneS (W : World) : OwnS (W.alloc (.cells #[] 9)) W.heap.size (.slice (some ⟨W.heap.size, 0, none⟩) 0 0) [] :=
 ⟨rfl, .inr ⟨W.heap.size, 0, #[], rfl, Nat.le_refl _, heap_alloc_new W _, Nat.le_refl _, by unfold maxLen; omega, rfl, rfl⟩⟩
end Go.Proofs.YtkfipamdfpknpaaDoor.Bk

