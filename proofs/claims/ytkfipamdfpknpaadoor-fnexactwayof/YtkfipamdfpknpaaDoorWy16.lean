/- Texts put together: ShaSpecA, ShaStill. -/
import Derived.Test.YtkfipamdfpknpaaDoorWy0
import Derived.Test.YtkfipamdfpknpaaDoorWy15
import Derived.Test.YtkfipamdfpknpaaDoorWy4
import Derived.StillTailTactics
/- The walks of spec.l02Keys and spec.l02Start: the numbers of the rounds, and of the first state, in a new row. -/
namespace Go.Proofs.YtkfipamdfpknpaaDoor.Sh
open Go.RowKit
set_option maxRecDepth 100000 in
set_option maxHeartbeats 1000000 in
theorem keys_any (w : World) : Calls Tryd.prog 84 #[] w fun e w' => e = .returned (.slice (some ⟨w.heap.size, 0, none⟩) 64 64) ∧ w' = w.alloc (.cells (rowF .u32 64 keyF) 111) := by
 go_enter Tryd.func84, Tryd.ntmps84
 go_wp2
 go_ret
 exact ⟨rfl, rfl⟩
set_option maxRecDepth 100000 in
set_option maxHeartbeats 1000000 in
theorem start_any (w : World) : Calls Tryd.prog 66 #[] w fun e w' => e = .returned (.slice (some ⟨w.heap.size, 0, none⟩) 8 8) ∧ w' = w.alloc (.cells (rowF .i64 8 firstF) 2) := by
 go_enter Tryd.func66, Tryd.ntmps66
 go_wp2
 go_ret
 exact ⟨rfl, rfl⟩
end Go.Proofs.YtkfipamdfpknpaaDoor.Sh


/- Two laws of the library on regions that draw their order and only read, the world spelled as a walk spells it. -/
namespace Go.Proofs.YtkfipamdfpknpaaDoor.Sh
theorem still_lit {P : Program} {id : Nat} {Q : Exit → Act → World → Prop} {a : Act} {w : World} {l : List Oper} (hm : P.follows .mixedOrders = true) (hB : Region.lexB .any l.toArray = true)
  (h : wpStill P l.toArray w.drew (fun a' => Q .normal a' w.drew) l a) : (Code.region id l.toArray true).wp P Q a w :=
 wp_region_still_lit hm hB h
theorem still_tail {P : Program} {id : Nat} {Q : Exit → Act → World → Prop} {a : Act} {w : World} {l : List Oper} (n : Nat) (hm : P.follows .mixedOrders = true) (hB : Region.lexTailB .any l.toArray n = true)
  (h : wpStill P l.toArray w.drew (fun a' => wpList P l.toArray Q (l.drop n) a' w.drew) (l.take n) a) : (Code.region id l.toArray true).wp P Q a w :=
 wp_region_still_tail n hm hB h
end Go.Proofs.YtkfipamdfpknpaaDoor.Sh

