/- Texts put together: TreeWalks, TreeSpec, StrArg, TreeTop. -/
import Derived.Test.YtikiihjabbmkcaaGreatDoorHz35
import Derived.Deep.RegionWith
import Derived.BigRegion
import Derived.Test.YtikiihjabbmkcaaGreatDoorHz13
/- The walk of impl.treeOf: of right entries it answers their tree, and writes nothing that was there. -/
namespace Go.Proofs.YtikiihjabbmkcaaGreatDoor.Tr
open Go.RowKit
open St
open Sh (Vars leafV nodeV leafR nodeR leaf_impl node_impl digest_impl digestV leafR_yes nodeR_yes below3)
end Go.Proofs.YtikiihjabbmkcaaGreatDoor.Tr


/- The walk of spec.l03Tree: of right entries it answers their tree, and writes nothing that was there. -/
namespace Go.Proofs.YtikiihjabbmkcaaGreatDoor.Tr
open Go.RowKit
open St
open Sh (leafV nodeV all_any l03Leaf_any l03Node_any)
end Go.Proofs.YtikiihjabbmkcaaGreatDoor.Tr


/- A slice of texts that came in. -/
namespace Go.Proofs.YtikiihjabbmkcaaGreatDoor.St
open Go.RowKit
def IsStrs (w:World) (a:Option Addr) (len cap:Nat) (ss:List ByteArray):Prop :=
 (a=none/\len=0/\cap=0/\ss=[]) ∨
 ∃ x,a=some x/\len<=cap/\cap<=maxLen/\ss.length=cap/\(∀ i,i<ss.length->w.cell? (x.add i)=some (.string (ss.getD i ByteArray.empty)))/\∀ s∈ss,s.size<=maxLen
end Go.Proofs.YtikiihjabbmkcaaGreatDoor.St


/- What both TreeHash answer, and the law on it. -/
namespace Go.Proofs.YtikiihjabbmkcaaGreatDoor.Tr
open Go.RowKit
open St
open Sh (Vars)
theorem below2 {w w1 w2:World} (h1:Below w.heap.size w w1) (h2:Below w1.heap.size w1 w2):Below w.heap.size w w2:=h1.trans (h2.mono h1.size)
end Go.Proofs.YtikiihjabbmkcaaGreatDoor.Tr

