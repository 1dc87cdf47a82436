/- Texts put together: TreeWalks, TreeSpec. -/
import Derived.Test.YtkfipamdfpknpaaDoorWy25
import Derived.Test.YtkfipamdfpknpaaDoorWy24
import Derived.Deep.RegionWith
import Derived.BigRegion
/- The walk of impl.treeOf: of right entries it answers their tree, and writes nothing that was there. -/
namespace Go.Proofs.YtkfipamdfpknpaaDoor.Tr
open Go.RowKit
open Go.Proofs.YtkfipamdfpknpaaDoor.St
open Go.Proofs.YtkfipamdfpknpaaDoor.Sh (Vars leafV nodeV leafR nodeR leaf_impl node_impl digest_impl digestV leafR_yes nodeR_yes below3)
end Go.Proofs.YtkfipamdfpknpaaDoor.Tr


/- The walk of spec.l03Tree: of right entries it answers their tree, and writes nothing that was there. -/
namespace Go.Proofs.YtkfipamdfpknpaaDoor.Tr
open Go.RowKit
open Go.Proofs.YtkfipamdfpknpaaDoor.St
open Go.Proofs.YtkfipamdfpknpaaDoor.Sh (leafV nodeV all_any)
end Go.Proofs.YtkfipamdfpknpaaDoor.Tr

