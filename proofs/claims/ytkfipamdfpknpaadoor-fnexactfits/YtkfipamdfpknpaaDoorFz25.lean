/- Texts put together: TreeRight, TreeWalks. -/
import Derived.Test.YtkfipamdfpknpaaDoorFz23
import Derived.Test.YtkfipamdfpknpaaDoorFz12
import Derived.BigRegion
import Derived.BigQuiet
import Derived.Deep.QuietTactic
import Derived.Test.YtkfipamdfpknpaaDoorFz24
/- The walks of impl.entriesRight and spec.l03Entries: whether entries are right. -/
namespace Go.Proofs.YtkfipamdfpknpaaDoor.Tr
open Go.RowKit
open Go.Proofs.YtkfipamdfpknpaaDoor.St
end Go.Proofs.YtkfipamdfpknpaaDoor.Tr


/- The walk of impl.treeOf: of right entries it answers their tree, and writes nothing that was there. -/
namespace Go.Proofs.YtkfipamdfpknpaaDoor.Tr
open Go.RowKit
open Go.Proofs.YtkfipamdfpknpaaDoor.St
open Go.Proofs.YtkfipamdfpknpaaDoor.Sh (Vars leafV nodeV leafR nodeR leaf_impl node_impl digest_impl digestV leafR_yes nodeR_yes below3)
end Go.Proofs.YtkfipamdfpknpaaDoor.Tr

