/- Texts put together: BlkImpl. -/
import Derived.Test.YtkfipamdfpknpaaDoorWy37
import Derived.Test.YtkfipamdfpknpaaDoorWy38
import Derived.Test.YtkfipamdfpknpaaDoorWy33
/- The walk of impl.Blocks. -/
namespace Go.Proofs.YtkfipamdfpknpaaDoor.Bk
open Go.RowKit
open Go.Proofs.YtkfipamdfpknpaaDoor.St (OwnS one_newS one_cellS app_one)
end Go.Proofs.YtkfipamdfpknpaaDoor.Bk

