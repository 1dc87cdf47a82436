/- The walk of impl.Blocks. -/
import Derived.Test.YtkfipamdfpknpaaDoorBlkPlain
import Derived.Test.YtkfipamdfpknpaaDoorCutWalks
import Derived.Test.YtkfipamdfpknpaaDoorStrOwn
namespace Go.Proofs.YtkfipamdfpknpaaDoor.Bk
open Go.RowKit
open Go.Proofs.YtkfipamdfpknpaaDoor.St (OwnS one_newS one_cellS app_one)
open Go.Proofs.YtkfipamdfpknpaaDoor.Nu (cut_any)

theorem hideK {p : Prop} (h : p) : Hid p := h

end Go.Proofs.YtkfipamdfpknpaaDoor.Bk
