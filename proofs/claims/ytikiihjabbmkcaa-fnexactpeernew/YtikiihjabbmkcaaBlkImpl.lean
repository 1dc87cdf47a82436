/- The walk of impl.Blocks. -/
import Derived.Test.YtikiihjabbmkcaaBlkPlain
import Derived.Test.YtikiihjabbmkcaaCutWalks
import Derived.Test.YtikiihjabbmkcaaStrOwn
namespace Go.Proofs.Ytikiihjabbmkcaa.Bk
open Go.RowKit
open Go.Proofs.Ytikiihjabbmkcaa.St (OwnS one_newS one_cellS app_one)
theorem hideK {p : Prop} (h : p) : Hid p := h

end Go.Proofs.Ytikiihjabbmkcaa.Bk
