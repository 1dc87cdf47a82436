/- The walk of impl.Blocks. -/
import Derived.Test.YtjdlgpnhkfdehaaBlkPlain
import Derived.Test.YtjdlgpnhkfdehaaCutWalks
import Derived.Test.YtjdlgpnhkfdehaaStrOwn
namespace Go.Proofs.Ytjdlgpnhkfdehaa.Bk
open Go.RowKit
open Go.Proofs.Ytjdlgpnhkfdehaa.St (OwnS one_newS one_cellS app_one)
theorem hideK {p : Prop} (h : p) : Hid p := h

end Go.Proofs.Ytjdlgpnhkfdehaa.Bk
