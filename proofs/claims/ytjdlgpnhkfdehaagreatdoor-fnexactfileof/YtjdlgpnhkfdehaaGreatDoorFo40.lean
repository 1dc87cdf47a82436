/- Texts put together: BlkImpl. -/
import Derived.Test.YtjdlgpnhkfdehaaGreatDoorFo39
import Derived.Test.YtjdlgpnhkfdehaaGreatDoorFo29
import Derived.Test.YtjdlgpnhkfdehaaGreatDoorFo10
/- The walk of impl.Blocks. -/
namespace Go.Proofs.YtjdlgpnhkfdehaaGreatDoor.Bk
open Go.RowKit
open Go.Proofs.YtjdlgpnhkfdehaaGreatDoor.St (OwnS one_newS one_cellS app_one)
open Go.Proofs.YtjdlgpnhkfdehaaGreatDoor.Nu (cut_any)
end Go.Proofs.YtjdlgpnhkfdehaaGreatDoor.Bk

