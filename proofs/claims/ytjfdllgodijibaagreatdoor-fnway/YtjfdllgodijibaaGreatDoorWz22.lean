/- Texts put together: BlkImpl. -/
import Derived.Test.YtjfdllgodijibaaGreatDoorWz20
import Derived.Test.YtjfdllgodijibaaGreatDoorWz21
import Derived.Test.YtjfdllgodijibaaGreatDoorWz18
/- The walk of impl.Blocks. -/
namespace Go.Proofs.YtjfdllgodijibaaGreatDoor.Bk
open Go.RowKit
open St (OwnS one_newS one_cellS app_one)
theorem hideK {p:Prop} (h:p):Hid p:=h
end Go.Proofs.YtjfdllgodijibaaGreatDoor.Bk

