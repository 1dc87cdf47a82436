/- Texts put together: BlkImpl. -/
import Derived.Test.YtkgjfdanjmnmbaaGreatDoorOz9
import Derived.Test.YtkgjfdanjmnmbaaGreatDoorOz10
import Derived.Test.YtkgjfdanjmnmbaaGreatDoorOz13
/- The walk of impl.Blocks. -/
namespace Go.Proofs.YtkgjfdanjmnmbaaGreatDoor.Bk
open Go.RowKit
open St (OwnS one_newS one_cellS app_one)
open Nu (cut_any)
theorem hideK {p:Prop} (h:p):Hid p:=h
end Go.Proofs.YtkgjfdanjmnmbaaGreatDoor.Bk

