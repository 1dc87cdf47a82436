/- Texts put together: BlkImpl. -/
import Derived.Test.YtikiihjabbmkcaaGreatDoorBz11
import Derived.Test.YtikiihjabbmkcaaGreatDoorBz12
import Derived.Test.YtikiihjabbmkcaaGreatDoorBz15
/- The walk of impl.Blocks. -/
namespace Go.Proofs.YtikiihjabbmkcaaGreatDoor.Bk
open Go.RowKit
open St (OwnS one_newS one_cellS app_one)
open Nu (cut_any)
theorem hideK {p:Prop} (h:p):Hid p:=h
end Go.Proofs.YtikiihjabbmkcaaGreatDoor.Bk

