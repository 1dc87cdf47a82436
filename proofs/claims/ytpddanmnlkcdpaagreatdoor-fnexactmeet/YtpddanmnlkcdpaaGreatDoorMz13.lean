/- Texts put together: BlkImpl. -/
import Derived.Test.YtpddanmnlkcdpaaGreatDoorMz8
import Derived.Test.YtpddanmnlkcdpaaGreatDoorMz9
import Derived.Test.YtpddanmnlkcdpaaGreatDoorMz12
/- The walk of impl.Blocks. -/
namespace Go.Proofs.YtpddanmnlkcdpaaGreatDoor.Bk
open Go.RowKit
open St (OwnS one_newS one_cellS app_one)
open Nu (cut_any)
theorem hideK {p:Prop} (h:p):Hid p:=h
end Go.Proofs.YtpddanmnlkcdpaaGreatDoor.Bk

