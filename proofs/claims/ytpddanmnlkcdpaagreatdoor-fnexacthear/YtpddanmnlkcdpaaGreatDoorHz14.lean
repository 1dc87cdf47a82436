/- Texts put together: BlkImpl. -/
import Derived.Test.YtpddanmnlkcdpaaGreatDoorHz9
import Derived.Test.YtpddanmnlkcdpaaGreatDoorHz10
import Derived.Test.YtpddanmnlkcdpaaGreatDoorHz13
/- The walk of impl.Blocks. -/
namespace Go.Proofs.YtpddanmnlkcdpaaGreatDoor.Bk
open Go.RowKit
open St (OwnS one_newS one_cellS app_one)
open Nu (cut_any)
end Go.Proofs.YtpddanmnlkcdpaaGreatDoor.Bk

