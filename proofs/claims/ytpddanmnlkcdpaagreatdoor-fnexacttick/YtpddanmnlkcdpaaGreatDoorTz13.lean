/- Texts put together: BlkImpl. -/
import Derived.Test.YtpddanmnlkcdpaaGreatDoorTz8
import Derived.Test.YtpddanmnlkcdpaaGreatDoorTz9
import Derived.Test.YtpddanmnlkcdpaaGreatDoorTz12
/- The walk of impl.Blocks. -/
namespace Go.Proofs.YtpddanmnlkcdpaaGreatDoor.Bk
open Go.RowKit
open St (OwnS one_newS one_cellS app_one)
open Nu (cut_any)
end Go.Proofs.YtpddanmnlkcdpaaGreatDoor.Bk

