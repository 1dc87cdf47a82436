/- Texts put together: BlkImpl. -/
import Derived.Test.YtmeohaiidmmgkaaGreatDoorKz11
import Derived.Test.YtmeohaiidmmgkaaGreatDoorKz12
import Derived.Test.YtmeohaiidmmgkaaGreatDoorKz15
/- The walk of impl.Blocks. -/
namespace Go.Proofs.YtmeohaiidmmgkaaGreatDoor.Bk
open Go.RowKit
open Go.Proofs.YtmeohaiidmmgkaaGreatDoor.St (OwnS one_newS one_cellS app_one)
open Go.Proofs.YtmeohaiidmmgkaaGreatDoor.Nu (cut_any)
theorem hideK {p : Prop} (h : p) : Hid p := h
end Go.Proofs.YtmeohaiidmmgkaaGreatDoor.Bk

