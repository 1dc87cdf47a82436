import Derived.Test.YtoojegpaofdbfaaGreatDoorKz8
import Derived.Test.YtoojegpaofdbfaaGreatDoorKz9
import Derived.Test.YtoojegpaofdbfaaGreatDoorKz12
namespace Go.Proofs.YtoojegpaofdbfaaGreatDoor
open Go.RowKit
namespace Bk
open St (qA qK qy z8)
open Nu (zcM)
theorem za{p:Prop}(h:p):Hid p:=h
end Bk
end Go.Proofs.YtoojegpaofdbfaaGreatDoor
