/- Texts put together: Builder. -/
import Derived.Shelf.Strings.Builder1
import Derived.Test.YtpddanmnlkcdpaaGreatDoorChecked
import Derived.WalkKit
/- A strings.Builder of the call's own: its copy check and WriteString walked, String out of the library's own contract. -/
namespace Go.Proofs.YtpddanmnlkcdpaaGreatDoor.Sb
open Go.Shelf Go.RowKit
def lays169_ren:Go.Shelf.Ren:=⟨fun|169=>225|n=>n,fun|70=>274|9=>9|0=>0|72=>276|37=>168|127=>297|3=>3|5=>5|n=>n,fun|n=>n⟩
end Go.Proofs.YtpddanmnlkcdpaaGreatDoor.Sb

