/- Texts put together: CutWalks. -/
import Derived.Test.YtjfdllgodijibaaGreatDoorWz6
/- The walk of impl.cutText: it answers the piece of the text from a place to a place, and writes nothing that was there. -/
namespace Go.Proofs.YtjfdllgodijibaaGreatDoor.Nu
open Go.RowKit
end Go.Proofs.YtjfdllgodijibaaGreatDoor.Nu

