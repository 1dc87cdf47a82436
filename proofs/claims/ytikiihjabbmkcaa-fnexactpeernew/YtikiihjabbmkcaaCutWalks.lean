/- The walk of impl.cutText: it answers the piece of the text from a place to a place, and writes nothing that was there. -/
import Derived.Test.YtikiihjabbmkcaaMemBase
namespace Go.Proofs.Ytikiihjabbmkcaa.Nu
open Go.RowKit

end Go.Proofs.Ytikiihjabbmkcaa.Nu
