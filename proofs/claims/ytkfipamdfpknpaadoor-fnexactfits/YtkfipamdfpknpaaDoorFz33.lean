/- Texts put together: Mark, Held. -/
import Derived.Test.YtkfipamdfpknpaaDoorFz31
import Derived.Test.YtkfipamdfpknpaaDoorFz12
import Derived.Deep.RegionWith
import Derived.BigRegion
/- The laws' marks: the text of a mark, marks written into a row of texts, marks found again. -/
namespace Go.Proofs.YtkfipamdfpknpaaDoor.St
open Go.RowKit
def dg (k : Nat) (o : ByteArray) : ByteArray := if _h : k = 0 then o else dg (k / 10) (⟨#[UInt8.ofNat (48 + k % 10)]⟩ ++ o)
termination_by k
decreasing_by omega
def markT (k : Nat) : ByteArray := ⟨#[109]⟩ ++ dg k ⟨#[]⟩
def marks (k n : Nat) : List ByteArray := (List.range n).map fun j => markT (k + j)
def mmid (l : List ByteArray) (k i : Nat) : List ByteArray := marks k i ++ l.drop i
end Go.Proofs.YtkfipamdfpknpaaDoor.St


/- The laws' marks found again; an empty row too. -/
namespace Go.Proofs.YtkfipamdfpknpaaDoor.St
open Go.RowKit
end Go.Proofs.YtkfipamdfpknpaaDoor.St

