/- What GetNum answers, said of its text and place. -/
import Derived.Test.YtkfipamdfpknpaaDoorProg
import Derived.Test.YtkfipamdfpknpaaDoorGetPlain
import Derived.WalkKit
import Derived.WalkSpells
import Derived.WalkLawsBesides
namespace Go.Proofs.YtkfipamdfpknpaaDoor.Gn
open Go.RowKit

theorem hide {p : Prop} (h : p) : Hid p := h
def outN (n at_ code : Int) : Value := .agg #[.int .i64 n, .int .i64 at_, .int .i64 code]
def resV (r : Nat × Nat × Int) : Value := if r.2.2 = 0 then outN (unz r.1) r.2.1 0 else outN 0 0 r.2.2
def getV (s : ByteArray) (a : Int) : Value := if 8000 < s.size then outN 0 0 2 else if a < 0 then outN 0 0 1 else resV (numR s a.toNat)
end Go.Proofs.YtkfipamdfpknpaaDoor.Gn
