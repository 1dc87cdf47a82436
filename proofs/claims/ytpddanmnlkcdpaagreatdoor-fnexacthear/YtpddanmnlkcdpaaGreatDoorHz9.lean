/- Texts put together: BlkPlain. -/
import Derived.WalkKit
/- Plain mathematics of Blocks: the pieces of a file, one behind the other. -/
namespace Go.Proofs.YtpddanmnlkcdpaaGreatDoor.Bk
def blks (s:ByteArray) (k:Nat):Nat->List ByteArray
 |0=>[]
 |n+1=>blks s k n++[s.extract (n*k) (min (n*k+k) s.size)]
def cnt (p k:Nat):Nat:=(p+k-1)/k
def fineB (p:Nat) (size:Int):Bool:=decide (p<=1000/\1<=size/\size<=48/\(p:Int)<=size*64)
def blocksR (s:ByteArray) (size:Int):List ByteArray:=if fineB s.size size=true then blks s size.toNat (cnt s.size size.toNat) else []
theorem cnt_lt {p k j:Nat} (hk:0<k):j<cnt p k↔j*k<p:=by
 unfold cnt
 rw[Nat.lt_div_iff_mul_lt hk]
 omega
theorem cnt_le {p k:Nat} (hk:0<k):cnt p k<=64↔p<=k*64:=by
 have h:=cnt_lt (p:=p) (j:=64) hk
 rw[Nat.mul_comm]at h
 omega
def rest (s:ByteArray) (k j:Nat):ByteArray:=s.extract (j*k) s.size
end Go.Proofs.YtpddanmnlkcdpaaGreatDoor.Bk

