import Derived.Test.YtbdcffjcogglbaaGreatDoorOzNl
import Derived.WalkKit
namespace Go.Proofs.YtbdcffjcogglbaaGreatDoor
namespace Bk
def blks (s:ByteArray) (k:Nat):Nat->List ByteArray
 |0=>[]
 |n+1=>blks s k n++[s.extract (n*k) (min (n*k+k) s.size)]
def cnt (p k:Nat):Nat:=(p+k-1)/k
def fineB (p:Nat) (size:Int):Bool:=decide (p<=1000/\1<=size/\size<=48/\(p:Int)<=size*64)
def blocksR (s:ByteArray) (size:Int):List ByteArray:=if fineB s.size size=true then blks s size.toNat (cnt s.size size.toNat) else []
theorem blks_length (s:ByteArray) (k:Nat):∀ n,(blks s k n).length=n
 |0=>rfl
 |n+1=>by
  rw[blks,List.length_append,blks_length s k n];rfl
theorem cnt_lt {p k j:Nat} (hk:0<k):j<cnt p k↔j*k<p:=by
 unfold cnt;rw[Nat.lt_div_iff_mul_lt hk];omega
theorem cnt_le {p k:Nat} (hk:0<k):cnt p k<=64↔p<=k*64:=by
 have h:=cnt_lt (p:=p) (j:=64) hk;rw[Nat.mul_comm]at h;omega
theorem cnt_done {p k j:Nat} (hk:0<k) (hj:j<=cnt p k) (h:¬j*k<p):j=cnt p k:=by
 have:=cnt_lt (p:=p) (j:=j) hk
 omega
theorem blocksR_length (s:ByteArray) (size:Int):(blocksR s size).length<=64:=by
 unfold blocksR
 split
 ·rename_i h
  have h:=of_decide_eq_true h;rw[blks_length,cnt_le (by omega)];omega
 ·exact Nat.zero_le _
theorem next_le {p k j:Nat} (hk:0<k) (h:j*k<p):j+1<=cnt p k:=(cnt_lt hk).2 h
def rest (s:ByteArray) (k j:Nat):ByteArray:=s.extract (j*k) s.size
theorem rest_size (s:ByteArray) (k j:Nat):(rest s k j).size=s.size-j*k:=by
 unfold rest;rw[ByteArray.size_extract];omega
theorem empty_ext {a b:ByteArray} (ha:a.size=0) (hb:b.size=0):a=b :=
 ByteArray.ext (by rw[Array.eq_empty_of_size_eq_zero (show a.data.size=0 from ha),Array.eq_empty_of_size_eq_zero (show b.data.size=0 from hb)])
theorem rest_next (s:ByteArray) (k j:Nat) (h:j*k<s.size):(rest s k j).extract (min k (s.size-j*k)) (s.size-j*k)=rest s k (j+1):=by
 have hm:(j+1)*k=j*k+k:=by rw[Nat.add_mul,Nat.one_mul]
 by_cases hk:k<=s.size-j*k
 ·unfold rest
  rw[ByteArray.extract_extract,hm]
  congr 1<;>omega
 ·refine empty_ext ?_ ?_
  ·rw[ByteArray.size_extract,rest_size]
   omega
  ·rw[rest_size,hm]
   omega
theorem rest_head (s:ByteArray) (k j:Nat) (h:j*k<s.size):(rest s k j).extract 0 (min k (s.size-j*k))=s.extract (j*k) (min (j*k+k) s.size):=by
 unfold rest;rw[ByteArray.extract_extract]
 congr 1<;>omega
end Bk
end Go.Proofs.YtbdcffjcogglbaaGreatDoor
