import Derived.Test.YtoojegpaofdbfaaGreatDoorKz0
namespace Go.Proofs.YtoojegpaofdbfaaGreatDoor
namespace Bk
def blks(s:zY)(k:Nat):Nat->List zY
 |0=>[]
 |n+1=>blks s k n++[s.extract (n*k) (min (n*k+k) s.size)]
def cnt(p k:Nat):Nat:=(p+k-1)/k
def JZ(p:Nat)(size:Int):Bool:=decide (p<=1000/\1<=size/\size<=48/\(p:Int)<=size*64)
def Qt(s:zY)(size:Int):List zY:=if JZ s.size size=true then blks s size.toNat (cnt s.size size.toNat) else []
theorem zar(s:zY)(k:Nat):∀n,(blks s k n).length=n
 |0=>rfl
 |n+1=>by
  rw[blks,Ek,zar s k n];rfl
theorem zp4{p k j:Nat}(a:0<k):j<cnt p k↔j*k<p:=by unfold cnt;rw[Nat.lt_div_iff_mul_lt a];omega
theorem za5{p k:Nat}(a:0<k):cnt p k<=64↔p<=k*64:=by have h:=zp4 (p:=p) (j:=64) a;rw[Lc]at h;omega
theorem zvn{p k j:Nat}(a:0<k)(b:j<=cnt p k)(h:¬j*k<p):j=cnt p k:=by have:=zp4 (p:=p) (j:=j) a;omega
theorem Qx(s:zY)(size:Int):(Qt s size).length<=64:=by unfold Qt;split;{rename_i h;have h:=Fh h;rw[zar,za5 (by omega)];omega};{exact En _}
theorem zxX{p k j:Nat}(a:0<k)(h:j*k<p):j+1<=cnt p k:=(zp4 a).2 h
def rest(s:zY)(k j:Nat):zY:=s.extract (j*k) s.size
theorem zdy(s:zY)(k j:Nat):(rest s k j).size=s.size-j*k:=by unfold rest;rw[E9];omega
theorem zqR{a b:zY}(c:a.size=0)(d:b.size=0):a=b :=
 Ss (by rw[P6 (show a.data.size=0 from c),P6 (show b.data.size=0 from d)])
theorem zp8(s:zY)(k j:Nat)(h:j*k<s.size):(rest s k j).extract (min k (s.size-j*k)) (s.size-j*k)=rest s k (j+1):=by have a:(j+1)*k=j*k+k:=by{rw[Nj,Pd]};by_cases b:k<=s.size-j*k;{unfold rest;rw[Si,a];congr 1<;>omega};{refine zqR ?_ ?_;{rw[E9,zdy];omega};{rw[zdy,a];omega}}
theorem zp7(s:zY)(k j:Nat)(h:j*k<s.size):(rest s k j).extract 0 (min k (s.size-j*k))=s.extract (j*k) (min (j*k+k) s.size):=by unfold rest;rw[Si];congr 1<;>omega
end Bk
end Go.Proofs.YtoojegpaofdbfaaGreatDoor
