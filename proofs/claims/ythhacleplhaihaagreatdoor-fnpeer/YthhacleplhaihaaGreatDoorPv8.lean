import Derived.Test.YthhacleplhaihaaGreatDoorPv0
set_option linter.defProp false
namespace Go.Proofs.YthhacleplhaihaaGreatDoor
variable{j k p:Nat}
def blks(s:zY)(k:Nat):Nat->List zY
 |0=>[]
 |n+1=>blks s k n++[s.extract (n*k) (min (n*k+k) s.size)]
def qE(p k:Nat):Nat:=(p+k-1)/k
def zbd(p:Nat)(size:Int):Bool:=decide (p<=1000/\1<=size/\size<=48/\(p:Int)<=size*64)
def zad(s:zY)(size:Int):List zY:=if zbd s.size size=true then blks s size.toNat (qE s.size size.toNat) else []
def zcw(s:zY)(k:Nat):∀n,(blks s k n).length=n
 |0=>rfl
 |n+1=>by
  rw[blks,Ee,zcw s k n];rfl
def zr8(a:0<k):j<qE p k↔j*k<p:=by unfold qE;rw[Nat.lt_div_iff_mul_lt a];omega
def zbn(a:0<k):qE p k<=64↔p<=k*64:=by have h:=zr8 (p:=p) (j:=64) a;rw[Ni]at h;omega
def zvF(a:0<k)(b:j<=qE p k)(h:¬j*k<p):j=qE p k:=by have:=zr8 (p:=p) (j:=j) a;omega
def zco(s:zY)(size:Int):(zad s size).length<=64:=by unfold zad;split;{rename_i h;have h:=Fy h;rw[zcw,zbn (by omega)];omega};{exact Es _}
def zyx(a:0<k)(h:j*k<p):j+1<=qE p k:=(zr8 a).2 h
def rest(s:zY)(k j:Nat):zY:=s.extract (j*k) s.size
def zcZ(s:zY)(k j:Nat):(rest s k j).size=s.size-j*k:=by unfold rest;rw[Li];omega
def zrt{a b:zY}(c:a.size=0)(d:b.size=0):a=b :=
 Oj (by rw[Rx (show a.data.size=0 from c),Rx (show b.data.size=0 from d)])
def zsX(s:zY)(k j:Nat)(h:j*k<s.size):(rest s k j).extract (min k (s.size-j*k)) (s.size-j*k)=rest s k (j+1):=by have a:(j+1)*k=j*k+k:=by{rw[Ov,Vf]};by_cases b:k<=s.size-j*k;{unfold rest;rw[Uf,a];congr 1<;>omega};{refine zrt ?_ ?_;{rw[Li,zcZ];omega};{rw[zcZ,a];omega}}
def zs4(s:zY)(k j:Nat)(h:j*k<s.size):(rest s k j).extract 0 (min k (s.size-j*k))=s.extract (j*k) (min (j*k+k) s.size):=by unfold rest;rw[Uf];congr 1<;>omega
