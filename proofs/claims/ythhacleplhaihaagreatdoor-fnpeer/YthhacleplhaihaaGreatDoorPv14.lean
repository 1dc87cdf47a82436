import Derived.Test.YthhacleplhaihaaGreatDoorPv7
set_option linter.defProp false
namespace Go.Proofs.YthhacleplhaihaaGreatDoor
open Go.RowKit
def qP{p:Prop}(h:p):Hid p:=h
def ztV(n p:Nat):Nat:=48+n/2 ^ p%2
def zxx(n p:Nat):ztV n p<256:=by unfold ztV;omega
def Jk(n w:Nat):zY:=zgu w (fun j=>ztV n (w-1-j))
def zoP(n w:Nat):(Jk n w).size=w:=JT _ _
def zB5(n w:Int):zY:=if w<1∨20<w∨n<0∨2 ^ w.toNat<=n then ⟨#[]⟩ else Jk n.toNat w.toNat
def upK(n w k j:Nat):Nat:=if j<k then ztV n (w-1-j) else 0
def dnK(n w k j:Nat):Nat:=if w<=j+k then ztV n (w-1-j) else 0
def zwC(n w j:Nat)(h:j<w):dnK n w 0 j=0:=by unfold dnK;rw[Ej (by omega)]
def zuV(n w k j:Nat)(v:Int)(c:k<w)(b:j<w)(a:v=(ztV n k:Nat)):upd (fun j=>((dnK n w k j:Nat):Int)) (w-1-k) v j=(dnK n w (k+1) j:Nat):=by subst a;unfold upd dnK;by_cases e:j=w-1-k;{subst e;rw[Em rfl,Em (by omega),show w-1-(w-1-k)=k by omega]};{have:(w<=j+(k+1))=(w<=j+k):=propext ⟨fun h=>by omega,fun h=>by omega⟩;simp only[e,this,if_false]}
def zx0(n w:Nat):zgu w (fun j=>dnK n w w j)=Jk n w:=zdR _ _ _ fun j a=>by unfold dnK;rw[Em (by omega)]
def zAn(n w k j:Nat):dnK n w k j<256:=by unfold dnK;have:=zxx n (w-1-j);split<;>omega
def zws(n k:Nat):n/2 ^ k/2=n/2 ^ (k+1):=by rw[Kr,Ox]
