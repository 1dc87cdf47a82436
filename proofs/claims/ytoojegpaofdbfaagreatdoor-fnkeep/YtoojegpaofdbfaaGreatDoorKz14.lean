import Derived.Test.YtoojegpaofdbfaaGreatDoorKz7
set_option linter.unusedSimpArgs false
namespace Go.Proofs.YtoojegpaofdbfaaGreatDoor
open Go.RowKit
namespace Bi
open Sh
theorem zf{p:Prop}(h:p):Hid p:=h
def zcS(n p:Nat):Nat:=48+n/2 ^ p%2
theorem zfE(n p:Nat):zcS n p<256:=by unfold zcS;omega
theorem zwh(n p:Nat):zcS n p=48∨zcS n p=49:=by unfold zcS;omega
def zcn(n w:Nat):zY:=ZX w (fun j=>zcS n (w-1-j))
theorem znY(n w:Nat):(zcn n w).size=w:=qo _ _
def zAb(n w:Int):zY:=if w<1∨20<w∨n<0∨2 ^ w.toNat<=n then ⟨#[]⟩ else zcn n.toNat w.toNat
def upK(n w k j:Nat):Nat:=if j<k then zcS n (w-1-j) else 0
theorem zvk(n w j:Nat):upK n w 0 j=0:=by simp[upK]
theorem zuU(n w k j:Nat)(v:Int)(a:v=(zcS n (w-1-k):Nat)):upd (fun j=>((upK n w k j:Nat):Int)) k v j=(upK n w (k+1) j:Nat):=by subst a;unfold upd upK;by_cases e:j=k;{subst e;simp};{have:(j<k+1)=(j<k):=propext ⟨fun h=>by omega,fun h=>by omega⟩;simp only[e,this,Sz]}
theorem zwB(n w:Nat):ZX w (fun j=>upK n w w j)=zcn n w:=qE _ _ _ fun j a=>by simp[upK,a]
theorem zyK(n w k j:Nat):upK n w k j<256:=by unfold upK;have:=zfE n (w-1-j);split<;>omega
def dnK(n w k j:Nat):Nat:=if w<=j+k then zcS n (w-1-j) else 0
theorem zuo(n w j:Nat)(h:j<w):dnK n w 0 j=0:=by unfold dnK;rw[Eh (by omega)]
theorem zvp(n w k j:Nat)(v:Int)(c:k<w)(b:j<w)(a:v=(zcS n k:Nat)):upd (fun j=>((dnK n w k j:Nat):Int)) (w-1-k) v j=(dnK n w (k+1) j:Nat):=by subst a;unfold upd dnK;by_cases e:j=w-1-k;{subst e;rw[Ei rfl,Ei (by omega),show w-1-(w-1-k)=k by omega]};{have:(w<=j+(k+1))=(w<=j+k):=propext ⟨fun h=>by omega,fun h=>by omega⟩;simp only[e,this,Sz]}
theorem zw4(n w:Nat):ZX w (fun j=>dnK n w w j)=zcn n w:=qE _ _ _ fun j a=>by unfold dnK;rw[Ei (by omega)]
theorem zyg(n w k j:Nat):dnK n w k j<256:=by unfold dnK;have:=zfE n (w-1-j);split<;>omega
theorem zvj(n k:Nat):n/2 ^ k/2=n/2 ^ (k+1):=by rw[Kb,Mo]
theorem zyv(w:Nat)(h:w<=20):2 ^ w<=1048576:=by have:=Kv (n:=2) (by decide) h;simpa using this
end Bi
end Go.Proofs.YtoojegpaofdbfaaGreatDoor
