import Derived.Test.YtbdcffjcogglbaaGreatDoorOz7
namespace Go.Proofs.YtbdcffjcogglbaaGreatDoor
open Go.RowKit
namespace Bi
open Sh
theorem hideB {p:Prop} (h:p):Hid p:=h
def bitB (n p:Nat):Nat:=48+n/2 ^ p%2
theorem bitB_lt (n p:Nat):bitB n p<256:=by unfold bitB;omega
theorem bitB_01 (n p:Nat):bitB n p=48∨bitB n p=49:=by unfold bitB;omega
def bitsV (n w:Nat):ByteArray:=strF w (fun j=>bitB n (w-1-j))
theorem bitsV_size (n w:Nat):(bitsV n w).size=w:=strF_size _ _
def bitsR (n w:Int):ByteArray:=if w<1∨20<w∨n<0∨2 ^ w.toNat<=n then ⟨#[]⟩ else bitsV n.toNat w.toNat
def upK (n w k j:Nat):Nat:=if j<k then bitB n (w-1-j) else 0
theorem upK_zero (n w j:Nat):upK n w 0 j=0:=by simp[upK]
theorem upK_next (n w k j:Nat) (v:Int) (hv:v=(bitB n (w-1-k):Nat)):upd (fun j=>((upK n w k j:Nat):Int)) k v j=(upK n w (k+1) j:Nat):=by
 subst hv;unfold upd upK;by_cases e:j=k
 ·subst e;simp
 ·have:(j<k+1)=(j<k):=propext ⟨fun h=>by omega,fun h=>by omega⟩
  simp only[e,this,if_false]
theorem upK_all (n w:Nat):strF w (fun j=>upK n w w j)=bitsV n w:=strF_congr _ _ _ fun j hj=>by simp[upK,hj]
theorem upK_lt (n w k j:Nat):upK n w k j<256:=by
 unfold upK
 have:=bitB_lt n (w-1-j)
 split<;>omega
def dnK (n w k j:Nat):Nat:=if w<=j+k then bitB n (w-1-j) else 0
theorem dnK_zero (n w j:Nat) (h:j<w):dnK n w 0 j=0:=by unfold dnK;rw[if_neg (by omega)]
theorem dnK_next (n w k j:Nat) (v:Int) (hk:k<w) (hj:j<w) (hv:v=(bitB n k:Nat)):upd (fun j=>((dnK n w k j:Nat):Int)) (w-1-k) v j=(dnK n w (k+1) j:Nat):=by
 subst hv;unfold upd dnK;by_cases e:j=w-1-k
 ·subst e
  rw[if_pos rfl,if_pos (by omega),show w-1-(w-1-k)=k by omega]
 ·have:(w<=j+(k+1))=(w<=j+k):=propext ⟨fun h=>by omega,fun h=>by omega⟩
  simp only[e,this,if_false]
theorem dnK_all (n w:Nat):strF w (fun j=>dnK n w w j)=bitsV n w:=strF_congr _ _ _ fun j hj=>by unfold dnK;rw[if_pos (by omega)]
theorem dnK_lt (n w k j:Nat):dnK n w k j<256:=by
 unfold dnK
 have:=bitB_lt n (w-1-j)
 split<;>omega
theorem half_pow (n k:Nat):n/2 ^ k/2=n/2 ^ (k+1):=by rw[Nat.pow_succ,Nat.div_div_eq_div_mul]
theorem pow20 (w:Nat) (h:w<=20):2 ^ w<=1048576:=by
 have:=Nat.pow_le_pow_right (n:=2) (by decide) h
 simpa using this
end Bi
end Go.Proofs.YtbdcffjcogglbaaGreatDoor
