import Derived.Test.YtbdcffjcogglbaaGreatDoorOz14
set_option maxRecDepth 100000
set_option maxHeartbeats 8000000
namespace Go.Proofs.YtbdcffjcogglbaaGreatDoor
open Go.RowKit
open Go.Proofs.Tryz
namespace Bi
open Sh
open Nu (ret_strJ)
theorem i64_and1 (n:Int):bits .and .i64 n 1=n%2:=by
 have h1:(BitVec.ofInt 64 1).toNat=2 ^ 1-1:=by decide
 have key:(BitVec.ofInt 64 n &&& BitVec.ofInt 64 1).toNat=(n%((2 ^ 64:Nat):Int)).toNat%2 ^ 1:=by
  rw[BitVec.toNat_and,BitVec.toNat_ofInt,h1,Nat.and_two_pow_sub_one_eq_mod]
 show IntKind.i64.wrap ((BitVec.ofInt 64 n &&& BitVec.ofInt 64 1).toNat:Nat)=n%2
 rw[key,IntKind.wrap_i64];omega
theorem div_cast (n p:Nat):(n:Int)/2 ^ p=((n/2 ^ p:Nat):Int):=by simp
theorem bit_and (n p:Nat):(48+bits BinOp.and IntKind.i64 ((n:Int)/2 ^ p) 1%256)%256=((bitB n p:Nat):Int):=by
 rw[i64_and1,div_cast];unfold bitB;omega
theorem ret_boolB {a b:Bool} (h:a=b):Ending.returned (.bool a)=.returned (.bool b):=by rw[h]
theorem ret_u8 {a b:Int} (h:a=b):Ending.returned (.int .u8 a)=.returned (.int .u8 b):=by rw[h]
theorem bitOf_any (n p:Nat) (w:World) (hp:p<=63) :
  Calls prog 195 #[.int .i64 n,.int .i64 p] w fun e w'=>e=.returned (.int .u8 (bitB n p:Nat))/\w'=w:=by
 have HB:=hideB (bit_and n p);go_enter func195,ntmps195
 go_wp2_with fail
 go_ret;exact⟨ret_u8 HB.o,rfl⟩
theorem is_yes (n a b:Int) (w:World) (h1:a<=n) (h2:n<=b) :
  Calls prog 41 #[.int .i64 n,.int .i64 a,.int .i64 b] w fun e w'=>e=.returned (.bool true)/\w'=w:=by
 go_enter func41,ntmps41
 go_wp2_with fail
 go_ret;exact⟨rfl,rfl⟩
theorem is_no (n a b:Int) (w:World) (h:n<a∨b<n) :
  Calls prog 41 #[.int .i64 n,.int .i64 a,.int .i64 b] w fun e w'=>e=.returned (.bool false)/\w'=w:=by
 by_cases h1:a<=n
 ·have h2:¬n<=b:=by omega
  clear h;go_enter func41,ntmps41
  go_wp2_with fail
  go_ret;exact⟨rfl,rfl⟩
 ·clear h
  go_enter func41,ntmps41
  go_wp2_with fail
  go_ret;exact⟨rfl,rfl⟩
theorem bits_spec (n m:Nat) (w:World) (hn:n<=1048576) (h1:1<=m) (h2:m<=20) :
  Calls prog 170 #[.int .i64 n,.int .i64 m] w fun e w'=>e=.returned (.string (bitsV n m))/\Below w.heap.size w w':=by
 obtain⟨i0,hi,hz0,hz1,hz2⟩:=info_parts Nu.Tryz.infoJ5;go_enter func170,ntmps170
 go_wp2_with (at_make;refine wpList_make_full _ rfl (.tmp 7) (.tmp 7) 22 rfl w.heap.size 5 i0 (.int .u8 0) 1 underlying22 hi hz0 hz1 .i64 .i64 _ _ m rfl rfl (by simp) (by simp) (by rw[hz2];omega) (by unfold maxLen;omega) nl ?_;intro w1 hown1 hgrow1;have HR:=hideB (made_row hown1);have HB:=hideB ((Below.refl w.heap.size w).grown hgrow1 nl (by simp));clear hown1 hgrow1)
 go_loopw [6,0] (fun i v wr=>∃ k q:Nat,i=.int .i64 ((m:Int)-1-k)/\v=.int .i64 q/\k<=m/\q=n/2 ^ k/\IsB wr w.heap.size 5 .u8 m (fun j=>(dnK n m k j:Nat))/\Below w.heap.size w wr) (fun i _ _=>((intOf i)+1).toNat)
 case atStart =>
  exact⟨0,n,by go_num,rfl,by omega,by simp,IsB.congr HR.o (fun j hj=>by rw[dnK_zero n m j hj];rfl),HB.o⟩
 case round =>
  obtain⟨k,q,rfl,rfl,hk,hq,hr,hbel⟩:=hrel
  have hqn:q<=1048576:=by have:=Nat.div_le_self n (2 ^ k);omega
  have HQ:=hideB hq;have HR2:=hideB hr;clear hq;by_cases hlt:k<m
  ·obtain⟨p,hp⟩:∃ p:Nat,p=m-1-k:=⟨_,rfl⟩
   have hpi:(m:Int)-1-k=p:=by omega
   have ce:=hr.cell (j:=p) (by omega);have cf:=hr.frozen p
   have HV:Hid (((48+(q:Int)%2)%256)=((bitB n k:Nat):Int)):=by
    unfold Hid bitB;rw[HQ.o];omega
   have HN:Hid (q/2=n/2 ^ (k+1)):=by
    unfold Hid;rw[HQ.o,half_pow]
   have HP:=hideB hp;rw[hpi];clear hr hp
   go_wp2_with fail
   go_roundw
   case rel =>
    refine⟨k+1,q/2,by go_num,by go_num,by omega,HN.o,?_,hbel.setCell nl _⟩;refine IsB.congr (HR2.o.set p _) (fun j hj=>?_);rw[HP.o];exact dnK_next n m k j _ hlt hj (by first|exact HV.o|(rw[<-HV.o];omega))
   case measure=>simp[intOf]
  ·obtain rfl:k=m:=by omega
   have hcv:=hr.str (P:=prog) (src:=22) (dst:=9) k k nl (fun j _=>dnK_lt n k k j) underlying22 underlying5 underlying9;rw[dnK_all]at hcv;clear hr
   go_wp2_with fail
   go_ret;exact⟨rfl,hbel⟩
theorem bitsOf_yes (n m:Nat) (w:World) (h1:1<=m) (h2:m<=20) (h3:n<2 ^ m) :
  Calls prog 166 #[.int .i64 n,.int .i64 m] w fun e w'=>e=.returned (.string (bitsV n m))/\Below w.heap.size w w':=by
 obtain⟨i0,hi,hz0,hz1,hz2⟩:=info_parts Nu.Tryz.infoJ5;have hp20:=pow20 m h2
 have hcast:((2 ^ m:Nat):Int)=(2:Int) ^ m:=by simp
 have h4:¬((2:Int) ^ m<=n):=by omega
 have h5:(2:Int) ^ m<=1048576:=by omega
 have h6:(0:Int)<(2:Int) ^ m:=by have:=Nat.pow_pos (n:=m) (a:=2) (by decide);omega
 clear h3 hcast hp20;go_enter func166,ntmps166
 go_wp2_with (at_make;refine wpList_make_full _ rfl (.tmp 23) (.tmp 23) 22 rfl w.heap.size 5 i0 (.int .u8 0) 1 underlying22 hi hz0 hz1 .i64 .i64 _ _ m rfl rfl (by simp) (by simp) (by rw[hz2];omega) (by unfold maxLen;omega) nl ?_;intro w1 hown1 hgrow1;have HR:=hideB (made_row hown1);have HB:=hideB ((Below.refl w.heap.size w).grown hgrow1 nl (by simp));clear hown1 hgrow1)
 go_loopw [26] (fun i wr=>∃ k:Nat,i=.int .i64 k/\k<=m/\IsB wr w.heap.size 5 .u8 m (fun j=>(upK n m k j:Nat))/\Below w.heap.size w wr) (fun i _=>m-(intOf i).toNat)
 case atStart=>exact⟨0,rfl,by omega,IsB.congr HR.o (fun j hj=>by rw[upK_zero];rfl),HB.o⟩
 case round =>
  obtain⟨k,rfl,hk,hr,hbel⟩:=hrel;have HR2:=hideB hr;by_cases hlt:k<m
  ·have ce:=hr.cell (j:=k) (by omega)
   have cf:=hr.frozen k;obtain⟨p,hp⟩:∃ p:Nat,p=m-1-k:=⟨_,rfl⟩
   have hpi:(m:Int)-1-k=p:=by omega
   have HO:=hideB (bitOf_any n p wr (by omega));have HP:=hideB hp
   have HV:Hid (((bitB n p:Nat):Int)=((bitB n (m-1-k):Nat):Int)):=by
    unfold Hid;rw[HP.o]
   clear hr hp
   go_wp2_with fail
   refine HO.o.mono ?_;rintro e w' ⟨rfl,hw⟩;subst w'
   go_wp2_with fail
   go_roundw
   case rel =>
    exact⟨k+1,by go_num,by omega,IsB.congr (HR2.o.set k _) (fun j hj=>upK_next n m k j _ HV.o),hbel.setCell nl _⟩
   case measure=>simp[intOf];omega
  ·obtain rfl:k=m:=by omega
   have hcv:=hr.str (P:=prog) (src:=22) (dst:=9) k k nl (fun j _=>upK_lt n k k j) underlying22 underlying5 underlying9;rw[upK_all]at hcv;clear hr
   go_wp2_with fail
   go_ret;exact⟨rfl,hbel⟩
end Bi
end Go.Proofs.YtbdcffjcogglbaaGreatDoor
