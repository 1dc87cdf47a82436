/- Texts put together: BitWalks. -/
import Derived.Test.YtjfdllgodijibaaGreatDoorWz23
import Derived.Test.YtjfdllgodijibaaGreatDoorChecked
set_option maxRecDepth 100000
set_option maxHeartbeats 8000000
namespace Go.Proofs.YtjfdllgodijibaaGreatDoor.Bi
open Go.RowKit
open Sh
open Nu (ret_strJ)
theorem ret_boolB {a b:Bool} (h:a=b):Ending.returned (.bool a)=.returned (.bool b):=by rw[h]
theorem is_yes (n a b:Int) (w:World) (h1:a<=n) (h2:n<=b) :
  Calls Tryz.prog 21 #[.int .i64 n,.int .i64 a,.int .i64 b] w fun e w'=>e=.returned (.bool true)/\w'=w:=by
 go_enter Tryz.func21,Tryz.ntmps21
 go_wp2_with fail
 go_ret
 exact⟨rfl,rfl⟩
theorem is_no (n a b:Int) (w:World) (h:n<a∨b<n) :
  Calls Tryz.prog 21 #[.int .i64 n,.int .i64 a,.int .i64 b] w fun e w'=>e=.returned (.bool false)/\w'=w:=by
 by_cases h1:a<=n
 ·have h2:¬n<=b:=by omega
  clear h
  go_enter Tryz.func21,Tryz.ntmps21
  go_wp2_with fail
  go_ret
  exact⟨rfl,rfl⟩
 ·clear h
  go_enter Tryz.func21,Tryz.ntmps21
  go_wp2_with fail
  go_ret
  exact⟨rfl,rfl⟩
theorem bits_spec (n m:Nat) (w:World) (hn:n<=1048576) (h1:1<=m) (h2:m<=20) :
  Calls Tryz.prog 102 #[.int .i64 n,.int .i64 m] w fun e w'=>e=.returned (.string (bitsV n m))/\Below w.heap.size w w':=by
 obtain⟨i0,hi,hz0,hz1,hz2⟩:=info_parts Nu.Tryz.infoJ5
 go_enter Tryz.func102,Tryz.ntmps102
 go_wp2_with (at_make;refine wpList_make_full _ rfl (.tmp 7) (.tmp 7) 22 rfl w.heap.size 5 i0 (.int .u8 0) 1 Tryz.underlying22 hi hz0 hz1 .i64 .i64 _ _ m rfl rfl (by simp) (by simp) (by rw[hz2];omega) (by unfold maxLen;omega) (Nat.le_refl _) ?_;intro w1 hown1 hgrow1;have HR:=hideB (made_row hown1);have HB:=hideB ((Below.refl w.heap.size w).grown hgrow1 (Nat.le_refl _) (by simp));clear hown1 hgrow1)
 go_loopw [6,0] (fun i v wr=>∃ k q:Nat,i=.int .i64 ((m:Int)-1-k)/\v=.int .i64 q/\k<=m/\q=n/2 ^ k/\IsB wr w.heap.size 5 .u8 m (fun j=>(dnK n m k j:Nat))/\Below w.heap.size w wr) (fun i _ _=>((intOf i)+1).toNat)
 case atStart =>
  exact⟨0,n,by go_num,rfl,by omega,by simp,IsB.congr HR.out (fun j hj=>by rw[dnK_zero n m j hj];rfl),HB.out⟩
 case round =>
  obtain⟨k,q,rfl,rfl,hk,hq,hr,hbel⟩:=hrel
  have hqn:q<=1048576:=by have:=Nat.div_le_self n (2 ^ k);omega
  have HQ:=hideB hq
  have HR2:=hideB hr
  clear hq
  by_cases hlt:k<m
  ·obtain⟨p,hp⟩:∃ p:Nat,p=m-1-k:=⟨_,rfl⟩
   have hpi:(m:Int)-1-k=p:=by omega
   have ce:=hr.cell (j:=p) (by omega)
   have cf:=hr.frozen p
   have HV:Hid (((48+(q:Int)%2)%256)=((bitB n k:Nat):Int)):=by
    unfold Hid bitB
    rw[HQ.out]
    omega
   have HN:Hid (q/2=n/2 ^ (k+1)):=by
    unfold Hid
    rw[HQ.out,half_pow]
   have HP:=hideB hp
   rw[hpi]
   clear hr hp
   go_wp2_with fail
   go_roundw
   case rel =>
    refine⟨k+1,q/2,by go_num,by go_num,by omega,HN.out,?_,hbel.setCell (Nat.le_refl _) _⟩
    refine IsB.congr (HR2.out.set p _) (fun j hj=>?_)
    rw[HP.out]
    exact dnK_next n m k j _ hlt hj (by first|exact HV.out|(rw[<-HV.out];omega))
   case measure=>simp[intOf]
  ·obtain rfl:k=m:=by omega
   have hcv:=hr.str (P:=Tryz.prog) (src:=22) (dst:=9) k k (Nat.le_refl _) (fun j _=>dnK_lt n k k j) Tryz.underlying22 Tryz.underlying5 Tryz.underlying9
   rw[dnK_all]at hcv
   clear hr
   go_wp2_with fail
   go_ret
   exact⟨rfl,hbel⟩
end Go.Proofs.YtjfdllgodijibaaGreatDoor.Bi

