import Derived.Test.YtaejgfdkfcmjeaaGreatDoorMz41
import Derived.Test.YtaejgfdkfcmjeaaGreatDoorMz48
import Derived.Test.YtaejgfdkfcmjeaaGreatDoorMz50
import Derived.Test.YtaejgfdkfcmjeaaGreatDoorMz47
import Derived.Test.YtaejgfdkfcmjeaaGreatDoorCards
import Derived.Test.YtaejgfdkfcmjeaaGreatDoorTie
import Derived.ChangeVars
import Derived.JoinedOf
import Derived.RowKit
import Derived.SliceStrings
import Derived.Stop.Joined
import Derived.SevenTiedAt
set_option maxRecDepth 100000
set_option maxHeartbeats 8000000
namespace Go.Proofs.YtaejgfdkfcmjeaaGreatDoor
open Go.RowKit
namespace Tr
open St
open Sh (Vars nodeV)
theorem take_last (p:List ByteArray) (m:Nat) (h:1<=m) (hm:m<=p.length):p.take m=p.take (m-1)++[p[m-1]]:=by
 have:=List.take_append_getElem (l:=p) (i:=m-1) (by omega)
 rw[this,show m-1+1=m by omega]
theorem climbFrom_any (n0 i0:Nat) (p:List ByteArray) (a:Option Addr) (cap B:Nat) (w:World) (hin:i0<n0) (hn:n0<9223372036854775808) (hp:p.length<=1048576) (hcap:p.length<=cap) (hw:∀ j (h:j<p.length),p[j].size=32) (hs:Strs w B a p) (hB:B<=w.heap.size) :
  Calls Tryz.prog 80 #[.int .i64 i0,.int .i64 n0,.slice a p.length cap] w fun e w'=>Below w.heap.size w w'/\((∃ f φ,e=.returned (.tuple #[f,.bool true])/\Climbs w' f φ/\∀ h,incl n0 i0 p h=some (φ h))∨(∃ f,e=.returned (.tuple #[f,.bool false])/\∀ h,incl n0 i0 p h=none)):=by
 have HS:=hideT hs;have HW:=hideT hw;clear hs hw;obtain⟨m0,hm0⟩:∃ m0,m0=p.length:=⟨_,rfl⟩;have HM:=hideT hm0;rw[<-hm0]at hp hcap ⊢;clear hm0;go_enter Tryz.func80,Tryz.ntmps80
 go_wp2_with fail
 go_loopw [0,1,2,8] (fun iv nv pv uv wr=>∃ (i n m c:Nat) (φ:ByteArray->ByteArray),iv=.int .i64 i/\nv=.int .i64 n/\pv=.slice a m c/\i<n/\n<=n0/\m<=m0/\m<=c/\Climbs wr uv φ/\(∀ h,incl n0 i0 p h=(incl n i (p.take m) h).map φ)/\Below w.heap.size w wr) (fun _ nv _ _ _=>(intOf nv).toNat)
 case atStart =>
  refine⟨i0,n0,m0,cap,fun x=>x,rfl,rfl,rfl,hin,nl,nl,hcap,stay_any w,fun h=>?_,Below.refl _ _⟩;rw[HM.o,List.take_length,Option.map_id']
 case round =>
  obtain⟨i,n,m,c,φ,rfl,rfl,rfl,hi,hn0,hm,hmc,hcl,hinc,hbel⟩:=hrel;have HB:=hideT hbel;have HCL:=hideT hcl;have HI:=hideT hinc;clear hbel hcl hinc;by_cases h1:n<=1
  ·obtain rfl:n=1:=by omega
   obtain rfl:i=0:=by omega
   by_cases hm0:m=0
   ·subst hm0
    have HE:Hid (∀ h,incl n0 i0 p h=some (φ h)):=fun h=>by
     rw[HI.o h,incl_one];rfl
    (go_wp2_with fail);go_ret2;exact⟨HB.o,.inl ⟨_,φ,rfl,HCL.o,HE.o⟩⟩
   ·have HE:Hid (∀ h,incl n0 i0 p h=none):=fun h=>by
     rw[HI.o h,incl_one,if_neg (by
      intro he;have h2:=congrArg List.length he;rw[List.length_take,List.length_nil]at h2;have h3:=HM.o
      omega)]
     rfl
    have g0:((m:Int)==0)=false:=by simp;omega
    (go_wp2_with fail);go_ret2;exact⟨HB.o,.inr ⟨_,rfl,HE.o⟩⟩
  ·have g1:1<(n:Int):=by omega
   by_cases hm0:m=0
   ·subst hm0
    have HE:Hid (∀ h,incl n0 i0 p h=none):=fun h=>by
     rw[HI.o h,List.take_zero,incl_none n i h (by omega)];rfl
    (go_wp2_with fail);go_ret2;exact⟨HB.o,.inr ⟨_,rfl,HE.o⟩⟩
   ·have g0:¬(m:Int)=0:=by omega
    have hml:m-1<p.length:=by have:=HM.o;omega
    obtain⟨b,off,rfl,hb,hc⟩:=(HS.o.after HB.o hB).some (by omega);have ci:=hc (m-1) hml;have HSZ:=hideT (HW.o (m-1) hml);have HTL:=hideT (take_last p m (by omega) (by have:=HM.o;omega));have HIL:=hideT (fun (s h:ByteArray) (hik:i<half n)=>incl_left n i (p.take (m-1)) s h (by omega) hik);have HIR:=hideT (fun (s h:ByteArray) (hik:¬i<half n)=>incl_right n i (p.take (m-1)) s h (by omega) hik hi);obtain⟨s,hse⟩:∃ s,s=p[m-1]:=⟨_,rfl⟩;rw[<-hse]at ci HSZ HTL;clear hc hse;have hp2:=half_pos n;have hl2:=half_lt n (by omega);(go_wp2_with fail);refine(cutLast_any b off m c s wr (by omega) (by omega) hmc ci).mono ?_;rintro e w1 ⟨rfl,hb1⟩;have HB1:=hideT (HB.o.trans (hb1.mono HB.o.size));have HCL1:=hideT (HCL.o.later hb1);clear hb1 ci;(go_wp2_with fail);refine(half_impl n w1 (by omega) (by omega)).mono ?_;rintro e w2 ⟨rfl,hw2⟩;subst w2;obtain⟨k,hk⟩:∃ k,k=half n:=⟨_,rfl⟩;rw[<-hk]at hp2 hl2 HIL HIR ⊢;clear hk;by_cases hik:i<k
    ·go_wp2_with fail
     refine(joinRight_any s _ φ w1 HSZ.o HCL1.o).mono ?_;rintro e w3 ⟨g,rfl,hg3,hb3⟩;have HB3:=hideT (HB1.o.trans (hb3.mono HB1.o.size));have HG:=hideT hg3;clear hb3 hg3;(go_wp2_with fail)
     go_roundw
     case rel =>
      refine⟨i,k,m-1,m-1,_,rfl,rfl,rfl,hik,by omega,by omega,nl,HG.o,fun h=>?_,HB3.o⟩;rw[HI.o h,HTL.o,HIL.o s h hik,Option.map_map];rfl
     case measure=>simp[intOf];omega
    ·go_wp2_with fail
     refine(joinLeft_any s _ φ w1 HSZ.o HCL1.o).mono ?_;rintro e w3 ⟨g,rfl,hg3,hb3⟩;have HB3:=hideT (HB1.o.trans (hb3.mono HB1.o.size));have HG:=hideT hg3;clear hb3 hg3;(go_wp2_with fail)
     go_roundw
     case rel =>
      refine⟨i-k,n-k,m-1,m-1,_,by go_num,by go_num,rfl,by omega,by omega,by omega,nl,HG.o,fun h=>?_,HB3.o⟩;rw[HI.o h,HTL.o,HIR.o s h hik,Option.map_map];rfl
     case measure=>simp[intOf];omega
theorem str_eq (a b:ByteArray):(a.toList==b.toList)=decide (a=b):=by
 rw[ByteArray.toList_eq,ByteArray.toList_eq];by_cases h:a=b
 ·subst h
  simp
 ·rw[decide_eq_false h]
  have:¬a.data.toList=b.data.toList:=fun e=>h (by
   cases a
   cases b
   simp at e
   rw[e])
  simpa using this
def inclB (leaf:ByteArray) (i n:Int) (p:List ByteArray) (root:ByteArray):Bool :=
 decide (leaf.size=32) && decide (root.size=32) && (decide (p.length<=63) && wide p) && decide (0<=i) && decide (i<n) && decide (incl n.toNat i.toNat p leaf=some root)
theorem inclB_leaf (leaf:ByteArray) (i n:Int) (p:List ByteArray) (root:ByteArray) (h:¬leaf.size=32):inclB leaf i n p root=false:=by simp[inclB,h]
theorem inclB_root (leaf:ByteArray) (i n:Int) (p:List ByteArray) (root:ByteArray) (h:¬root.size=32):inclB leaf i n p root=false:=by simp[inclB,h]
theorem inclB_path (leaf:ByteArray) (i n:Int) (p:List ByteArray) (root:ByteArray) (h:(decide (p.length<=63) && wide p)=false):inclB leaf i n p root=false:=by simp only[inclB,h];simp
theorem inclB_low (leaf:ByteArray) (i n:Int) (p:List ByteArray) (root:ByteArray) (h:i<0):inclB leaf i n p root=false:=by simp[inclB,show ¬0<=i by omega]
theorem inclB_high (leaf:ByteArray) (i n:Int) (p:List ByteArray) (root:ByteArray) (h:¬i<n):inclB leaf i n p root=false:=by simp[inclB,h]
theorem inclB_in (leaf:ByteArray) (i n:Nat) (p:List ByteArray) (root:ByteArray) (h1:leaf.size=32) (h2:root.size=32) (h3:(decide (p.length<=63) && wide p)=true) (h:i<n):inclB leaf i n p root=decide (incl n i p leaf=some root):=by
 simp only[inclB,h1,h2,h3];simp[h]
theorem incl_impl (leaf root:ByteArray) (i n:Int) (p:List ByteArray) (a:Option Addr) (cap B:Nat) (w:World) (hn:n<9223372036854775808) (hp:p.length<=1048576) (hcap:p.length<=cap) (hs:Strs w B a p) (hB:B<=w.heap.size) (hV:Vars w) :
  Calls Tryz.prog 50 #[.string leaf,.int .i64 i,.int .i64 n,.slice a p.length cap,.string root] w fun e w'=>e=.returned (.bool (inclB leaf i n p root))/\Below w.heap.size w w':=by
 have HD:=hideT (digs_impl a cap p 63 w B hs hp);have HCF:=hideT (fun (n' i':Nat) h1 h2 h3=>climbFrom_any n' i' p a cap B w h1 h2 hp hcap h3 hs hB);have HV:=hideT hV;have hv2:=hV.two;have HPath:=hideT (inclB_path leaf i n p root);have HIn:=hideT (inclB_in leaf);have HWide:=hideT ((wide_yes p).1);clear hs hV;by_cases h1:leaf.size=32
 ·by_cases h2:root.size=32
  ·cases h3:(decide (p.length<=63) && wide p) with
   |false =>
    have HF:=hideT (HPath.o h3);rw[h3]at HD;clear h3;clear HCF;generalize p.length=m at hp hcap HD ⊢;go_enter Tryz.func50,Tryz.ntmps50;(go_wp2_with fail);refine HD.o.mono ?_;rintro e w1 ⟨rfl,hw⟩;subst w1;(go_wp2_with fail);go_ret;exact⟨ret_bool HF.o.symm,Below.refl _ _⟩
   |true =>
    have HT:=hideT h3
    have HW2:Hid (wide p=true):=by
     unfold Hid;rw[Bool.and_eq_true]at h3;exact h3.2
    rw[h3]at HD;clear h3;by_cases hi0:i<0
    ·have HF:=hideT (inclB_low leaf i n p root hi0)
     clear HCF;generalize p.length=m at hp hcap HD ⊢;go_enter Tryz.func50,Tryz.ntmps50;(go_wp2_with fail);refine HD.o.mono ?_;rintro e w1 ⟨rfl,hw⟩;subst w1;(go_wp2_with fail);go_ret;exact⟨ret_bool HF.o.symm,Below.refl _ _⟩
    ·by_cases hin:i<n
     ·obtain⟨i',rfl⟩:∃ k:Nat,i=k:=⟨i.toNat,by omega⟩
      obtain⟨n',rfl⟩:∃ k:Nat,n=k:=⟨n.toNat,by omega⟩;have HF:=hideT (HIn.o i' n' p root h1 h2 HT.o (by omega));have HC:=hideT (HCF.o n' i' (by omega) (by omega) (HWide.o HW2.o));generalize p.length=m at hp hcap HD HC ⊢;have g1:¬(n':Int)<=i':=(by omega);clear HCF hi0 hin hn;go_enter Tryz.func50,Tryz.ntmps50;(go_wp2_with fail);refine HD.o.mono ?_;rintro e w1 ⟨rfl,hw⟩;subst w1;(go_wp2_with fail);refine HC.o.mono ?_;rintro e w2 ⟨hb2,⟨f,φ,rfl,hcl,hall⟩|⟨f,rfl,hnone⟩⟩
      ·obtain⟨k,caps,rfl,he,hcall⟩:=hcl
       have HB2:=hideT hb2;have HE:=hideT (hall leaf);have HCall:=hideT (hcall leaf w2 h1 (Below.refl _ _) (HV.o.below hb2 hv2));clear hcall hall hb2;(go_wp2_with fail);refine HCall.o.mono ?_;rintro e w3 ⟨rfl,hb3⟩;have HB3:=hideT (below2 HB2.o hb3);clear hb3
       have HQ:Hid (inclB leaf i' n' p root=decide (φ leaf=root)):=by
        unfold Hid;rw[HF.o,HE.o];simp
       (go_wp2_with fail);go_ret;exact⟨ret_bool (by rw[HQ.o];exact str_eq _ _),HB3.o⟩
      ·have HQ:Hid (inclB leaf i' n' p root=false):=by
        unfold Hid;rw[HF.o,hnone leaf];simp
       clear hnone;(go_wp2_with fail);go_ret;exact⟨ret_bool HQ.o.symm,hb2⟩
     ·have HF:=hideT (inclB_high leaf i n p root hin)
      have hin':n<=i:=by omega
      clear HCF;generalize p.length=m at hp hcap HD ⊢;go_enter Tryz.func50,Tryz.ntmps50;(go_wp2_with fail);refine HD.o.mono ?_;rintro e w1 ⟨rfl,hw⟩;subst w1;(go_wp2_with fail);go_ret;exact⟨ret_bool HF.o.symm,Below.refl _ _⟩
  ·have HF:=hideT (inclB_root leaf i n p root h2)
   clear HCF;generalize p.length=m at hp hcap HD ⊢;go_enter Tryz.func50,Tryz.ntmps50
   go_wp2_with fail
   go_ret;exact⟨ret_bool HF.o.symm,Below.refl _ _⟩
 ·have HF:=hideT (inclB_leaf leaf i n p root h1)
  clear HCF;generalize p.length=m at hp hcap HD ⊢;go_enter Tryz.func50,Tryz.ntmps50
  go_wp2_with fail
  go_ret;exact⟨ret_bool HF.o.symm,Below.refl _ _⟩
end Tr
namespace Tr
open St
open Sh (nodeV nodeV_size l03Node_any)
theorem od_pos (a:Nat) (h:0<a):od a%2=1/\0<od a/\od a<=a:=by
 induction a using Nat.strongRecOn with
 |ind a ih =>
  by_cases he:a%2=0
  ·rw[od_even a he h]
   have:=ih (a/2) (by omega) (by omega)
   omega
  ·rw[od_odd a (by omega)]
   omega
/-- the loop,its conditions met -/
theorem incl_at (leaf root:ByteArray) (i0 n0:Nat) (p:List ByteArray) (b off cap B:Nat) (w:World) (hn:n0<9223372036854775808) (hin:i0<n0) (hp:p.length<=63) (hl:leaf.size=32) (hr:root.size=32) (hw:wide p=true) (hb:b<B) (hc0:∀ j (h:j<p.length),w.cell? ⟨b,off+j,none⟩=some (.string p[j])) (hB:B<=w.heap.size) :
  Calls Tryz.prog 82 #[.string leaf,.int .i64 i0,.int .i64 n0,.slice (some ⟨b,off,none⟩) p.length cap,.string root] w fun e w'=>e=.returned (.bool (decide (incl n0 i0 p leaf=some root)))/\Below w.heap.size w w':=by
 have hs:Strs w B (some ⟨b,off,none⟩) p:=.inr ⟨b,off,rfl,hb,hc0⟩;have HWd:=hideT (wide_spec _ cap p w B hs (by omega));rw[hw]at HWd;have HC:=hideT hc0;have HW:=hideT ((wide_yes p).1 hw);clear hs hw hc0;obtain⟨m,hm⟩:∃ m,m=p.length:=⟨_,rfl⟩;have HM:=hideT hm;rw[<-hm]at hp HWd ⊢;clear hm
 have g1:¬(n0:Int)<=i0:=by omega
 have g2:¬n0<=i0:=by omega
 have b1:decide ((63:Int)<(m:Int))=false:=by simp;omega
 have b2:decide ((i0:Int)<0)=false:=by simp
 have b3:decide (n0<=i0)=false:=by simp;omega
 have hn':n0<9223372036854775808:=hn;go_enter Tryz.func82,Tryz.ntmps82
 go_wp2_with fail
 refine HWd.o.mono ?_;rintro e w1 ⟨rfl,hw1⟩;subst w1
 go_wp2_with fail
 go_loopw [14,11,12,13] (fun kv av lv hv wr=>∃ (k x y:Nat) (h:ByteArray),kv=.int .i64 k/\av=.int .i64 x/\lv=.int .i64 y/\hv=.string h/\k<=m/\x<=y/\y<n0/\h.size=32/\incl n0 i0 p leaf=climbS x y (p.drop k) h/\Below w.heap.size w wr) (fun kv _ _ _ _=>m-(intOf kv).toNat)
 case atStart =>
  exact⟨0,i0,n0-1,leaf,rfl,rfl,by go_num,rfl,by omega,by omega,by omega,hl,rfl,Below.refl _ _⟩
 case round =>
  obtain⟨k,x,y,h,rfl,rfl,rfl,rfl,hk,hxy,hy,hh,hinc,hbel⟩:=hrel;have HB:=hideT hbel;have HI:=hideT hinc;clear hbel hinc;by_cases hlt:k<m
  ·have hkl:k<p.length:=by rw[<-HM.o];exact hlt
   have ci:=(HB.o.cell (p:=⟨b,off+k,none⟩) (by simp;omega)).trans (HC.o k hkl);have HSZ:=hideT (HW.o k hkl);have HD:=hideT (List.drop_eq_getElem_cons hkl);obtain⟨s,hse⟩:∃ s,s=p[k]:=⟨_,rfl⟩;rw[<-hse]at ci HSZ HD;clear hse;have hs32:=HSZ.o;by_cases hy0:y=0
   ·subst hy0
    have HE:Hid (decide (incl n0 i0 p leaf=some root)=false):=by
     unfold Hid;rw[HI.o,HD.o,climbS_zero _ _ _ (by simp)];rfl
    (go_wp2_with fail);go_ret;exact⟨ret_bool HE.o.symm,HB.o⟩
   ·have gy:¬(y:Int)=0:=by omega
    by_cases hodd:x%2=1
    ·have go1:(x:Int)%2=1:=by omega
     have HE:=hideT (climbS_odd x y s (p.drop (k+1)) h hy0 hodd);(go_wp2_with fail);refine(l03Node_any s h wr (by omega) (by omega)).mono ?_;rintro e w2 ⟨rfl,hb2⟩;have HB2:=hideT (HB.o.trans (hb2.mono HB.o.size));clear hb2 ci;(go_wp2_with fail)
     go_loopw [11,12] (fun av lv wi=>av=.int .i64 x/\lv=.int .i64 y/\wi=w2) (fun _ _ _=>0)
     case atStart=>exact⟨rfl,rfl,rfl⟩
     case round =>
      obtain⟨rfl,rfl,hwi⟩:=hrel;subst hwi;(go_wp2_with fail)
      go_roundw
      case rel =>
       refine⟨k+1,x/2,y/2,nodeV s h,by go_num,by go_num,by go_num,rfl,by omega,by omega,by omega,nodeV_size _ _,?_,HB2.o⟩;rw[HI.o,HD.o,HE.o]
      case measure=>simp[intOf];omega
    ·have go1:(x:Int)%2=0:=by omega
     by_cases hxy2:x=y
     ·have gxy:(x:Int)=y:=by omega
      have HE:Hid (climbS x y (s :: p.drop (k+1)) h=climbS (od x/2) (od x/2) (p.drop (k+1)) (nodeV s h)):=by
       unfold Hid;rw[<-hxy2];exact climbS_end x s (p.drop (k+1)) h (by omega) (by omega)
      have HXY:=hideT hxy2;have HO:=hideT (od_pos x (by omega));(go_wp2_with fail);refine(l03Node_any s h wr (by omega) (by omega)).mono ?_;rintro e w2 ⟨rfl,hb2⟩;have HB2:=hideT (HB.o.trans (hb2.mono HB.o.size));clear hb2 ci;(go_wp2_with fail)
      go_loopw [11,12] (fun av lv wi=>∃ z:Nat,av=.int .i64 z/\lv=.int .i64 z/\0<z/\z<=x/\od z=od x/\wi=w2) (fun av _ _=>(intOf av).toNat)
      case atStart=>exact⟨x,by rw[HXY.o],by rw[HXY.o],by omega,nl,rfl,rfl⟩
      case round =>
       obtain⟨z,rfl,rfl,hz0,hzx,hod,hwi⟩:=hrel;subst hwi;have HOD:=hideT hod;clear hod;have gz:0<(z:Int):=(by omega);by_cases hze:z%2=0
       ·have gz2:(z:Int)%2=0:=by omega
        (go_wp2_with fail)
        go_roundw
        case rel=>exact⟨z/2,by go_num,by go_num,by omega,by omega,by rw[<-od_even z hze hz0];exact HOD.o,trivial⟩
        case measure=>simp[intOf];omega
       ·have gz2:(z:Int)%2=1:=by omega
        have HZ:Hid (od x=z):=by
         unfold Hid;rw[<-HOD.o];exact od_odd z (by omega)
        (go_wp2_with fail)
        go_roundw
        case rel =>
         refine⟨k+1,z/2,z/2,nodeV s h,by go_num,by go_num,by go_num,rfl,by omega,by omega,by omega,nodeV_size _ _,?_,HB2.o⟩;rw[HI.o,HD.o,HE.o,HZ.o]
        case measure=>simp[intOf];omega
     ·have gxy:¬(x:Int)=y:=by omega
      have HE:=hideT (climbS_even x y s (p.drop (k+1)) h hy0 (by omega) hxy2);(go_wp2_with fail);refine(l03Node_any h s wr (by omega) (by omega)).mono ?_;rintro e w2 ⟨rfl,hb2⟩;have HB2:=hideT (HB.o.trans (hb2.mono HB.o.size));clear hb2 ci;(go_wp2_with fail)
      go_roundw
      case rel =>
       refine⟨k+1,x/2,y/2,nodeV h s,by go_num,by go_num,by go_num,rfl,by omega,by omega,by omega,nodeV_size _ _,?_,HB2.o⟩;rw[HI.o,HD.o,HE.o]
      case measure=>simp[intOf];omega
  ·have HD:Hid (p.drop k=[]):=by
    unfold Hid;exact List.drop_eq_nil_of_le (by have:=HM.o;omega)
   by_cases hy0:y=0
   ·subst hy0
    have HE:Hid (decide (incl n0 i0 p leaf=some root)=decide (h=root)):=by
     unfold Hid;rw[HI.o,HD.o,climbS_nil,if_pos rfl];simp
    (go_wp2_with fail);go_ret;exact⟨ret_bool (by rw[HE.o];exact str_eq _ _),HB.o⟩
   ·have gy:((y:Int)==0)=false:=by simp;omega
    have HE:Hid (decide (incl n0 i0 p leaf=some root)=false):=by
     unfold Hid;rw[HI.o,HD.o,climbS_nil,if_neg hy0];rfl
    (go_wp2_with fail);go_ret;exact⟨ret_bool HE.o.symm,HB.o⟩
theorem incl_empty (leaf root:ByteArray) (i0 n0:Nat) (a:Option Addr) (cap:Nat) (w:World) (hn:n0<9223372036854775808) (hin:i0<n0) (hl:leaf.size=32) (hr:root.size=32) :
  Calls Tryz.prog 82 #[.string leaf,.int .i64 i0,.int .i64 n0,.slice a 0 cap,.string root] w fun e w'=>e=.returned (.bool (decide (incl n0 i0 [] leaf=some root)))/\Below w.heap.size w w':=by
 have HWd:=hideT (wide_spec a cap [] w 0 (.inl rfl) (by simp))
 have g1:¬(n0:Int)<=i0:=by omega
 rw[show wide []=true from rfl]at HWd;go_enter Tryz.func82,Tryz.ntmps82
 go_wp2_with fail
 refine HWd.o.mono ?_;rintro e w1 ⟨rfl,hw1⟩;subst w1
 go_wp2_with fail
 go_loopw [14,11,12,13] (fun kv av lv hv wr=>kv=.int .i64 0/\av=.int .i64 i0/\lv=.int .i64 ((n0:Int)-1)/\hv=.string leaf/\wr=w) (fun _ _ _ _ _=>0)
 case atStart=>exact⟨rfl,rfl,rfl,rfl,rfl⟩
 case round =>
  obtain⟨rfl,rfl,rfl,rfl,hw⟩:=hrel;subst hw;by_cases h1:n0=1
  ·subst h1
   obtain rfl:i0=0:=by omega
   have HE:Hid (decide (incl 1 0 [] leaf=some root)=decide (leaf=root)):=by
    unfold Hid;rw[incl_one,if_pos rfl];simp
   go_wp2_with fail
   go_ret;exact⟨ret_bool (by rw[HE.o];exact str_eq _ _),Below.refl _ _⟩
  ·have HE:Hid (decide (incl n0 i0 [] leaf=some root)=false):=by
    unfold Hid;rw[incl_none n0 i0 leaf (by omega)];rfl
   have gy:((n0:Int)-1==0)=false:=by simp;omega
   go_wp2_with fail
   go_ret;exact⟨ret_bool HE.o.symm,Below.refl _ _⟩
theorem incl_in (leaf root:ByteArray) (i0 n0:Nat) (p:List ByteArray) (a:Option Addr) (cap B:Nat) (w:World) (hn:n0<9223372036854775808) (hin:i0<n0) (hp:p.length<=63) (hl:leaf.size=32) (hr:root.size=32) (hw:wide p=true) (hs:Strs w B a p) (hB:B<=w.heap.size) :
  Calls Tryz.prog 82 #[.string leaf,.int .i64 i0,.int .i64 n0,.slice a p.length cap,.string root] w fun e w'=>e=.returned (.bool (decide (incl n0 i0 p leaf=some root)))/\Below w.heap.size w w':=by
 rcases hs with rfl|⟨b,off,rfl,hb,hc⟩
 ·exact incl_empty leaf root i0 n0 a cap w hn hin hl hr
 ·exact incl_at leaf root i0 n0 p b off cap B w hn hin hp hl hr hw hb hc hB
theorem incl_spec (leaf root:ByteArray) (i n:Int) (p:List ByteArray) (a:Option Addr) (cap B:Nat) (w:World) (hn:n<9223372036854775808) (hp:p.length<=1048576) (hs:Strs w B a p) (hB:B<=w.heap.size) :
  Calls Tryz.prog 82 #[.string leaf,.int .i64 i,.int .i64 n,.slice a p.length cap,.string root] w fun e w'=>e=.returned (.bool (inclB leaf i n p root))/\Below w.heap.size w w':=by
 have HD:=hideT (wide_spec a cap p w B hs hp);have HIN:=hideT (fun (i0 n0:Nat) h1 h2 h3 h4 h5 h6=>incl_in leaf root i0 n0 p a cap B w h1 h2 h3 h4 h5 h6 hs hB);have HPath:=hideT (inclB_path leaf i n p root);clear hs;by_cases h63:63<p.length
 ·have HF:=hideT (HPath.o (by rw[decide_eq_false (by omega)];rfl))
  generalize p.length=m at hp HD h63 ⊢;go_enter Tryz.func82,Tryz.ntmps82
  go_wp2_with fail
  go_ret;exact⟨ret_bool HF.o.symm,Below.refl _ _⟩
 ·cases h3:wide p with
  |false =>
   have HF:=hideT (HPath.o (by rw[h3,Bool.and_false]));rw[h3]at HD;clear h3;generalize p.length=m at hp HD h63 ⊢;go_enter Tryz.func82,Tryz.ntmps82
   go_wp2_with fail
   refine HD.o.mono ?_;rintro e w1 ⟨rfl,hw⟩;subst w1
   go_wp2_with fail
   go_ret;exact⟨ret_bool HF.o.symm,Below.refl _ _⟩
  |true =>
   have HT:Hid ((decide (p.length<=63) && wide p)=true):=by
    unfold Hid;rw[h3,decide_eq_true (by omega)];rfl
   by_cases hl:leaf.size=32
   ·by_cases hr:root.size=32
    ·by_cases hi0:i<0
     ·have HF:=hideT (inclB_low leaf i n p root hi0)
      rw[h3]at HD;clear h3 HIN;generalize p.length=m at hp HD h63 ⊢;go_enter Tryz.func82,Tryz.ntmps82;(go_wp2_with fail);refine HD.o.mono ?_;rintro e w1 ⟨rfl,hw⟩;subst w1;(go_wp2_with fail);go_ret;exact⟨ret_bool HF.o.symm,Below.refl _ _⟩
     ·by_cases hin:i<n
      ·obtain⟨i',rfl⟩:∃ k:Nat,i=k:=⟨i.toNat,by omega⟩
       obtain⟨n',rfl⟩:∃ k:Nat,n=k:=⟨n.toNat,by omega⟩;rw[inclB_in leaf i' n' p root hl hr HT.o (by omega)];exact HIN.o i' n' (by omega) (by omega) (by omega) hl hr h3
      ·have HF:=hideT (inclB_high leaf i n p root hin)
       have hin':n<=i:=by omega
       rw[h3]at HD;clear h3 HIN;generalize p.length=m at hp HD h63 ⊢;go_enter Tryz.func82,Tryz.ntmps82;(go_wp2_with fail);refine HD.o.mono ?_;rintro e w1 ⟨rfl,hw⟩;subst w1;(go_wp2_with fail);go_ret;exact⟨ret_bool HF.o.symm,Below.refl _ _⟩
    ·have HF:=hideT (inclB_root leaf i n p root hr)
     rw[h3]at HD;clear h3 HIN;generalize p.length=m at hp HD h63 ⊢;go_enter Tryz.func82,Tryz.ntmps82;(go_wp2_with fail);refine HD.o.mono ?_;rintro e w1 ⟨rfl,hw⟩;subst w1;(go_wp2_with fail);go_ret;exact⟨ret_bool HF.o.symm,Below.refl _ _⟩
   ·have HF:=hideT (inclB_leaf leaf i n p root hl)
    rw[h3]at HD;clear h3 HIN;generalize p.length=m at hp HD h63 ⊢;go_enter Tryz.func82,Tryz.ntmps82;(go_wp2_with fail);refine HD.o.mono ?_;rintro e w1 ⟨rfl,hw⟩;subst w1;(go_wp2_with fail);go_ret;exact⟨ret_bool HF.o.symm,Below.refl _ _⟩
end Tr
namespace Ls
open Bk (cnt count_any)
open Bi (is_yes is_no)
open Tr (inclB incl_impl incl_spec inclB_leaf)
open Sh (Vars leafR leafV leafR_no leafR_yes leaf_impl l03Leaf_any)
open St (Strs)
def fitsB (z b:Int) (r:ByteArray) (i:Int) (t:ByteArray) (p:List ByteArray):Bool:=inclB (leafR t) i ((countN z b r:Nat):Int) p r
theorem mixedF:Tryz.prog.follows .mixedOrders=true:=by kernel_rfl
theorem vars_keepF {w w':World} (h:Vars w) (hb:Below w.heap.size w w'):Vars w':=h.below hb h.two
theorem inclB_range {leaf:ByteArray} {i n:Int} {p:List ByteArray} {root:ByteArray} (h:¬(0<=i/\i<n)):inclB leaf i n p root=false:=by
 unfold inclB;rw[<-Bool.not_eq_true];simp only[Bool.and_eq_true,decide_eq_true_eq];exact fun q=>h ⟨q.1.1.2,q.1.2⟩
theorem inclB_long {leaf:ByteArray} {i n:Int} {p:List ByteArray} {root:ByteArray} (h:63<p.length):inclB leaf i n p root=false:=by
 unfold inclB;rw[<-Bool.not_eq_true];simp only[Bool.and_eq_true,decide_eq_true_eq]
 exact fun q=>by have:=q.1.1.1.2.1;omega
theorem fits_piece {z b:Int} {r:ByteArray} {i:Int} {t:ByteArray} {p:List ByteArray} (h:100<t.size):fitsB z b r i t p=false:=by
 unfold fitsB;rw[leafR_no t h];exact inclB_leaf _ _ _ _ _ (by decide)
theorem fits_path {z b:Int} {r:ByteArray} {i:Int} {t:ByteArray} {p:List ByteArray} (h:63<p.length):fitsB z b r i t p=false:=inclB_long h
theorem fits_right {z b:Int} {r:ByteArray} {i:Int} {t:ByteArray} {p:List ByteArray} (h:rightB z b r=false):fitsB z b r i t p=false:=by
 unfold fitsB;rw[countN_no h];exact inclB_range (by omega)
theorem fits_impl (z b:Int) (r:ByteArray) (i:Int) (t:ByteArray) (p:List ByteArray) (a:Option Addr) (cap m:Nat) (w:World) (ht:t.size<=maxLen) (hm:m=p.length) (hp:m<=1048576) (hcap:m<=cap) (hs:Strs w w.heap.size a p) (hV:Vars w) :
  Calls Tryz.prog 17 #[lV z b r,.int .i64 i,.string t,.slice a m cap] w fun e w'=>e=.returned (.bool (fitsB z b r i t p))/\Below w.heap.size w w':=by
 have HA:Hid (Below w.heap.size w (w.alloc (.cells #[.int .i64 z,.int .i64 b,.string r] 26))):=(Below.refl _ _).alloc nl _;have HX:Hid ((w.alloc (.cells #[.int .i64 z,.int .i64 b,.string r] 26)).heap[w.heap.size]? = some (.cells #[.int .i64 z,.int .i64 b,.string r] 26 (0,0))):=heap_alloc_new w _;have HC:=hideL (fun W=>count_impl z b r W);have HL:=hideL (fun W h=>leaf_impl t W ht h);have HCL:=countN_le z b r
 have HI:Hid (∀ W,Below w.heap.size w W->Calls Tryz.prog 50 #[.string (leafR t),.int .i64 i,.int .i64 (countN z b r:Nat),.slice a m cap,.string r] W fun e w'=>e=.returned (.bool (fitsB z b r i t p))/\Below W.heap.size W w'):=fun W h=>by
  have:=incl_impl (leafR t) r i (countN z b r:Nat) p a cap W.heap.size W (by omega) (by omega) (by omega) ((hs.below h).mono h.size) nl (vars_keepF hV h)
  rw[<-hm]at this;exact this
 have HV:Hid (∀ W,Below w.heap.size w W->Vars W):=fun W h=>vars_keepF hV h;have hmx:=mixedF;clear hs hV hm;unfold lV at HC ⊢;generalize fitsB z b r i t p=Q at HI ⊢;generalize leafR t=lf at HI HL;generalize countN z b r=cn at HI HC;go_enter Tryz.func17,Tryz.ntmps17
 go_wp2_with fail
 generalize hww:w.alloc (.cells #[.int .i64 z,.int .i64 b,.string r] 26)=wa at HA HX ⊢;clear hww;obtain⟨c0,c1,c2⟩:=cells3 HX.o;generalize w.heap.size=gx at c0 c1 c2 ⊢;have g0:=fun d os=>cell_regrown c0 d os;have g1:=fun d os=>cell_regrown c1 d os;have g2:=fun d os=>cell_regrown c2 d os;refine wp_region_quiet_below (by assumption) (by kernel_rfl) ?_
 repeat (quiet_step (first|(go_at_call 51;exact Calls.regrown_of (HL.o _ (HV.o _ (lowL HA.o (below_regrown _ _ _)))))|(go_at_call 21;exact Calls.regrown_of (HC.o _))|(go_at_call 50;exact Calls.regrown_of (HI.o _ (lowL HA.o (below_regrown _ _ _))))))
 refine wpQuiet_nil ?_;intro _ hw';obtain⟨⟨dq,osq⟩,hw''⟩:=hw';subst hw'';have KQ:=hideL (below_regrown wa dq osq);generalize Go.Sort.grow (redrawn wa dq) osq=w8 at KQ ⊢;clear g0 g1 g2 c0 c1 c2
 go_wp2_with fail
 go_ret;exact⟨rfl,lowL HA.o KQ.o⟩
end Ls
namespace Ls
open Gn (rd rt textV outT)
open Nm2 (num_back text_back putS_list putT_list)
open Nu (putS putT zz numB numB_length)
open Pk (cat packB piecesR)
open Bk (blks blks_length cnt cnt_lt cnt_le fineB blocksR)
open Up (ansU_pack cat_blocks ext_list2)
open Tr (tree treeR treeR_yes tree_size right right_yes path pathR path_one path_left path_right half half_pos half_lt inclB_in incl climb_same incl_path wide wide_yes)
open Sh (leafV leafV_size leafR leafR_yes)
theorem bytesA_list (z b:Int) (r:ByteArray):(bytesA z b r).data.toList=numB (zz z)++(numB (zz b)++(putT r).data.toList):=by
 unfold bytesA;rw[ByteArray.data_append,ByteArray.data_append,Array.toList_append,Array.toList_append,putS_list,putS_list,List.append_assoc]
theorem bytesA_small {z b:Int} {r:ByteArray} (h:r.size=32):(bytesA z b r).size<=62:=by
 have h1:=(numB_length (zz z)).1;have h2:=(numB_length (zz b)).1;have h3:=putT_size r h
 have e:(bytesA z b r).size=(bytesA z b r).data.toList.length:=by rw[Array.length_toList];rfl
 have e2:(putT r).size=(putT r).data.toList.length:=by rw[Array.length_toList];rfl
 rw[e,bytesA_list,List.length_append,List.length_append,<-e2];omega
theorem read_back {z b:Int} {r:ByteArray} (h:rightB z b r=true):readV (bytesL z b r)=oV z b r 0:=by
 obtain⟨h1,h2,h3,h4,h5,h6⟩:=rightB_yes h;have hs:=bytesA_small (z:=z) (b:=b) h5;have hl:=bytesA_list z b r;have e0:bytesL z b r=bytesA z b r:=bytesL_yes h
 have hz:rd (bytesA z b r) 0=(z,(putS z).size,0):=by
  have:=num_back (bytesA z b r) z [] (numB (zz b)++(putT r).data.toList) (by omega) (by omega) (by omega) (by rw[hl];rfl)
  simpa using this
 have hzl:(putS z).size=(numB (zz z)).length:=Nm2.putS_len z;have hbl:(putS b).size=(numB (zz b)).length:=Nm2.putS_len b
 have hb:rd (bytesA z b r) ((putS z).size:Nat)=(b,(putS z).size+(putS b).size,0):=by
  have:=num_back (bytesA z b r) b (numB (zz z)) ((putT r).data.toList) (by omega) (by omega) (by omega) (by rw[hl])
  rw[<-hzl]at this;exact this
 have ht:textV (bytesA z b r) (((putS z).size+(putS b).size:Nat):Int)=outT r (((putS z).size+(putS b).size+(putT r).size:Nat):Int) 0:=by
  have:=text_back (bytesA z b r) r (numB (zz z)++numB (zz b)) (by omega) (by omega) (by rw[hl,List.append_assoc])
  rw[List.length_append,<-hzl,<-hbl]at this;exact this
 have hr:(rt (bytesA z b r) (((putS z).size+(putS b).size:Nat):Int)).1=r:=by
  unfold textV outT at ht;simp at ht;exact ht.1
 have q1:zR (bytesA z b r)=z:=by unfold zR;rw[hz]
 have q2:bR (bytesA z b r)=b:=by unfold bR;rw[hz];show (rd (bytesA z b r) ((putS z).size:Nat)).1=b;rw[hb]
 have q3:rR (bytesA z b r)=r:=by
  unfold rR;rw[hz]
  show (rt (bytesA z b r) ((rd (bytesA z b r) ((putS z).size:Nat)).2.1:Nat)).1=r
  rw[hb];exact hr
 have hp:=Nm2.putS_pos z
 have ok:okR (bytesA z b r):=by
  refine⟨?_,?_⟩
  ·unfold bytesA
   rw[ByteArray.size_append,ByteArray.size_append];omega
  ·rw[q1,q2,q3,e0]
 rw[e0,readV_yes (by omega) ok,q1,q2,q3]
theorem bytes_read {u:ByteArray} {z b:Int} {r:ByteArray} (h:readV u=oV z b r 0):bytesL z b r=u:=by
 unfold readV oV at h
 split at h
 ·simp at h
 ·split at h
  ·rename_i hk
   simp at h;rw[<-h.1,<-h.2.1,<-h.2.2];exact hk.2
  ·simp at h
theorem path_few:∀ (m:Nat) (l:List ByteArray) (i:Nat),l.length<=m->1<=l.length->(path l i).length+1<=l.length
 |0,l,i,h,h0=>by omega
 |m+1,l,i,h,h0=>by
  by_cases h1:l.length<=1
  ·rw[path_one l i h1]
   simp;omega
  ·have h2:=half_lt l.length (by omega)
   have h3:=half_pos l.length;by_cases hi:i<half l.length
   ·rw[path_left l i (by omega) hi]
    have:=path_few m (l.take (half l.length)) i (by simp;omega) (by simp;omega)
    simp at this ⊢;omega
   ·rw[path_right l i (by omega) hi]
    have:=path_few m (l.drop (half l.length)) (i-half l.length) (by simp;omega) (by simp;omega)
    simp at this ⊢;omega
theorem path_wide:∀ (m:Nat) (l:List ByteArray) (i:Nat),l.length<=m->∀ x∈path l i,x.size=32
 |0,l,i,h,x,hx=>by
  rw[path_one l i (by omega)]at hx
  cases hx
 |m+1,l,i,h,x,hx=>by
  by_cases h1:l.length<=1
  ·rw[path_one l i h1]at hx
   cases hx
  ·have h2:=half_lt l.length (by omega)
   have h3:=half_pos l.length;by_cases hi:i<half l.length
   ·rw[path_left l i (by omega) hi]at hx
    rcases List.mem_append.1 hx with hx|hx
    ·exact path_wide m (l.take (half l.length)) i (by simp;omega) x hx
    ·rw[List.mem_singleton.1 hx]
     exact tree_size _
   ·rw[path_right l i (by omega) hi]at hx
    rcases List.mem_append.1 hx with hx|hx
    ·exact path_wide m (l.drop (half l.length)) (i-half l.length) (by simp;omega) x hx
    ·rw[List.mem_singleton.1 hx]
     exact tree_size _
theorem path_toldL (l:List ByteArray) (i:Nat) (h:right l=true) (hi:i<l.length):Tr.inclB (leafR l[i]) i l.length (pathR l i) (treeR l)=true:=by
 have hp:pathR l i=path l i:=by
  unfold pathR;rw[if_pos ⟨h,by omega,by omega⟩];rfl
 have hsz:=((right_yes l).1 h).2 i hi;have h64:=((right_yes l).1 h).1;have hlen:=path_few _ l i nl (by omega)
 have hw:(decide ((path l i).length<=63) && wide (path l i))=true:=by
  rw[decide_eq_true (by omega),Bool.true_and];exact(wide_yes _).2 fun j hj=>path_wide _ l i nl _ (List.getElem_mem hj)
 rw[leafR_yes _ (by omega),hp,treeR_yes l h,inclB_in (leafV l[i]) i l.length (path l i) (tree l) (leafV_size _) (tree_size _) hw hi];unfold incl;rw[<-climb_same l.length l.length i (path l i) (leafV l[i]) nl hi,incl_path l.length l i l.length l[i] rfl (List.getElem?_eq_getElem hi) nl];simp
theorem count_pieces {s:ByteArray} {size:Int} (h:fineB s.size size=true):countN s.size size (rootV s size)=(piecesR s size).length:=by
 unfold countN piecesR;rw[right_of_fine,if_pos h,List.length_map];unfold blocksR;rw[if_pos h,blks_length,Int.toNat_natCast]
theorem piece_fits {s:ByteArray} {size:Int} (h:fineB s.size size=true) (i:Nat) (hi:i<(piecesR s size).length):fitsB s.size size (rootV s size) i (piecesR s size)[i] (pathR (piecesR s size) i)=true:=by
 unfold fitsB;rw[count_pieces h];exact path_toldL (piecesR s size) i (pieces_right s size) hi
theorem blks_get (s:ByteArray) (k:Nat):∀ (n j:Nat),j<n->(blks s k n)[j]? = some (s.extract (j*k) (min (j*k+k) s.size))
 |0,j,h=>by omega
 |n+1,j,h=>by
  rw[blks];by_cases hj:j<n
  ·rw[List.getElem?_append_left (by rw[blks_length];exact hj)]
   exact blks_get s k n j hj
  ·obtain rfl:j=n:=by omega
   rw[List.getElem?_append_right (by rw[blks_length];exact nl),blks_length,Nat.sub_self];rfl
theorem fileL_pack (w:World) (z b:Int):∀ (l:List ByteArray) (i:Nat),(∀ j t,l[j]? = some t->t.size<=48/\(t.size:Int)=mustN z b (i+j))->fileL z b i (l.map packB)=l
 |[],i,h=>by rw[List.map_nil,fileL]
 |t :: ts,i,h=>by
  have h0:=h 0 t rfl;rw[Nat.add_zero]at h0
  rw[List.map_cons,fileL_next (blkT_yes (ansU_pack w h0.1)) h0.2,fileL_pack w z b ts (i+1) fun j u hu=>by
   have:=h (j+1) u hu
   rw[show i+1+j=i+(j+1) by omega]
   exact this]
theorem block_must {s:ByteArray} {size:Int} (h:fineB s.size size=true) (j:Nat) (t:ByteArray) (hj:(blocksR s size)[j]? = some t):t.size<=48/\(t.size:Int)=mustN s.size size (0+j):=by
 have hf:=of_decide_eq_true h;obtain⟨k,rfl⟩:=Int.eq_ofNat_of_zero_le (show 0<=size by omega);unfold blocksR at hj;rw[if_pos h,Int.toNat_natCast]at hj
 have hlt:j<cnt s.size k:=by
  have:=(List.getElem?_eq_some_iff.1 hj).1
  rw[blks_length]at this;exact this
 rw[blks_get s k _ j hlt]at hj;obtain rfl:=Option.some.inj hj;have hjk:=(cnt_lt (by omega)).1 hlt
 have hsz:(s.extract (j*k) (min (j*k+k) s.size)).size=min (j*k+k) s.size-j*k:=by rw[ByteArray.size_extract];omega
 rw[hsz];unfold mustN;rw[Nat.zero_add]
 have hc:((j:Int)*(k:Int))=((j*k:Nat):Int):=by simp
 rw[hc];generalize j*k=m at *;omega
theorem file_part (w:World) {s:ByteArray} {size:Int} (h:fineB s.size size=true) (k:Nat):fileV s.size size (rootV s size) ((piecesR s size).take k)=⟨(cat ((blocksR s size).take k)).toArray⟩:=by
 have h64:=Pk.piecesR_length s size;unfold fileV;rw[if_neg (by rw[List.length_take];omega),count_pieces h,List.take_of_length_le (by rw[List.length_take];omega)]
 have e:(piecesR s size).take k=((blocksR s size).take k).map packB:=by
  unfold piecesR;rw[List.map_take]
 rw[e,fileL_pack w _ _ _ 0];intro j t hj;refine block_must h j t ?_;rw[List.getElem?_take]at hj
 split at hj
 ·exact hj
 ·cases hj
theorem file_all (w:World) {s:ByteArray} {size:Int} (h:fineB s.size size=true):fileV s.size size (rootV s size) (piecesR s size)=s:=by
 have:=file_part w h (piecesR s size).length
 rw[List.take_length]at this;rw[this];have e:(blocksR s size).take (piecesR s size).length=blocksR s size:=List.take_of_length_le (by unfold piecesR;rw[List.length_map];exact nl);rw[e,cat_blocks s size h]
theorem file_pre (w:World) {s:ByteArray} {size:Int} (h:fineB s.size size=true) (k:Nat):(fileV s.size size (rootV s size) ((piecesR s size).take k)).size<=s.size/\s.extract 0 (fileV s.size size (rootV s size) ((piecesR s size).take k)).size=fileV s.size size (rootV s size) ((piecesR s size).take k):=by
 rw[file_part w h k]
 have hc:s.data.toList=cat ((blocksR s size).take k)++cat ((blocksR s size).drop k):=by
  rw[<-cat_blocks s size h];unfold cat;rw[<-List.flatMap_append,List.take_append_drop]
 have hz:(⟨(cat ((blocksR s size).take k)).toArray⟩:ByteArray).size=(cat ((blocksR s size).take k)).length:=by
  show (cat ((blocksR s size).take k)).toArray.size=_
  simp
 have hs:s.size=s.data.toList.length:=by rw[Array.length_toList];rfl
 refine⟨?_,?_⟩
 ·rw[hz,hs,hc,List.length_append]
  omega
 ·refine bytes_extL ?_
  rw[ext_list2,hz,hc];simp
end Ls
namespace Ls
open Bk (cnt count_any)
open Bi (is_yes is_no)
open Tr (inclB incl_spec)
open Sh (leafR leafV leafR_yes l03Leaf_any)
open St (Strs)
theorem calls_below {P:Program} {f:FuncId} {args:Array Value} {W:World} {v:Value} (h:Calls P f args W fun e w'=>e=.returned v/\w'=W):Calls P f args W fun e w'=>e=.returned v/\Below W.heap.size W w' :=
 h.mono fun e w' q=>⟨q.1,by rw[q.2];exact Below.refl _ _⟩
theorem calls_drew {P:Program} {f:FuncId} {args:Array Value} {W:World} {v:Value} (h:Calls P f args W fun e w'=>e=.returned v/\w'=W):Calls P f args W fun e w'=>e=.returned v/\∃ n,w'=W.drewN n :=
 h.mono fun _ _ q=>⟨q.1,0,q.2⟩
theorem l07Fits_spec (q k:Nat) (r:ByteArray) (i:Int) (t:ByteArray) (p:List ByteArray) (a:Option Addr) (cap m:Nat) (w:World) (hr:rightB q k r=true) (ht:t.size<=8000) (hm:m=p.length) (hp:m<=1048576) (hs:Strs w w.heap.size a p) :
  Calls Tryz.prog 52 #[lV q k r,.int .i64 i,.string t,.slice a m cap] w fun e w'=>e=.returned (.bool (fitsB q k r i t p))/\Below w.heap.size w w':=by
 have h:=rightB_yes hr;have HA:Hid (Below w.heap.size w (w.alloc (.cells #[.int .i64 q,.int .i64 k,.string r] 26))):=(Below.refl _ _).alloc nl _;have HX:Hid ((w.alloc (.cells #[.int .i64 q,.int .i64 k,.string r] 26)).heap[w.heap.size]? = some (.cells #[.int .i64 q,.int .i64 k,.string r] 26 (0,0))):=heap_alloc_new w _;have HC:=hideL (fun W=>calls_below (count_any q k W (by omega) (by omega) (by omega)));have HCq:=hideL (fun W=>calls_drew (count_any q k W (by omega) (by omega) (by omega)));obtain⟨hcn,hcl⟩:=countN_yes hr;have HL:=hideL (fun W=>l03Leaf_any t W ht)
 have HFE:Hid (fitsB q k r i t p=inclB (leafR t) i ((cnt q k:Nat):Int) p r):=by unfold Hid fitsB;rw[hcn]
 have HI:Hid (∀ W,Below w.heap.size w W->Calls Tryz.prog 82 #[.string (leafV t),.int .i64 i,.int .i64 (cnt q k:Nat),.slice a m cap,.string r] W fun e w'=>e=.returned (.bool (inclB (leafV t) i ((cnt q k:Nat):Int) p r))/\Below W.heap.size W w'):=fun W h=>by
  have:=incl_spec (leafV t) r i (cnt q k:Nat) p a cap W.heap.size W (by omega) (by omega) ((hs.below h).mono h.size) nl
  rw[<-hm]at this;exact this
 have hmx:=mixedF;clear hs hm hr h hcn;generalize cnt q k=cn at HC HCq HI HFE hcl
 have hsub:IntKind.i64.wrap ((cn:Int)-1)=(cn:Int)-1:=by rw[IntKind.wrap_i64];omega
 by_cases hi:0<=i/\i<=(cn:Int)-1
 ·have HIS:=hideL (fun W=>calls_below (is_yes i 0 ((cn:Int)-1) W hi.1 hi.2))
  have HISq:=hideL (fun W=>calls_drew (is_yes i 0 ((cn:Int)-1) W hi.1 hi.2));by_cases h1:t.size<=100
  ·have HQ:Hid (fitsB q k r i t p=inclB (leafV t) i ((cn:Nat):Int) p r):=by rw[HFE.o,leafR_yes t (by omega)];rfl
   have h1':decide ((t.size:Int)<=100)=true:=by simp;omega
   have h1i:(t.size:Int)<=100:=by omega
   rw[HQ.o];clear HQ HFE hi;generalize inclB (leafV t) i ((cn:Nat):Int) p r=Q at HI ⊢;generalize leafV t=lf at HI HL;unfold lV;go_enter Tryz.func52,Tryz.ntmps52
   go_wp2_with fail
   generalize hww:w.alloc (.cells #[.int .i64 q,.int .i64 k,.string r] 26)=wa at HA HX ⊢;clear hww;obtain⟨c0,c1,c2⟩:=cells3 HX.o;generalize w.heap.size=gx at c0 c1 c2 ⊢;have g0:=fun d os=>cell_regrown c0 d os;have g1:=fun d os=>cell_regrown c1 d os;have g2:=fun d os=>cell_regrown c2 d os;refine wp_region_quiet_below (by assumption) (by kernel_rfl) ?_
   repeat (quiet_step (first|(go_at_call 54;exact Calls.regrown_of (HC.o _))|(go_at_call 53;exact Calls.regrown_of (HIS.o _))|(go_at_call 83;exact Calls.regrown_of (HL.o _))|(go_at_call 82;exact Calls.regrown_of (HI.o _ (lowL HA.o (below_regrown _ _ _))))))
   refine wpQuiet_nil ?_;intro _ hw';obtain⟨⟨dq,osq⟩,hw''⟩:=hw';subst hw'';have KQ:=hideL (below_regrown wa dq osq);generalize Go.Sort.grow (redrawn wa dq) osq=w8 at KQ ⊢;clear g0 g1 g2 c0 c1 c2
   go_wp2_with fail
   go_ret;exact⟨rfl,lowL HA.o KQ.o⟩
  ·have HQ:=hideL (fits_piece (z:=q) (b:=k) (r:=r) (i:=i) (p:=p) (t:=t) (by omega))
   have h1d:decide ((t.size:Int)<=100)=false:=by simp;omega
   have h1n:decide (t.size<=100)=false:=by simp;omega
   have h1i:¬(t.size:Int)<=100:=by omega
   rw[HQ.o];clear HQ HFE hi HI HL;unfold lV;go_enter Tryz.func52,Tryz.ntmps52
   go_wp2_with fail
   generalize hww:w.alloc (.cells #[.int .i64 q,.int .i64 k,.string r] 26)=wa at HA HX ⊢;clear hww;obtain⟨c0,c1,c2⟩:=cells3 HX.o;generalize w.heap.size=gx at c0 c1 c2 ⊢
   go_quiet (first|(go_at_call 54;refine Calls.quiet_of (HCq.o _))|(go_at_call 53;refine Calls.quiet_of (HISq.o _)))
   all_goals (try go_wp2_with fail)
   all_goals go_ret
   all_goals exact⟨rfl,lowL HA.o (below_drewN (Below.refl _ _) _)⟩
 ·have HQ:Hid (fitsB q k r i t p=false):=by rw[HFE.o];exact inclB_range (by omega)
  have HISq:Hid (∀ W,_):=fun W=>calls_drew (is_no i 0 ((cn:Int)-1) W (by omega));rw[HQ.o];clear HQ HFE hi HI HL;unfold lV;go_enter Tryz.func52,Tryz.ntmps52
  go_wp2_with fail
  generalize hww:w.alloc (.cells #[.int .i64 q,.int .i64 k,.string r] 26)=wa at HA HX ⊢;clear hww;obtain⟨c0,c1,c2⟩:=cells3 HX.o;generalize w.heap.size=gx at c0 c1 c2 ⊢
  go_quiet (first|(go_at_call 54;refine Calls.quiet_of (HCq.o _))|(go_at_call 53;refine Calls.quiet_of (HISq.o _)))
  all_goals (try go_wp2_with fail)
  all_goals go_ret
  all_goals exact⟨rfl,lowL HA.o (below_drewN (Below.refl _ _) _)⟩
theorem fits_spec (z b:Int) (r:ByteArray) (i:Int) (t:ByteArray) (p:List ByteArray) (a:Option Addr) (cap m:Nat) (w:World) (hm:m=p.length) (hp:m<=1048576) (hs:Strs w w.heap.size a p) :
  Calls Tryz.prog 18 #[lV z b r,.int .i64 i,.string t,.slice a m cap] w fun e w'=>e=.returned (.bool (fitsB z b r i t p))/\Below w.heap.size w w':=by
 have HA:Hid (Below w.heap.size w (w.alloc (.cells #[.int .i64 z,.int .i64 b,.string r] 26))):=(Below.refl _ _).alloc nl _;have HX:Hid ((w.alloc (.cells #[.int .i64 z,.int .i64 b,.string r] 26)).heap[w.heap.size]? = some (.cells #[.int .i64 z,.int .i64 b,.string r] 26 (0,0))):=heap_alloc_new w _;by_cases h1:t.size<=8000
 ·have h1i:(t.size:Int)<=8000:=by omega
  by_cases h2:m<=400
  ·have h2i:(m:Int)<=400:=by omega
   have HR:=hideL (fun W=>right_spec z b r W)
   cases hr:rightB z b r with
   |false =>
    have HQ:=hideL (fits_right (z:=z) (b:=b) (r:=r) (i:=i) (p:=p) (t:=t) hr);rw[hr]at HR;rw[HQ.o];clear HQ hr hs;unfold lV at HR ⊢;go_enter Tryz.func18,Tryz.ntmps18;(go_wp2_with fail);refine(HR.o _).mono ?_;rintro e w1 ⟨rfl,hb⟩;have B1:=hideL (lowL HA.o hb);clear hb;(go_wp2_with fail);go_ret;exact⟨rfl,B1.o⟩
   |true =>
    have h:=rightB_yes hr;obtain⟨q,hq⟩:=Int.eq_ofNat_of_zero_le h.1;obtain⟨k,hk⟩:=Int.eq_ofNat_of_zero_le (show 0<=b by omega);subst hq;subst hk;have HL:Hid (∀ W,Below w.heap.size w W->_):=fun W h=>l07Fits_spec q k r i t p a cap m W hr h1 hm hp ((hs.below h).mono h.size);rw[hr]at HR;clear hr hs h hm;generalize fitsB q k r i t p=Q at HL ⊢;unfold lV at HR HL ⊢;go_enter Tryz.func18,Tryz.ntmps18;(go_wp2_with fail);generalize hww:w.alloc (.cells #[.int .i64 q,.int .i64 k,.string r] 26)=wa at HA HX ⊢;clear hww;refine(HR.o _).mono ?_;rintro e w1 ⟨rfl,hb⟩;have X1:=hideL (blkL HX.o hb);have B1:=hideL (lowL HA.o hb);clear hb HX HA;obtain⟨c0,c1,c2⟩:=cells3 X1.o;(go_wp2_with fail);refine(HL.o _ B1.o).mono ?_;rintro e w2 ⟨rfl,hb⟩;have B2:=hideL (lowL B1.o hb);clear hb c0 c1 c2;(go_wp2_with fail);go_ret;exact⟨rfl,B2.o⟩
  ·have HQ:=hideL (fits_path (z:=z) (b:=b) (r:=r) (i:=i) (p:=p) (t:=t) (by omega))
   have h2i:¬(m:Int)<=400:=by omega
   have h2d:decide ((m:Int)<=400)=false:=by simp;omega
   rw[HQ.o];clear HQ hs;unfold lV;go_enter Tryz.func18,Tryz.ntmps18
   go_wp2_with fail
   go_ret;exact⟨rfl,HA.o⟩
 ·have HQ:=hideL (fits_piece (z:=z) (b:=b) (r:=r) (i:=i) (p:=p) (t:=t) (by omega))
  have h1i:¬(t.size:Int)<=8000:=by omega
  have h1d:decide ((t.size:Int)<=8000)=false:=by simp;omega
  rw[HQ.o];clear HQ hs;unfold lV;go_enter Tryz.func18,Tryz.ntmps18
  go_wp2_with fail
  go_ret;exact⟨rfl,HA.o⟩
end Ls
namespace Up
open Se (outV unsealV)
theorem unpack_all (a:Addr) (s:ByteArray) (w:World) (hs:s.size<=1048576) (hg:Glob w (.iface 258 (.pointer (some a)))) :
  Calls Tryz.prog 47 #[.string s] w fun e w'=>e=.returned (ansU s)/\Below w.heap.size w w' :=
 unpack_impl _ _ (fun t W h1 h2 h3=>short_any _ t W h1 h2 h3) (fun W=>is_self a W) s w hs hg
end Up
namespace fnExactBlockUnpack
open Up
end fnExactBlockUnpack
namespace Ls
open Up (ansU Glob glob_keep unpack_all)
open Se (outV)
open Pk (cat join_any)
open St (Strs OwnS one_newS one_cellS app_one)
theorem mixedG:Tryz.prog.follows .mixedOrders=true:=by kernel_rfl
theorem must_impl (z b:Int) (r:ByteArray) (i:Nat) (w:World) (hz0:0<=z) (hz:z<=1000) (hb0:1<=b) (hb:b<=48) (hi:i<=64) :
  Calls Tryz.prog 48 #[lV z b r,.int .i64 i] w fun e w'=>e=.returned (.int .i64 (mustN z b i))/\Below w.heap.size w w':=by
 have hm0:(0:Int)<=i*b:=Int.mul_nonneg (by omega) (by omega);have hm1:(i:Int)*b<=64*48:=Int.mul_le_mul (by omega) hb (by omega) (by omega);have HM:Hid (mustN z b i=min b (z-i*b)):=rfl;rw[HM.o];clear HM
 have hw1:IntKind.i64.wrap ((i:Int)*b)=(i:Int)*b:=by rw[IntKind.wrap_i64];omega
 have hw2:IntKind.i64.wrap (z-(i:Int)*b)=z-(i:Int)*b:=by rw[IntKind.wrap_i64];omega
 unfold lV;go_enter Tryz.func48,Tryz.ntmps48
 go_wp2_with fail
 go_ret;exact⟨rfl,(Below.refl _ _).alloc nl _⟩
theorem joinAll_own {W:World} {base:Nat} {v:Value} {D:List ByteArray} (h:OwnS W base v D) (hl:D.length<=1048576) (hc:(cat D).length<=1048576) :
  Calls Tryz.prog 31 #[v] W fun e w'=>e=.returned (.string ⟨(cat D).toArray⟩)/\Below W.heap.size W w':=by
 obtain⟨a,cap,rfl,_,hs⟩:=h.strs;exact join_any D a cap D.length W hs rfl hl hc
theorem file_impl (z b:Int) (r:ByteArray) (l:List ByteArray) (a:Option Addr) (cap m:Nat) (ga:Addr) (w:World) (hm:m=l.length) (hp:m<=1048576) (hs:Strs w w.heap.size a l) (hsz:∀ x∈l,x.size<=1048576) (hG:Glob w (.iface 258 (.pointer (some ga)))) :
  Calls Tryz.prog 15 #[lV z b r,.slice a m cap] w fun e w'=>e=.returned (.string (fileV z b r l))/\Below w.heap.size w w':=by
 obtain⟨i0,hif,hz0,hz1,hz2⟩:=info_parts St.Tryz.infoS9;have HA:Hid (Below w.heap.size w (w.alloc (.cells #[.int .i64 z,.int .i64 b,.string r] 26))):=(Below.refl _ _).alloc nl _;have HX:Hid ((w.alloc (.cells #[.int .i64 z,.int .i64 b,.string r] 26)).heap[w.heap.size]? = some (.cells #[.int .i64 z,.int .i64 b,.string r] 26 (0,0))):=heap_alloc_new w _;by_cases h4:400<m
 ·have h4i:(400:Int)<(m:Int):=by omega
  have HQ:Hid (fileV z b r l=⟨#[]⟩):=by unfold Hid fileV;rw[if_pos (by omega)]
  rw[HQ.o];unfold lV;clear HQ hs hsz hG hm;go_enter Tryz.func15,Tryz.ntmps15
  go_wp2_with fail
  go_ret;exact⟨rfl,HA.o⟩
 ·have h4i:¬(400:Int)<(m:Int):=by omega
  have h4d:decide ((400:Int)<(m:Int))=false:=by simp;omega
  have HQ:Hid (fileV z b r l=⟨(cat (fileL z b 0 (l.take (countN z b r)))).toArray⟩):=by unfold Hid fileV;rw[if_neg (by omega)]
  rw[HQ.o];clear HQ;have HC:=hideL (fun W=>count_impl z b r W);have HCL:=countN_le z b r
  have HCY:Hid (0<countN z b r->0<=z/\z<=1000/\1<=b/\b<=48):=fun h=>by
   cases hr:rightB z b r with
   |false=>rw[countN_no hr]at h;omega
   |true=>have:=rightB_yes hr;omega
  have HB48:Hid (∀ D:List ByteArray,(0<D.length->b<=48)->(∀ x∈D,(x.size:Int)<=b)->D.length<=64->(cat D).length<=1048576):=fun D h1 h2 h3=>by
   by_cases h0:0<D.length
   ·have hb48:=h1 h0
    have:=cat_le 48 D fun x hx=>by have:=h2 x hx;omega
    omega
   ·have:D=[]:=List.eq_nil_of_length_eq_zero (by omega)
    subst this;decide
  have HM:=hideL (fun (i:Nat) (hi:i<=64) (W:World) (h:0<=z/\z<=1000/\1<=b/\b<=48)=>must_impl z b r i W h.1 h.2.1 h.2.2.1 h.2.2.2 hi);generalize countN z b r=c at HC HCL HCY ⊢;obtain⟨q,hq⟩:∃ q,q=l.take c:=⟨_,rfl⟩
  have hql:q.length=min c m:=by rw[hq,List.length_take,hm]
  have HQS:Hid (∀ x∈q,x.size<=1048576):=fun x hx=>hsz x (by rw[hq]at hx;exact List.mem_of_mem_take hx)
  have HQG:Hid (∀ (k:Nat) (h:k<q.length) (W:World),Below w.heap.size w W->∃ bb off,a=some ⟨bb,off,none⟩/\W.cell? ⟨bb,off+k,none⟩=some (.string q[k])):=fun k h W hW=>by
   have hkl:k<l.length:=by omega
   obtain⟨bb,off,ha,_,hc⟩:=(hs.below hW).some (by omega);refine⟨bb,off,ha,?_⟩;rw[hc k hkl]
   congr 2
   subst hq;rw[List.getElem_take]
  rw[<-hq];have HG:=hideL hG;have HV:=hideL (fun (x:ByteArray) (W:World) (hx:x.size<=1048576) (hW:Glob W (.iface 258 (.pointer (some ga))))=>unpack_all ga x W hx hW);obtain⟨n,hn⟩:∃ n,n=q.length:=⟨_,rfl⟩;have HN:=hideL hn
  have hnc:n<=c:=by omega
  have hnm:n<=m:=by omega
  have hmin:min (c:Int) (m:Int)=(n:Int):=by omega
  have hcase:(n:Int)=c/\(c:Int)<=m∨(n:Int)=m/\(m:Int)<c:=by omega
  clear hs hsz hG hm hq hn hql;have hmx:=mixedG;unfold lV at HC HM ⊢;go_enter Tryz.func15,Tryz.ntmps15
  go_wp2_with fail
  generalize hww:w.alloc (.cells #[.int .i64 z,.int .i64 b,.string r] 26)=wa at HA HX ⊢;clear hww;generalize hgx:w.heap.size=gx at HX ⊢;refine(HC.o _).mono ?_;rintro e w1 ⟨rfl,hb⟩;have X1:=hideL (blkL HX.o hb);have B1:=hideL (lowL HA.o hb);clear hb HX HA HC;have G1:=hideL (glob_keep HG.o B1.o);have LW:=hideL (show gx<w1.heap.size from (Array.getElem?_eq_some_iff.1 X1.o).1);clear HG
  go_wp2_with fail
  go_loopw [16,5] (fun iv bv wr=>∃ (k:Nat) (D:List ByteArray),iv=.int .i64 k/\k<=n/\OwnS wr w1.heap.size bv D/\FileF z b q k D/\Below w1.heap.size w1 wr) (fun iv _ _=>n-(intOf iv).toNat)
  case atStart=>exact⟨0,[],rfl,Nat.zero_le _,OwnS.nil _ _,file_none z b q,Below.refl _ _⟩
  case round =>
   obtain⟨k,D,rfl,hk,ho,hF,hbw⟩:=hrel;have O:=hideL ho;have F:=hideL hF;have BW:=hideL hbw;have GW:=hideL (glob_keep G1.o hbw);have XW:=hideL (blkL X1.o hbw);have BB:=hideL (lowL B1.o hbw);have hDL:=hF.1;clear ho hF hbw;by_cases hlt:k<n
   ·have hlt':(k:Int)<(n:Int):=by omega
    have hkq:k<q.length:=by rw[<-HN.o];exact hlt
    have hkm:(k:Int)<(m:Int):=by omega
    obtain⟨bb,off,rfl,ci⟩:=HQG.o k hkq wr BB.o;have hx:=HQS.o q[k] (List.getElem_mem hkq);have HNXT:=hideL (fun (t:ByteArray) (h1:blkT q[k]=some t) (h2:(t.size:Int)=mustN z b k)=>file_next F.o hkq h1 h2);have HSTP:=hideL (fun h=>file_stop F.o hkq h);generalize q[k]=x at ci hx HNXT HSTP;obtain⟨t,c0,hu⟩:=ansU_out x;have HY:=hideL (fun (h:c0=0)=>blkT_yes (t:=t) (by rw[hu,h]));have HZ:=hideL (fun (h:¬c0=0)=>blkT_no hu h);have HVX:=hideL (fun (W:World) (hW:Glob W (.iface 258 (.pointer (some ga))))=>HV.o x W hx hW);rw[hu]at HVX;unfold outV at HVX;clear hu;(go_wp2_with fail);refine(HVX.o _ GW.o).mono ?_;rintro e w3 ⟨rfl,hb⟩;have O3:=hideL (O.o.below hb);have X3:=hideL (blkL XW.o hb);have B3:=hideL (lowL BW.o hb);clear hb ci O XW BW GW BB;have O4:Hid (OwnS (w3.alloc (.cells #[.string t,.int .i64 0,.int .i64 c0] 67)) w1.heap.size u5 D):=World.ownsRow.alloc O3.o _;have X4:Hid ((w3.alloc (.cells #[.string t,.int .i64 0,.int .i64 c0] 67)).heap[gx]? = some (.cells #[.int .i64 z,.int .i64 b,.string r] 26 (0,0))):=blk_alloc X3.o _;have Y4:Hid ((w3.alloc (.cells #[.string t,.int .i64 0,.int .i64 c0] 67)).heap[w3.heap.size]? = some (.cells #[.string t,.int .i64 0,.int .i64 c0] 67 (0,0))):=heap_alloc_new w3 _;have B4:Hid (Below w1.heap.size w1 (w3.alloc (.cells #[.string t,.int .i64 0,.int .i64 c0] 67))):=lowB_alloc rfl B3.o _
    go_upto_region 8 with fail
    generalize hww:w3.alloc (.cells #[.string t,.int .i64 0,.int .i64 c0] 67)=u4 at O4 X4 Y4 B4 ⊢;generalize w3.heap.size=gt at Y4 ⊢;clear hww O3 X3 B3;obtain⟨x0,x1,x2⟩:=cells3 X4.o;obtain⟨y0,y1,y2⟩:=cells3 Y4.o;by_cases hc0:c0=0
    ·have HSOME:=hideL (HY.o hc0)
     have hcpos:0<=z/\z<=1000/\1<=b/\b<=48:=HCY.o (by omega);have HMU:=hideL (fun (W:World)=>HM.o k (by omega) W hcpos);have HMN:Hid (mustN z b k=mustN z b k):=rfl;subst hc0;clear HZ HY;generalize mustN z b k=mm at HMU HNXT HSTP HMN;have gx0:=fun d os=>cell_regrown x0 d os;have gx1:=fun d os=>cell_regrown x1 d os;have gx2:=fun d os=>cell_regrown x2 d os;have gy0:=fun d os=>cell_regrown y0 d os;have gy2:=fun d os=>cell_regrown y2 d os;by_cases hmm:(t.size:Int)=mm
     ·have FN:=hideL (HNXT.o t HSOME.o hmm)
      have hmb:((t.size:Int) != mm)=false:=by simp;exact hmm
      have hme:((t.size:Int)==mm)=true:=by simp;exact hmm
      clear hmm HNXT HSTP;refine wp_region_quiet_below (by assumption) (by kernel_rfl) ?_
      repeat (quiet_step (first|(go_at_call 48;exact Calls.regrown_of (HMU.o _))))
      refine wpQuiet_nil ?_;intro _ hw';obtain⟨⟨dq,osq⟩,hw''⟩:=hw';subst hw'';have KQ:=hideL (below_regrown u4 dq osq);generalize Go.Sort.grow (redrawn u4 dq) osq=w8 at KQ ⊢;clear gx0 gx1 gx2 gy0 gy2 x0 x1 x2 y0 y1 y2;have O8:=hideL (O4.o.below KQ.o);have B8:=hideL (lowL B4.o KQ.o);have hz8:=B8.o.size;obtain⟨y0,y1,y2⟩:=cells3 (blkL Y4.o KQ.o)
      go_wp2_with (at_builtin;refine wpList_append_own _ rfl (.tmp 36) (.tmp 39) 34 rfl w1.heap.size 9 i0 (.string ⟨#[]⟩) 1 16 Tryz.underlying34 hif hz0 hz1 hz2 rfl (by decide) _ _ _ rfl (World.ownsRow.alloc O8.o _) ⟨w8.heap.size,0,none⟩ 1 1 [.string t] rfl rfl (one_newS w8 _ _) (one_cellS _) (by rw[hDL];unfold maxLen;omega) (by rw[hDL];omega) (by simp;omega) ?_)
      intro v9 w9 hown hgrow _;have O9:Hid (OwnS w9 w1.heap.size v9 (D++[t])):=OwnS.snoc (by rw[hDL];exact hown);have B9:=hideL (app_one B8.o hz8 nl O8.o hgrow);clear hown hgrow O8 O4;(go_wp2_with fail)
      go_roundw
      case rel=>exact⟨k+1,_,by go_num,by omega,O9.o,FN.o,B9.o⟩
      case measure=>simp[intOf];omega
     ·have HEND:=hideL (HSTP.o (.inr ⟨t,HSOME.o,hmm⟩))
      have hmb:((t.size:Int) != mm)=true:=by simp;exact hmm
      have hme:((t.size:Int)==mm)=false:=by simp;exact hmm
      clear hmm HNXT HSTP;refine wp_region_quiet_below (by assumption) (by kernel_rfl) ?_
      repeat (quiet_step (first|(go_at_call 48;exact Calls.regrown_of (HMU.o _))))
      refine wpQuiet_nil ?_;intro _ hw';obtain⟨⟨dq,osq⟩,hw''⟩:=hw';subst hw'';have KQ:=hideL (below_regrown u4 dq osq);generalize Go.Sort.grow (redrawn u4 dq) osq=w8 at KQ ⊢;clear gx0 gx1 gx2 gy0 gy2 x0 x1 x2 y0 y1 y2;have O8:=hideL (O4.o.below KQ.o);have B8:=hideL (lowL B1.o (lowL B4.o KQ.o));(go_wp2_with fail);refine(joinAll_own O8.o (by omega) (HB48.o D (fun _=>hcpos.2.2.2) F.o.2.1 (by omega))).mono ?_;rintro e w9 ⟨rfl,hb⟩;have B9:=hideL (lowL B8.o hb);clear hb;(go_wp2_with fail);go_ret;exact⟨by rw[HEND.o];rfl,B9.o⟩
    ·have HEND:=hideL (HSTP.o (.inl (HZ.o hc0)))
     have hcpos:0<=z/\z<=1000/\1<=b/\b<=48:=HCY.o (by omega);have hcb:(c0 != 0)=true:=(by simp;exact hc0);have hce:(c0==0)=false:=(by simp;exact hc0);clear HZ HY HNXT HSTP
     go_quiet (fail)
     have O8:=fun (i:Nat)=>O4.o.below (below_drewN (Below.refl u4.heap.size u4) i);have B8:=fun (i:Nat)=>lowL B1.o (lowL B4.o (below_drewN (Below.refl u4.heap.size u4) i));(go_wp2_with fail);refine(joinAll_own (O8 _) (by omega) (HB48.o D (fun _=>hcpos.2.2.2) F.o.2.1 (by omega))).mono ?_;rintro e w9 ⟨rfl,hb⟩;have B9:=hideL (lowL (B8 _) hb);clear hb;(go_wp2_with fail);go_ret;exact⟨by rw[HEND.o];rfl,B9.o⟩
   ·have HEND:=hideL (file_end F.o (by rw[<-HN.o];omega))
    have hlt':¬(k:Int)<(n:Int):=by omega
    have B8:=hideL (lowL B1.o BW.o);(go_wp2_with fail);refine(joinAll_own O.o (by omega) (HB48.o D (fun h=>(HCY.o (by omega)).2.2.2) F.o.2.1 (by omega))).mono ?_;rintro e w9 ⟨rfl,hb⟩;have B9:=hideL (lowL B8.o hb);clear hb;(go_wp2_with fail);go_ret;exact⟨by rw[HEND.o];rfl,B9.o⟩
end Ls
namespace Ls
open Up (ansU unpack_spec)
open Se (outV)
open Pk (cat)
open St (Strs)
open Bk (cnt count_any)
theorem min_spec (x y:Int) (w:World) :
  Calls Tryz.prog 78 #[.int .i64 x,.int .i64 y] w fun e w'=>e=.returned (.int .i64 (min x y))/\∃ n,w'=w.drewN n:=by
 by_cases h:x<y
 ·have HM:Hid (min x y=x):=by unfold Hid;omega
  rw[HM.o];go_enter Tryz.func78,Tryz.ntmps78
  go_wp2_with fail
  go_ret;exact⟨rfl,0,rfl⟩
 ·have HM:Hid (min x y=y):=by unfold Hid;omega
  rw[HM.o];go_enter Tryz.func78,Tryz.ntmps78
  go_wp2_with fail
  go_ret;exact⟨rfl,0,rfl⟩
theorem cat_snoc (D:List ByteArray) (t:ByteArray):(⟨(cat (D++[t])).toArray⟩:ByteArray)=⟨(cat D).toArray⟩++t:=by
 refine ByteArray.ext ?_
 show (cat (D++[t])).toArray=(⟨(cat D).toArray⟩++t:ByteArray).data
 rw[ByteArray.data_append];simp[cat]
theorem cat_size (D:List ByteArray):(⟨(cat D).toArray⟩:ByteArray).size=(cat D).length:=by
 show (cat D).toArray.size=_
 rw[List.size_toArray]
theorem l07File_spec (zn bn:Nat) (r:ByteArray) (l:List ByteArray) (a:Option Addr) (cap m:Nat) (w:World) (hr:rightB zn bn r=true) (hm:m=l.length) (hp:m<=400) (hs:Strs w w.heap.size a l) (hsz:∀ x∈l,x.size<=1048576) :
  Calls Tryz.prog 49 #[lV zn bn r,.slice a m cap] w fun e w'=>e=.returned (.string ⟨(cat (fileL zn bn 0 (l.take (cnt zn bn)))).toArray⟩)/\Below w.heap.size w w':=by
 have h:=rightB_yes hr;have hcl:=(countN_yes hr).2;have HA:Hid (Below w.heap.size w (w.alloc (.cells #[.int .i64 zn,.int .i64 bn,.string r] 26))):=(Below.refl _ _).alloc nl _;have HX:Hid ((w.alloc (.cells #[.int .i64 zn,.int .i64 bn,.string r] 26)).heap[w.heap.size]? = some (.cells #[.int .i64 zn,.int .i64 bn,.string r] 26 (0,0))):=heap_alloc_new w _;have HC:=hideL (fun W=>count_any zn bn W (by omega) (by omega) (by omega))
 have HB48:Hid (∀ D:List ByteArray,(∀ x∈D,(x.size:Int)<=bn)->D.length<=64->(cat D).length<=3072):=fun D h2 h3=>by
  have:=cat_le 48 D fun x hx=>by have:=h2 x hx;omega
  omega
 generalize cnt zn bn=c at HC hcl ⊢;obtain⟨q,hq⟩:∃ q,q=l.take c:=⟨_,rfl⟩
 have hql:q.length=min c m:=by rw[hq,List.length_take,hm]
 have HQS:Hid (∀ x∈q,x.size<=1048576):=fun x hx=>hsz x (by rw[hq]at hx;exact List.mem_of_mem_take hx)
 have HQG:Hid (∀ (k:Nat) (h:k<q.length) (W:World),Below w.heap.size w W->∃ bb off,a=some ⟨bb,off,none⟩/\W.cell? ⟨bb,off+k,none⟩=some (.string q[k])):=fun k h W hW=>by
  have hkl:k<l.length:=by omega
  obtain⟨bb,off,ha,_,hc⟩:=(hs.below hW).some (by omega);refine⟨bb,off,ha,?_⟩;rw[hc k hkl]
  congr 2
  subst hq;rw[List.getElem_take]
 rw[<-hq];obtain⟨n,hn⟩:∃ n,n=q.length:=⟨_,rfl⟩;have HN:=hideL hn;have HNE:=hideL (show n=min c m by omega)
 have hzb:zn<=1000:=by omega
 have hbb1:1<=bn:=by omega
 have hbb:bn<=48:=by omega
 clear hs hsz hm hq hn hql h hr;unfold lV;go_enter Tryz.func49,Tryz.ntmps49
 go_wp2_with fail
 generalize hww:w.alloc (.cells #[.int .i64 zn,.int .i64 bn,.string r] 26)=w1 at HA HX ⊢;clear hww;generalize w.heap.size=gx at HX ⊢;refine(HC.o _).mono ?_;rintro e w2 ⟨rfl,hw⟩;subst w2;clear HC
 go_wp2_with fail
 go_loopw [7,5] (fun iv bv wr=>∃ (k:Nat) (D:List ByteArray),iv=.int .i64 k/\bv=.string ⟨(cat D).toArray⟩/\k<=n/\FileF zn bn q k D/\Below w1.heap.size w1 wr) (fun iv _ _=>n-(intOf iv).toNat)
 case atStart=>exact⟨0,[],rfl,rfl,Nat.zero_le _,file_none zn bn q,Below.refl _ _⟩
 case round =>
  obtain⟨k,D,rfl,rfl,hk,hF,hbw⟩:=hrel;have F:=hideL hF;have BW:=hideL hbw;have XW:=hideL (blkL HX.o hbw);have BB:=hideL (lowL HA.o hbw);have hDL:=hF.1;clear hF hbw
  have hnc:n<=c:=by have:=HNE.o;omega
  have hnm:n<=m:=by have:=HNE.o;omega
  by_cases hlt:k<n
  ·have hlc:(k:Int)<(c:Int):=by omega
   have hlm:(k:Int)<(m:Int):=by omega
   have hkq:k<q.length:=by rw[<-HN.o];exact hlt
   obtain⟨bb,off,rfl,ci⟩:=HQG.o k hkq wr BB.o;have hx:=HQS.o q[k] (List.getElem_mem hkq);have HNXT:=hideL (fun (t:ByteArray) (h1:blkT q[k]=some t) (h2:(t.size:Int)=mustN zn bn k)=>file_next F.o hkq h1 h2);have HSTP:=hideL (fun h=>file_stop F.o hkq h);generalize q[k]=x at ci hx HNXT HSTP;obtain⟨t,c0,hu⟩:=ansU_out x;have HY:=hideL (fun (h:c0=0)=>blkT_yes (t:=t) (by rw[hu,h]));have HZ:=hideL (fun (h:¬c0=0)=>blkT_no hu h);have HVX:=hideL (fun (W:World)=>unpack_spec x W hx);rw[hu]at HVX;unfold outV at HVX;clear hu;have hcs:=HB48.o D F.o.2.1 (by omega);have hcz:=cat_size D
   go_wp2_with fail
   refine(HVX.o _).mono ?_;rintro e w3 ⟨rfl,hb⟩;have X3:=hideL (blkL XW.o hb);have B3:=hideL (lowL BW.o hb);clear hb ci XW BW BB;have X4:Hid ((w3.alloc (.cells #[.string t,.int .i64 0,.int .i64 c0] 67)).heap[gx]? = some (.cells #[.int .i64 zn,.int .i64 bn,.string r] 26 (0,0))):=blk_alloc X3.o _;have Y4:Hid ((w3.alloc (.cells #[.string t,.int .i64 0,.int .i64 c0] 67)).heap[w3.heap.size]? = some (.cells #[.string t,.int .i64 0,.int .i64 c0] 67 (0,0))):=heap_alloc_new w3 _;have B4:Hid (Below w1.heap.size w1 (w3.alloc (.cells #[.string t,.int .i64 0,.int .i64 c0] 67))):=lowB_alloc rfl B3.o _
   go_upto_region 7 with fail
   generalize hww:w3.alloc (.cells #[.string t,.int .i64 0,.int .i64 c0] 67)=u4 at X4 Y4 B4 ⊢;generalize w3.heap.size=gt at Y4 ⊢;clear hww X3 B3;obtain⟨x0,x1,x2⟩:=cells3 X4.o;obtain⟨y0,y1,y2⟩:=cells3 Y4.o;by_cases hc0:c0=0
   ·have HSOME:=hideL (HY.o hc0)
    have hm0:(0:Int)<=(k:Int)*bn:=Int.mul_nonneg (by omega) (by omega);have hm1:(k:Int)*bn<=64*48:=Int.mul_le_mul (by omega) (by omega) (by omega) (by omega);have hw1:IntKind.i64.wrap ((k:Int)*bn)=(k:Int)*bn:=(by rw[IntKind.wrap_i64];omega);have hw2:IntKind.i64.wrap ((zn:Int)-(k:Int)*bn)=(zn:Int)-(k:Int)*bn:=(by rw[IntKind.wrap_i64];omega);have HMU:Hid (∀ W,Calls Tryz.prog 78 #[.int .i64 (bn:Nat),.int .i64 ((zn:Int)-(k:Int)*bn)] W fun e w'=>e=.returned (.int .i64 (mustN zn bn k))/\∃ n,w'=W.drewN n):=fun W=>min_spec _ _ W;subst hc0;clear HZ HY;generalize mustN zn bn k=mm at HMU HNXT HSTP;by_cases hmm:(t.size:Int)=mm
    ·have FN:=hideL (HNXT.o t HSOME.o hmm)
     have hts:=FN.o.2.1 t (by simp);have hmb:((t.size:Int) != mm)=false:=(by simp;exact hmm);have hme:((t.size:Int)==mm)=true:=(by simp;exact hmm);have n1:¬9223372036854775807<(⟨(cat D).toArray⟩:ByteArray).size+t.size:=(by omega);have HSN:=hideL (cat_snoc D t);clear hmm HNXT HSTP
     go_quiet (first|(go_at_call 78;refine Calls.quiet_of (HMU.o _)))
     generalize (⟨(cat D).toArray⟩:ByteArray)=CD at n1 HSN ⊢;have B8:=fun (i:Nat)=>lowL B4.o (below_drewN (Below.refl u4.heap.size u4) i);(go_wp2_with fail)
     go_roundw
     case rel=>exact⟨k+1,_,by go_num,by rw[HSN.o],by omega,FN.o,B8 _⟩
     case measure=>simp[intOf];omega
    ·have HEND:=hideL (HSTP.o (.inr ⟨t,HSOME.o,hmm⟩))
     have hmb:((t.size:Int) != mm)=true:=by simp;exact hmm
     have hme:((t.size:Int)==mm)=false:=by simp;exact hmm
     clear hmm HNXT HSTP
     go_quiet (first|(go_at_call 78;refine Calls.quiet_of (HMU.o _)))
     have B8:=fun (i:Nat)=>lowL HA.o (lowL B4.o (below_drewN (Below.refl u4.heap.size u4) i));(go_wp2_with fail);go_ret;exact⟨by rw[HEND.o];rfl,B8 _⟩
   ·have HEND:=hideL (HSTP.o (.inl (HZ.o hc0)))
    have hcb:(c0 != 0)=true:=by simp;exact hc0
    have hce:(c0==0)=false:=by simp;exact hc0
    clear HZ HY HNXT HSTP
    go_quiet (fail)
    have B8:=fun (i:Nat)=>lowL HA.o (lowL B4.o (below_drewN (Below.refl u4.heap.size u4) i));(go_wp2_with fail);go_ret;exact⟨by rw[HEND.o];rfl,B8 _⟩
  ·have HEND:=hideL (file_end F.o (by rw[<-HN.o];omega))
   have B8:=hideL (lowL HA.o BW.o);by_cases hkc:k<c
   ·have hkc':(k:Int)<(c:Int):=by omega
    have hkm':¬(k:Int)<(m:Int):=by have:=HNE.o;omega
    have hkmd:decide ((k:Int)<(m:Int))=false:=by simp;have:=HNE.o;omega
    (go_wp2_with fail);go_ret;exact⟨by rw[HEND.o];rfl,B8.o⟩
   ·have hkc':¬(k:Int)<(c:Int):=by omega
    have hkcd:decide ((k:Int)<(c:Int))=false:=by simp;omega
    (go_wp2_with fail);go_ret;exact⟨by rw[HEND.o];rfl,B8.o⟩
theorem file_spec (z b:Int) (r:ByteArray) (l:List ByteArray) (a:Option Addr) (cap m:Nat) (w:World) (hm:m=l.length) (hp:m<=1048576) (hs:Strs w w.heap.size a l) (hsz:∀ x∈l,x.size<=1048576) :
  Calls Tryz.prog 16 #[lV z b r,.slice a m cap] w fun e w'=>e=.returned (.string (fileV z b r l))/\Below w.heap.size w w':=by
 have HA:Hid (Below w.heap.size w (w.alloc (.cells #[.int .i64 z,.int .i64 b,.string r] 26))):=(Below.refl _ _).alloc nl _;have HX:Hid ((w.alloc (.cells #[.int .i64 z,.int .i64 b,.string r] 26)).heap[w.heap.size]? = some (.cells #[.int .i64 z,.int .i64 b,.string r] 26 (0,0))):=heap_alloc_new w _;by_cases h4:400<m
 ·have h4i:(400:Int)<(m:Int):=by omega
  have HQ:Hid (fileV z b r l=⟨#[]⟩):=by unfold Hid fileV;rw[if_pos (by omega)]
  rw[HQ.o];unfold lV;clear HQ hs hsz hm;go_enter Tryz.func16,Tryz.ntmps16
  go_wp2_with fail
  go_ret;exact⟨rfl,HA.o⟩
 ·have h4i:¬(400:Int)<(m:Int):=by omega
  have h4d:decide ((400:Int)<(m:Int))=false:=by simp;omega
  have HQ:Hid (fileV z b r l=⟨(cat (fileL z b 0 (l.take (countN z b r)))).toArray⟩):=by unfold Hid fileV;rw[if_neg (by omega)]
  have HR:=hideL (fun W=>right_spec z b r W);rw[HQ.o];clear HQ
  cases hr:rightB z b r with
  |false =>
   have HE:Hid (fileL z b 0 (l.take (countN z b r))=[]):=by rw[countN_no hr];rfl
   rw[HE.o];rw[hr]at HR;clear hr hs hsz HE;unfold lV at HR ⊢;go_enter Tryz.func16,Tryz.ntmps16
   go_wp2_with fail
   refine(HR.o _).mono ?_;rintro e w1 ⟨rfl,hb⟩;have B1:=hideL (lowL HA.o hb);clear hb
   go_wp2_with fail
   go_ret;exact⟨rfl,B1.o⟩
  |true =>
   have h:=rightB_yes hr;obtain⟨zn,hz⟩:=Int.eq_ofNat_of_zero_le h.1;obtain⟨bn,hb⟩:=Int.eq_ofNat_of_zero_le (show 0<=b by omega);subst hz;subst hb;have HL:Hid (∀ W,Below w.heap.size w W->_):=fun W hW=>l07File_spec zn bn r l a cap m W hr hm (by omega) ((hs.below hW).mono hW.size) hsz;rw[(countN_yes hr).1];rw[hr]at HR;clear hr hs h hm hsz;generalize (⟨(cat (fileL zn bn 0 (l.take (cnt zn bn)))).toArray⟩:ByteArray)=Q at HL ⊢;unfold lV at HR HL ⊢;go_enter Tryz.func16,Tryz.ntmps16
   go_wp2_with fail
   generalize hww:w.alloc (.cells #[.int .i64 zn,.int .i64 bn,.string r] 26)=wa at HA HX ⊢;clear hww;refine(HR.o _).mono ?_;rintro e w1 ⟨rfl,hb⟩;have X1:=hideL (blkL HX.o hb);have B1:=hideL (lowL HA.o hb);clear hb HX HA;obtain⟨c0,c1,c2⟩:=cells3 X1.o
   go_wp2_with fail
   refine(HL.o _ B1.o).mono ?_;rintro e w2 ⟨rfl,hb⟩;have B2:=hideL (lowL B1.o hb);clear hb c0 c1 c2
   go_wp2_with fail
   go_ret;exact⟨rfl,B2.o⟩
end Ls
namespace fnList
open Dr (Row drawListOf_any drawListBytes_any drawListRead_any drawFile_any drawFits_any ofC pcC PkC at_any)
open Tr (pathR pathOf_spec)
open Kp (hideK lt_rowK Cx)
open Sh (Vars)
open Ls
open Up (Glob glob_keep)
open Bk (fineB)
open Pk (piecesR piecesR_length pieces_spec pack_spec)
open St (Strs OwnS)
theorem pkC:PkC:=fun W t ht=>(pack_spec t W (by omega)).mono fun e w' ⟨he,hb⟩=>⟨⟨_,pack_size t,he⟩,hb⟩
theorem row_keep {w w':World} {a:Option Addr} {n:Nat} (h:Row w w.heap.size a n) (hb:Below w.heap.size w w'):Row w' w'.heap.size a n:=(Dr.Row.below h hb).mono hb.size
theorem low_keep {w0 w w':World} (h:Below w0.heap.size w0 w) (hb:Below w.heap.size w w'):Below w0.heap.size w0 w':=h.trans (hb.mono h.size)
theorem blk_keep {w w':World} {g:Nat} {x:Obj} (h:w.heap[g]? = some x) (hb:Below w.heap.size w w'):w'.heap[g]? = some x:=(hb.block g (Array.getElem?_eq_some_iff.1 h).1).trans h
theorem strs_keep {w w':World} {a:Option Addr} {l:List ByteArray} (h:Strs w w.heap.size a l) (hb:Below w.heap.size w w'):Strs w' w'.heap.size a l:=(h.below hb).mono hb.size
theorem strs_takeL {w:World} {B:Nat} {a:Option Addr} {l:List ByteArray} (h:Strs w B a l) (k:Nat):Strs w B a (l.take k):=by
 rcases h with h|⟨b,off,ha,hb,hc⟩
 ·exact .inl (by rw[h];simp)
 ·exact .inr ⟨b,off,ha,hb,fun j hj=>by
   have hj2:j<l.length:=by rw[List.length_take]at hj;omega
   rw[hc j hj2,List.getElem_take]⟩
theorem strs_someL {w:World} {B:Nat} {a:Option Addr} {l:List ByteArray} (h:Strs w B a l) (h0:0<l.length):∃ b off,a=some ⟨b,off,none⟩/\b<B/\∀ j (h:j<l.length),w.cell? ⟨b,off+j,none⟩=some (.string l[j]):=by
 rcases h with h|h
 ·subst h
  simp at h0
 ·exact h
theorem of_ok {f:ByteArray} {k z b c:Int} {r:ByteArray} (h:ofV f k=oV z b r c) (hc:c=0):fineB f.size k=true/\z=f.size/\b=k/\r=rootV f k:=by
 unfold ofV oV at h;subst hc
 split at h
 ·simp at h
 ·split at h
  ·rename_i hf
   simp at h;exact⟨hf,h.1.symm,h.2.1.symm,h.2.2.symm⟩
  ·simp at h
theorem bytes_ne {z b:Int} {r:ByteArray} (h:rightB z b r=true):¬(bytesL z b r).toList=[]:=fun e=>by
 rw[Lib.toList_data,bytesL_yes h,bytesA_list]at e
 have:=(Nu.numB_length (Nu.zz z)).2
 have h2:(Nu.numB (Nu.zz z)).length=0:=by
  rw[(List.append_eq_nil_iff.1 e).1];rfl
 omega
structure Made (f:ByteArray) (k:Int) (P:List ByteArray) (z b:Int) (r:ByteArray):Prop where
 few:P.length<=64
 sz:∀ x∈P,x.size<=53
 cnt:countN z b r=P.length
 fit:∀ i (h:i<P.length),fitsB z b r i P[i] (pathR P i)=true
 all:fileV z b r P=f
 pre:∀ m,(fileV z b r (P.take m)).size<=f.size/\f.extract 0 (fileV z b r (P.take m)).size=fileV z b r (P.take m)
theorem made_of (w:World) {f:ByteArray} {k:Int} (h:fineB f.size k=true):Made f k (piecesR f k) f.size k (rootV f k) :=
 ⟨piecesR_length f k,fun s hs=>by
  unfold piecesR at hs;obtain⟨x,_,rfl⟩:=List.mem_map.1 hs
  exact pack_size x,count_pieces h,fun i hi=>piece_fits h i hi,file_all w h,fun m=>file_pre w h m⟩
theorem walk_in (w:World) (a0:Option Addr) (len0 cap0:Nat) (a1:Option Addr) (len1 cap1:Nat) (r0:Row w w.heap.size a0 len0) (r1:Row w w.heap.size a1 len1) (hl0:len0<=1048576) (hl1:len1<=1048576) (hh:HH w) (hV:Vars w) (ga:Addr) (hG:Glob w (.iface 258 (.pointer (some ga)))) :
  Calls Tryz.prog 3 #[.slice a0 len0 cap0,.slice a1 len1 cap1] w fun e w'=>e=.returned (.bool true)/\Below w.heap.size w w':=by
 have g0:(len0:Int)<=1048576:=by omega
 have g1:(len1:Int)<=1048576:=by omega
 have f0:¬(1048576:Int)<len0:=by omega
 have f1:¬(1048576:Int)<len1:=by omega
 have d0:decide ((1048576:Int)<len0)=false:=by simp;omega
 have d1:decide ((1048576:Int)<len1)=false:=by simp;omega
 have R0:=hideK r0;have R1:=hideK r1;have HG:=hideK hG;have HV:=hideK hV;have HHH:=hideK hh;clear r0 r1 hG hV hh;go_enter Tryz.func3,Tryz.ntmps3
 go_wp2_with fail
 refine(drawListOf_any a0 len0 cap0 _ hl0 R0.o).mono ?_;rintro e w1 ⟨f,k,hf,hk0,hk1,rfl,hb⟩;have B1:=hideK hb;clear hb;obtain⟨zx,bx,rx,cx,hx⟩:=ofV_form f k
 have HOI:Hid (∀ W,Below w.heap.size w W->Calls Tryz.prog 5 #[.string f,.int .i64 k] W fun e w'=>e=.returned (oV zx bx rx cx)/\Below W.heap.size W w'):=fun W hW=>by
  have:=of_impl f k W (by omega) (vars_keepF HV.o hW)
  rw[hx]at this;exact this
 have HOS:Hid (∀ W,Calls Tryz.prog 12 #[.string f,.int .i64 k] W fun e w'=>e=.returned (oV zx bx rx cx)/\Below W.heap.size W w'):=fun W=>by
  have:=of_spec f k W (by omega)
  rw[hx]at this;exact this
 have HX0:Hid (cx=0->Made f k (piecesR f k) zx bx rx):=fun hc=>by
  obtain⟨q1,q2,q3,q4⟩:=of_ok hx hc
  have:=made_of w q1
  rw[<-q2,<-q4]at this;rw[q3];exact this
 clear hx;unfold oV at HOI HOS
 go_wp2_with fail
 refine(HOI.o _ B1.o).mono ?_;rintro e w2 ⟨rfl,hb⟩;have C2:=hideK (((⟨low_keep B1.o hb,fun _ h=>absurd h List.not_mem_nil⟩:Cx w w2 []).new (.cells #[.int .i64 zx,.int .i64 bx,.string rx,.int .i64 cx] 28)));clear hb B1 HOI
 go_upto_region 5 with fail
 generalize w2.alloc _=W2 at C2 ⊢;generalize w2.heap.size=gx at C2 ⊢
 go_wp2_with fail
 refine(drawListBytes_any a1 len1 cap1 _ hl1 (row_keep R1.o C2.o.low) ofC pcC).mono ?_;rintro e w3 ⟨zb,bb,rb,rfl,hrb,hb⟩;have C3:=hideK ((C2.o.call hb).new (.cells #[.int .i64 zb,.int .i64 bb,.string rb] 26));clear hb C2
 go_upto_region 6 with fail
 generalize w3.alloc _=W3 at C3 ⊢;generalize w3.heap.size=gb at C3 ⊢;obtain⟨y0,y1,y2⟩:=cells3 (C3.o.get 0 rfl)
 go_wp2_with fail
 refine(bytes_impl zb bb rb _).mono ?_;rintro e w4 ⟨rfl,hb⟩;have C4:=hideK (C3.o.call hb);clear hb C3 y0 y1 y2;have HBS:Hid (∀ W,Calls Tryz.prog 13 #[.agg #[.int .i64 zb,.int .i64 bb,.string rb]] W fun e w'=>e=.returned (.string (bytesL zb bb rb))/\Below W.heap.size W w'):=fun W=>bytes_spec zb bb rb W
 have HBT:Hid ((¬(bytesL zb bb rb).toList=[]/\readV (bytesL zb bb rb)=oV zb bb rb 0)∨bytesL zb bb rb=⟨#[]⟩):=by
  cases hr:rightB zb bb rb with
  |true=>exact .inl ⟨bytes_ne hr,read_back hr⟩
  |false=>exact .inr (bytesL_no hr)
 have HBZ:(bytesL zb bb rb).size<=62:=Dr.bytesL_size;generalize bytesL zb bb rb=t at HBS HBT HBZ ⊢
 go_wp2_with fail
 refine(drawListRead_any a1 len1 cap1 _ hl1 (row_keep R1.o C4.o.low) ofC pcC).mono ?_;rintro e w5 ⟨u,hu,rfl,hb⟩;have C5:=hideK (C4.o.call hb);clear hb C4;obtain⟨zy,iy,ry,cy,hy⟩:=readV_form u
 have HRI:Hid (∀ W,Below w.heap.size w W->Calls Tryz.prog 9 #[.string u] W fun e w'=>e=.returned (oV zy iy ry cy)/\Below W.heap.size W w'):=fun W hW=>by
  have:=read_impl u W (by omega) (hh_keep HHH.o hW)
  rw[hy]at this;exact this
 have HRS:Hid (∀ W,Calls Tryz.prog 14 #[.string u] W fun e w'=>e=.returned (oV zy iy ry cy)/\Below W.heap.size W w'):=fun W=>by
  have:=read_spec u W (by omega)
  rw[hy]at this;exact this
 have HYU:Hid (cy=0->bytesL zy iy ry=u):=fun hc=>by
  refine bytes_read ?_;rw[hy,hc]
 clear hy;unfold oV at HRI HRS
 go_wp2_with fail
 refine(HRI.o _ C5.o.low).mono ?_;rintro e w6 ⟨rfl,hb⟩;have C6:=hideK ((C5.o.call hb).new (.cells #[.int .i64 zy,.int .i64 iy,.string ry,.int .i64 cy] 28));clear hb C5
 go_upto_region 9 with fail
 generalize w6.alloc _=W6 at C6 ⊢;generalize w6.heap.size=gy at C6 ⊢
 go_wp2_with fail
 refine(drawFile_any a1 len1 cap1 _ hl1 (row_keep R1.o C6.o.low) ofC pcC pkC).mono ?_;rintro e w7 ⟨zf,bf,rf,vp,p,rfl,hrf,hop,hpl,hps,hb⟩;obtain⟨ap,cp,hvp,hcp,hsp⟩:=hop.strs;subst hvp;have L7:Below w7.heap.size w7 (w7.alloc (.cells #[.int .i64 zf,.int .i64 bf,.string rf] 26)):=(Below.refl _ _).alloc nl _;have SP7:=hideK (strs_keep hsp L7);have C7:=hideK ((C6.o.call hb).new (.cells #[.int .i64 zf,.int .i64 bf,.string rf] 26));clear hb hop hsp L7 C6
 go_upto_region 10 with fail
 generalize w7.alloc _=W7 at C7 SP7 ⊢;generalize w7.heap.size=gf at C7 ⊢
 go_wp2_with fail
 refine(drawFits_any a0 len0 cap0 _ hl0 (row_keep R0.o C7.o.low) ofC pcC).mono ?_;rintro e w8 ⟨zl,bl,rl,il,tl,vl,q,rfl,hrl,htl,hoq,hql,hb⟩;obtain⟨aq,cq,hvq,hcq,hsq⟩:=hoq.strs;subst hvq;have L8:Below w8.heap.size w8 (w8.alloc (.cells #[.int .i64 zl,.int .i64 bl,.string rl] 26)):=(Below.refl _ _).alloc nl _;have SQ8:=hideK (strs_keep hsq L8);have SP8:=hideK (strs_keep (strs_keep SP7.o hb) L8);have C8:=hideK ((C7.o.call hb).new (.cells #[.int .i64 zl,.int .i64 bl,.string rl] 26));clear hb hoq hsq L8 C7 SP7
 go_upto_region 11 with fail
 generalize w8.alloc _=W8 at C8 SQ8 SP8 ⊢;generalize w8.heap.size=gl at C8 ⊢;have HFI:Hid (∀ W,Below W8.heap.size W8 W->Calls Tryz.prog 15 #[.agg #[.int .i64 zf,.int .i64 bf,.string rf],.slice ap p.length cp] W fun e w'=>e=.returned (.string (fileV zf bf rf p))/\Below W.heap.size W w'):=fun W hW=>file_impl zf bf rf p ap cp p.length ga W rfl (by omega) (strs_keep SP8.o hW) hps (glob_keep HG.o (low_keep C8.o.low hW));have HFS:Hid (∀ W,Below W8.heap.size W8 W->Calls Tryz.prog 16 #[.agg #[.int .i64 zf,.int .i64 bf,.string rf],.slice ap p.length cp] W fun e w'=>e=.returned (.string (fileV zf bf rf p))/\Below W.heap.size W w'):=fun W hW=>file_spec zf bf rf p ap cp p.length W rfl (by omega) (strs_keep SP8.o hW) hps;have HTI:Hid (∀ W,Below W8.heap.size W8 W->Calls Tryz.prog 17 #[.agg #[.int .i64 zl,.int .i64 bl,.string rl],.int .i64 il,.string tl,.slice aq q.length cq] W fun e w'=>e=.returned (.bool (fitsB zl bl rl il tl q))/\Below W.heap.size W w'):=fun W hW=>fits_impl zl bl rl il tl q aq cq q.length W (by unfold maxLen;omega) rfl (by omega) hcq (strs_keep SQ8.o hW) (vars_keepF HV.o (low_keep C8.o.low hW));have HTS:Hid (∀ W,Below W8.heap.size W8 W->Calls Tryz.prog 18 #[.agg #[.int .i64 zl,.int .i64 bl,.string rl],.int .i64 il,.string tl,.slice aq q.length cq] W fun e w'=>e=.returned (.bool (fitsB zl bl rl il tl q))/\Below W.heap.size W w'):=fun W hW=>fits_spec zl bl rl il tl q aq cq q.length W rfl (by omega) (strs_keep SQ8.o hW);have HLI:Hid (∀ W,Calls Tryz.prog 19 #[.agg #[.int .i64 zb,.int .i64 bb,.string rb]] W fun e w'=>e=.returned (.bool (rightB zb bb rb))/\Below W.heap.size W w'):=fun W=>right_impl zb bb rb W;have HLS:Hid (∀ W,Calls Tryz.prog 20 #[.agg #[.int .i64 zb,.int .i64 bb,.string rb]] W fun e w'=>e=.returned (.bool (rightB zb bb rb))/\Below W.heap.size W w'):=fun W=>right_spec zb bb rb W;have HCI:Hid (∀ W,Calls Tryz.prog 21 #[.agg #[.int .i64 zb,.int .i64 bb,.string rb]] W fun e w'=>e=.returned (.int .i64 ((countN zb bb rb:Nat):Int))/\Below W.heap.size W w'):=fun W=>count_impl zb bb rb W;have HCS:Hid (∀ W,Calls Tryz.prog 22 #[.agg #[.int .i64 zb,.int .i64 bb,.string rb]] W fun e w'=>e=.returned (.int .i64 ((countN zb bb rb:Nat):Int))/\Below W.heap.size W w'):=fun W=>count_spec zb bb rb W;generalize fileV zf bf rf p=fv at HFI HFS;generalize fitsB zl bl rl il tl q=fb at HTI HTS;generalize rightB zb bb rb=rr at HLI HLS;generalize ((countN zb bb rb:Nat):Int)=cn at HCI HCS;clear hrl htl hql hrf hpl hps hcq hcp SP8 SQ8 hrb hk0 hk1
 go_cut [110] from 58 to 110 (fun s110 wx=>s110=.bool false/\Below W8.heap.size W8 wx)
 case first =>
  obtain⟨l0,l1,l2⟩:=cells3 (C8.o.get 0 rfl);obtain⟨e0,e1,e2⟩:=cells3 (C8.o.get 1 rfl);obtain⟨y0,y1,y2,y3⟩:=cells4 (C8.o.get 2 rfl);obtain⟨b0,b1,b2⟩:=cells3 (C8.o.get 3 rfl);obtain⟨x0,x1,x2,x3⟩:=cells4 (C8.o.get 4 rfl);have gl0:=fun d os=>cell_regrown l0 d os;have gl1:=fun d os=>cell_regrown l1 d os;have gl2:=fun d os=>cell_regrown l2 d os;have ge0:=fun d os=>cell_regrown e0 d os;have ge1:=fun d os=>cell_regrown e1 d os;have ge2:=fun d os=>cell_regrown e2 d os;have gy0:=fun d os=>cell_regrown y0 d os;have gy1:=fun d os=>cell_regrown y1 d os;have gy2:=fun d os=>cell_regrown y2 d os;have gy3:=fun d os=>cell_regrown y3 d os;have gb0:=fun d os=>cell_regrown b0 d os;have gb1:=fun d os=>cell_regrown b1 d os;have gb2:=fun d os=>cell_regrown b2 d os;have gx0:=fun d os=>cell_regrown x0 d os;have gx1:=fun d os=>cell_regrown x1 d os;have gx2:=fun d os=>cell_regrown x2 d os;have gx3:=fun d os=>cell_regrown x3 d os;have hmx:=Ls.mixed;refine wp_region_quiet_below (by assumption) (by kernel_rfl) ?_
  repeat (go_big_quiet_step ((first|(go_at_call 12;(with_reducible exact Calls.regrown_of (HOS.o _)))|(go_at_call 13;(with_reducible exact Calls.regrown_of (HBS.o _)))|(go_at_call 14;(with_reducible exact Calls.regrown_of (HRS.o _)))|(go_at_call 15;(with_reducible exact Calls.regrown_of (HFI.o _ (below_regrown _ _ _))))|(go_at_call 16;(with_reducible exact Calls.regrown_of (HFS.o _ (below_regrown _ _ _))))|(go_at_call 17;(with_reducible exact Calls.regrown_of (HTI.o _ (below_regrown _ _ _))))|(go_at_call 18;(with_reducible exact Calls.regrown_of (HTS.o _ (below_regrown _ _ _))))|(go_at_call 19;(with_reducible exact Calls.regrown_of (HLI.o _)))|(go_at_call 20;(with_reducible exact Calls.regrown_of (HLS.o _)))|(go_at_call 21;(with_reducible exact Calls.regrown_of (HCI.o _)))|(go_at_call 22;(with_reducible exact Calls.regrown_of (HCS.o _))))))
  refine wpQuiet_nil ?_;intro _ hw';obtain⟨⟨dq,osq⟩,hw''⟩:=hw';subst hw'';have KQ:=hideK (below_regrown W8 dq osq);generalize Go.Sort.grow (redrawn W8 dq) osq=w9 at KQ ⊢;clear gl0 gl1 gl2 ge0 ge1 ge2 gy0 gy1 gy2 gy3 gb0 gb1 gb2 gx0 gx1 gx2 gx3
  try go_wp2_with fail
  go_meet
  exact⟨by first|rfl|simp,KQ.o⟩
 case rest =>
  obtain⟨rfl,hbc⟩:=hcut;have C9:=hideK (C8.o.call hbc);clear hbc C8 HFI HFS HTI HTS HLI HLS HCI HCS HOS HBS HRS HRI
  have HRT:Hid (readV t=oV zb bb rb 0->∀ W,Below w.heap.size w W->Calls Tryz.prog 9 #[.string t] W fun e w'=>e=.returned (.agg #[.int .i64 zb,.int .i64 bb,.string rb,.int .i64 0])/\Below W.heap.size W w'):=fun h W hW=>by
   have:=read_impl t W (by omega) (hh_keep HHH.o hW)
   rw[h]at this;exact this
  have HBU:Hid (cy=0->∀ W,Calls Tryz.prog 7 #[.agg #[.int .i64 zy,.int .i64 iy,.string ry]] W fun e w'=>e=.returned (.string u)/\Below W.heap.size W w'):=fun h W=>by
   have:=bytes_impl zy iy ry W
   rw[HYU.o h]at this;exact this
  go_upto_region 13 with fail
  go_cut [131] from 111 to 131 (fun s131 wx=>s131=.bool false/\Below wc.heap.size wc wx)
  case first =>
   obtain⟨y0,y1,y2,y3⟩:=cells4 (C9.o.get 2 rfl);obtain⟨b0,b1,b2⟩:=cells3 (C9.o.get 3 rfl);have gy0:=fun d os=>cell_regrown y0 d os;have gy1:=fun d os=>cell_regrown y1 d os;have gy2:=fun d os=>cell_regrown y2 d os;have gy3:=fun d os=>cell_regrown y3 d os;have gb0:=fun d os=>cell_regrown b0 d os;have gb1:=fun d os=>cell_regrown b1 d os;have gb2:=fun d os=>cell_regrown b2 d os;have hmx:=Ls.mixed
   rcases HBT.o with⟨hne,hrd⟩|ht<;>by_cases hcy:cy=0
   all_goals (
    first|(have HR1:=hideK (HRT.o hrd);clear hrd;have hb1:(t.toList == [])=false:=(by rw[beq_eq_false_iff_ne];exact hne);have hb2:(t.toList != [])=true:=(by rw[bne,hb1];rfl);have hb3:decide (t.toList=[])=false:=decide_eq_false hne;have hb4:t.toList.isEmpty=false:=(by rw[List.isEmpty_eq_false_iff];exact hne))|(subst ht;have HR1:=HBT)
    first|(subst hcy;have HU1:=hideK (HBU.o rfl))|(have hcy':(cy==0)=false:=(by simp;exact hcy);have HU1:=HBU)
    refine wp_region_quiet_below (by assumption) (by kernel_rfl) ?_
    repeat (go_big_quiet_step ((first|(go_at_call 9;(with_reducible exact Calls.regrown_of (HR1.o _ (low_keep C9.o.low (below_regrown _ _ _)))))|(go_at_call 7;(with_reducible exact Calls.regrown_of (HU1.o _))))))
    refine wpQuiet_nil ?_;intro _ hw';obtain⟨⟨dq,osq⟩,hw''⟩:=hw';subst hw'';have KQ:=hideK (below_regrown wc dq osq);generalize Go.Sort.grow (redrawn wc dq) osq=w9 at KQ ⊢;clear gy0 gy1 gy2 gy3 gb0 gb1 gb2
    try go_wp2_with fail
    go_meet
    exact⟨by first|rfl|simp,KQ.o⟩)
  case rest =>
   obtain⟨rfl,hbd⟩:=hcut;have X10:=hideK ((C9.o.call hbd).get 4 rfl);have B10:=hideK (C9.o.call hbd).low;clear hbd C9 HRT HBU HBT HYU;obtain⟨x0,x1,x2,x3⟩:=cells4 X10.o;by_cases hcx:cx=0
   ·subst hcx
    by_cases hf2:f.size<=200
    ·have hf2':¬(200:Int)<(f.size:Int):=by omega
     have hf2d:decide ((200:Int)<(f.size:Int))=false:=by simp;omega
     have M:=hideK (HX0.o rfl);(go_wp2_with fail);refine(pieces_spec f k _ (by omega)).mono ?_;rintro e w11 ⟨v11,rfl,ho,hb⟩;have X11:=hideK (blk_keep X10.o hb);have B11:=hideK (low_keep B10.o hb);clear hb X10 B10 x0 x1 x2 x3 HX0 hf;generalize piecesR f k=P at ho M ⊢
     obtain⟨al,cl,hv,hcl,hsl,hal⟩:∃ al cl,v11=.slice al P.length cl/\P.length<=cl/\Strs w11 w11.heap.size al P/\((al=none/\P.length=0/\cl=0)∨∃ g,al=some ⟨g,0,none⟩):=by
      obtain⟨al,cl,hv,hcl,hsl⟩:=ho.strs;refine⟨al,cl,hv,hcl,hsl,?_⟩
      rcases ho.split with⟨h1,h2⟩|⟨g,c',h1,_⟩
      ·rw[hv]at h1
       simp at h1;exact .inl ⟨h1.1,by rw[h2];rfl,h1.2.2⟩
      ·rw[hv]at h1
       simp at h1;exact .inr ⟨g,h1.1⟩
     subst hv;have S11:=hideK hsl;have HAL:=hideK hal;clear ho hsl hal;obtain⟨n,hn⟩:∃ n,n=P.length:=⟨_,rfl⟩;rw[<-hn]at hcl HAL ⊢;have HN:=hideK hn;have hn64:n<=64:=(by rw[hn];exact M.o.few);clear hn;(go_wp2_with fail)
     go_loopw [19] (fun iv wr=>∃ j:Nat,iv=.int .i64 j/\j<=n/\Below w11.heap.size w11 wr) (fun iv _=>n-(intOf iv).toNat)
     case atStart=>exact⟨0,rfl,Nat.zero_le _,Below.refl _ _⟩
     case round =>
      obtain⟨j,rfl,hj,hbw⟩:=hrel;have KW:=hideK hbw;have XW:=hideK (blk_keep X11.o hbw);have SW:=hideK (strs_keep S11.o hbw);clear hbw;have hwj:IntKind.i64.wrap ((j:Int)+1)=(j:Int)+1:=(by rw[IntKind.wrap_i64];omega);by_cases hlt:j<n
      ·have hlti:(j:Int)<(n:Int):=by omega
       have hltd:decide ((j:Int)<(n:Int))=true:=by simp;omega
       have hjl:j<P.length:=by rw[<-HN.o];exact hlt
       obtain⟨bb2,off,ha,_,hcells⟩:=strs_someL SW.o (by omega);subst ha;have ci:=hcells j hjl;have HPA:Hid (∀ W,Below wr.heap.size wr W->Calls Tryz.prog 24 #[.slice (some ⟨bb2,off,none⟩) n cl,.int .i64 j] W fun e w'=>∃ v,e=.returned v/\OwnS w' W.heap.size v (pathR P j)/\Below W.heap.size W w'):=fun W hW=>pathOf_spec P n j _ cl W.heap.size W HN.o.symm hcl (by omega) (strs_keep SW.o hW) nl
       have HFT:Hid (∀ W v b',Below wr.heap.size wr W->OwnS W b' v (pathR P j)->Calls Tryz.prog 17 #[.agg #[.int .i64 zx,.int .i64 bx,.string rx],.int .i64 j,.string P[j],v] W fun e w'=>e=.returned (.bool true)/\Below W.heap.size W w'):=fun W v b' hW ho=>by
        obtain⟨aq,cq,hv,hcq,hsq⟩:=ho.strs;subst hv;have h1:=M.o.sz P[j] (List.getElem_mem hjl);have h2:=Tr.pathR_length P j;have h3:=fits_impl zx bx rx j P[j] (pathR P j) aq cq (pathR P j).length W (by unfold maxLen;omega) rfl (by have:=HN.o;omega) hcq hsq (vars_keepF HV.o (low_keep (low_keep B11.o KW.o) hW));rw[M.o.fit j hjl]at h3;exact h3
       have CW:Hid (∀ W,Below wr.heap.size wr W->W.cell? ⟨gx,0,none⟩=some (.int .i64 zx)/\W.cell? ⟨gx,1,none⟩=some (.int .i64 bx)/\W.cell? ⟨gx,2,none⟩=some (.string rx)/\W.cell? ⟨bb2,off+j,none⟩=some (.string P[j])):=fun W hW=>by
        obtain⟨e0,e1,e2,_⟩:=cells4 (blk_keep XW.o hW);exact⟨e0,e1,e2,(World.cell?_of_block (w:=wr) (a:=⟨bb2,off+j,none⟩) (hW.block bb2 (by assumption))).trans ci⟩
       generalize P[j]=pj at HFT CW;clear hcells ci M;have hjn:¬(n:Int)<=(j:Int):=(by omega);have hj0:(0:Int)<=(j:Int):=(by omega);obtain⟨c0,c1,c2,c3⟩:=CW.o _ (Below.refl _ _)
       go_upto_region 21 with fail
       have K0:Hid (Below wr.heap.size wr wr.drew):=(Below.refl _ _).drew;have hS0:=CW.o _ K0.o
       go_region_held3 (fun W=>W.cell? ⟨gx,0,none⟩=some (.int .i64 zx)/\W.cell? ⟨gx,1,none⟩=some (.int .i64 bx)/\W.cell? ⟨gx,2,none⟩=some (.string rx)/\W.cell? ⟨bb2,off+j,none⟩=some (.string pj)) (assumption) (first|(go_at_call 24;(with_reducible refine(HPA.o _ K0.o).mono ?_);rintro e v1 ⟨pv,rfl,ho,hb⟩;have K1:=hideK (low_keep K0.o hb);have hS1:=CW.o _ K1.o;have O1:=hideK ho;clear hb ho)|(go_at_call 17;(with_reducible refine(HFT.o _ _ _ K1.o O1.o).mono ?_);rintro e v2 ⟨rfl,hb⟩;have K2:=hideK (low_keep KW.o (low_keep K1.o hb));have hS2:=CW.o _ (low_keep K1.o hb);clear hb))
       all_goals (try go_wp2_with fail)
       all_goals (first|(go_roundw;(case rel=>exact⟨j+1,by go_num,by omega,K2.o⟩);(case measure=>simp[intOf];omega))|(exact⟨⟨j+1,by go_num,by omega,K2.o⟩,by simp[intOf];omega⟩))
      ·obtain rfl:j=n:=by omega
       have hlti:¬(j:Int)<(j:Int):=by omega
       have hltd:decide ((j:Int)<(j:Int))=false:=by simp
       have RW:=hideK (row_keep R1.o (low_keep B11.o KW.o));(go_wp2_with fail);refine(at_any _ a1 len1 cap1 0 ((j:Int)+1) _ hl1 (by omega) (by omega) RW.o).mono ?_;rintro e w12 ⟨r12,rfl,q0,q1,hw12⟩;subst w12;obtain⟨m,rfl⟩:=Int.eq_ofNat_of_zero_le q0;have hm:m<=j:=(by omega);have hmi:(m:Int)<=(j:Int):=(by omega);have hmc:(m:Int)<=(cl:Int):=(by omega);clear q0 q1
       have HSZ:Hid (∀ x∈P,x.size<=1048576):=fun x hx=>by have:=M.o.sz x hx;omega
       have GW:=hideK (glob_keep HG.o (low_keep B11.o KW.o));have HF1:Hid (∀ W,Below wr.heap.size wr W->Calls Tryz.prog 15 #[.agg #[.int .i64 zx,.int .i64 bx,.string rx],.slice al m cl] W fun e w'=>e=.returned (.string (fileV zx bx rx (P.take m)))/\Below W.heap.size W w'):=fun W hW=>file_impl zx bx rx (P.take m) al cl m ga W (by rw[List.length_take];have:=HN.o;omega) (by omega) (strs_takeL (strs_keep SW.o hW) m) (fun x hx=>HSZ.o x (List.mem_of_mem_take hx)) (glob_keep GW.o hW)
       have HF2:Hid (∀ W,Below wr.heap.size wr W->Calls Tryz.prog 15 #[.agg #[.int .i64 zx,.int .i64 bx,.string rx],.slice al j cl] W fun e w'=>e=.returned (.string f)/\Below W.heap.size W w'):=fun W hW=>by
        have:=file_impl zx bx rx P al cl j ga W HN.o (by omega) (strs_keep SW.o hW) HSZ.o (glob_keep GW.o hW)
        rw[M.o.all]at this;exact this
       have HC2:Hid (∀ W,Calls Tryz.prog 21 #[.agg #[.int .i64 zx,.int .i64 bx,.string rx]] W fun e w'=>e=.returned (.int .i64 (j:Int))/\Below W.heap.size W w'):=fun W=>by
        have:=count_impl zx bx rx W
        rw[M.o.cnt,<-HN.o]at this;exact this
       obtain⟨hp1,hp2⟩:=M.o.pre m;generalize fileV zx bx rx (P.take m)=pt at HF1 hp1 hp2;have hp1i:(pt.size:Int)<=(f.size:Int):=(by omega);have hp1d:decide ((pt.size:Int)<=(f.size:Int))=true:=(by simp;omega);clear HSZ GW M SW S11
       have CW:Hid (∀ W,Below wr.heap.size wr W->W.cell? ⟨gx,0,none⟩=some (.int .i64 zx)/\W.cell? ⟨gx,1,none⟩=some (.int .i64 bx)/\W.cell? ⟨gx,2,none⟩=some (.string rx)):=fun W hW=>by
        obtain⟨e0,e1,e2,_⟩:=cells4 (blk_keep XW.o hW);exact⟨e0,e1,e2⟩
       obtain⟨c0,c1,c2⟩:=CW.o _ (Below.refl _ _);have HP2:=hideK hp2;clear hp2;have hal2:=HAL.o
       rcases hal2 with⟨rfl,rfl,rfl⟩|⟨gq,rfl⟩
       ·obtain rfl:m=0:=by omega
        go_upto_region 24 with fail
        have K0:Hid (Below wr.heap.size wr wr.drew):=(Below.refl _ _).drew;have hS0:=CW.o _ K0.o
        go_region_held3 (fun W=>W.cell? ⟨gx,0,none⟩=some (.int .i64 zx)/\W.cell? ⟨gx,1,none⟩=some (.int .i64 bx)/\W.cell? ⟨gx,2,none⟩=some (.string rx)) (assumption) ((go_at_call 15;(with_reducible refine(HF1.o _ K0.o).mono ?_);rintro e v1 ⟨rfl,hb⟩;have K1:=hideK (low_keep K0.o hb);have hS1:=CW.o _ K1.o;clear hb))
        all_goals (
         clear c0 c1 c2 hS0;obtain⟨i0,i1,i2⟩:=hS1;(go_wp2_with fail);refine(HC2.o _).mono ?_;rintro e v3 ⟨rfl,hb⟩;have K3:=hideK (low_keep K1.o hb);clear hb i0 i1 i2;obtain⟨j0,j1,j2⟩:=CW.o _ K3.o;(go_wp2_with fail);refine(HF2.o _ K3.o).mono ?_;rintro e v4 ⟨rfl,hb⟩;have B4:=hideK (low_keep (low_keep B11.o KW.o) (low_keep K3.o hb));clear hb j0 j1 j2;have hp2:=HP2.o;(go_wp2_with fail);go_ret
         exact⟨by first|rfl|simp|(simp[HP2.o]),B4.o⟩)
       ·go_upto_region 24 with fail
        have K0:Hid (Below wr.heap.size wr wr.drew):=(Below.refl _ _).drew;have hS0:=CW.o _ K0.o
        go_region_held3 (fun W=>W.cell? ⟨gx,0,none⟩=some (.int .i64 zx)/\W.cell? ⟨gx,1,none⟩=some (.int .i64 bx)/\W.cell? ⟨gx,2,none⟩=some (.string rx)) (assumption) ((go_at_call 15;(with_reducible refine(HF1.o _ K0.o).mono ?_);rintro e v1 ⟨rfl,hb⟩;have K1:=hideK (low_keep K0.o hb);have hS1:=CW.o _ K1.o;clear hb))
        all_goals (
         clear c0 c1 c2 hS0;obtain⟨i0,i1,i2⟩:=hS1;(go_wp2_with fail);refine(HC2.o _).mono ?_;rintro e v3 ⟨rfl,hb⟩;have K3:=hideK (low_keep K1.o hb);clear hb i0 i1 i2;obtain⟨j0,j1,j2⟩:=CW.o _ K3.o;(go_wp2_with fail);refine(HF2.o _ K3.o).mono ?_;rintro e v4 ⟨rfl,hb⟩;have B4:=hideK (low_keep (low_keep B11.o KW.o) (low_keep K3.o hb));clear hb j0 j1 j2;have hp2:=HP2.o;(go_wp2_with fail);go_ret
         exact⟨by first|rfl|simp|(simp[HP2.o]),B4.o⟩)
    ·have hf2':(200:Int)<(f.size:Int):=by omega
     have hf2d:decide ((200:Int)<(f.size:Int))=true:=by simp;omega
     (go_wp2_with fail);go_ret;exact⟨rfl,B10.o⟩
   ·have hcx':(cx != 0)=true:=by simpa using hcx
    (go_wp2_with fail);go_ret;exact⟨rfl,B10.o⟩
end fnList
namespace fnList
open Dr (row_of IsRow)
theorem walk (a0:Option Addr) (len0 cap0:Nat) (z0:List Int) {w:World} (w0:IsRow .u8 w a0 len0 cap0 z0) (a1:Option Addr) (len1 cap1:Nat) (z1:List Int) (w1:IsRow .u8 w a1 len1 cap1 z1) (hh:Ls.HH w) (hV:Sh.Vars w) (ga:Addr) (hG:Up.Glob w (.iface 258 (.pointer (some ga)))) :
  Calls Tryz.prog 3 #[.slice a0 len0 cap0,.slice a1 len1 cap1] w fun e w'=>e=.returned (.bool true)/\Below w.heap.size w w':=by
 by_cases h0:len0<=1048576
 ·by_cases h1:len1<=1048576
  ·exact walk_in w a0 len0 cap0 a1 len1 cap1 (row_of w0) (row_of w1) h0 h1 hh hV ga hG
  ·clear w0 w1 hG hh hV
   have g0:(len0:Int)<=1048576:=by omega
   have g1:(1048576:Int)<len1:=by omega
   go_enter Tryz.func3,Tryz.ntmps3
   go_wp2
   go_ret;exact⟨rfl,Below.refl _ _⟩
 ·clear w0 w1 hG hh hV
  have g0:(1048576:Int)<len0:=by omega
  go_enter Tryz.func3,Tryz.ntmps3
  go_wp2
  go_ret;exact⟨rfl,Below.refl _ _⟩
end fnList
namespace fnList
open Go.ChangeShapes Go.WideShapes Go.ChangeAt Go.RowKit
open Go.ChangeMaps (open_string shut_string)
open Dr (IsRow)
set_option linter.unusedVariables false
theorem own:ownKnob Tryz.prog.godebug=none:=by kernel_rfl
theorem laidOut:laidOutB Tryz.prog=true:=by kernel_rfl
theorem rowed:varsRowed Tryz.prog Rows.fnListSpec.vars=true:=by kernel_rfl
theorem door_met (os:Os) (args:Array Value):laidMetH Tryz.prog Rows.fnListRow.laid ((World.doorLaid Tryz.prog 400 os).forCall (fun _ _=>0) ⟨#[],args,[]⟩).memory :=
 laidMetH_of_parts3 (fuel:=8) (laidMet_of_run' 8 (by kernel_rfl) (by kernel_rfl)) (by kernel_rfl) (by kernel_rfl)
theorem lifted (os:Os) (started:os.Started) (H:Type) (enc:TypeId × Value->H) :
  ReturnsInHanded {} Tryz.checked os 3 .any (fun w args=>(Rows.fnListSpec.pre enc Tryz.prog Tryz.f3 [] false w args/\laidMetH Tryz.prog Rows.fnListRow.laid w)/\sizedMet enc Tryz.prog Tryz.f3 (OpenSpec.ofChange Rows.fnListSpec) false w args)
   (Rows.fnListSpec.post enc Tryz.prog Tryz.f3 false true false false):=by
 refine returnsInHanded_of_change_and (C:=Tryz.checked) (X:=fun w _=>laidMetH Tryz.prog Rows.fnListRow.laid w) (fun _ _ _ hh h=>h.of_heap hh) own started (by kernel_rfl) Tryz.func3
  (ChangeSpec.witness_shaped (enc:=enc) (C:=Tryz.checked) (os:=os) (X:=fun w _=>laidMetH Tryz.prog Rows.fnListRow.laid w) false (World.doorLaid Tryz.prog 400 os) #[.slice none 0 0,.slice none 0 0] 8 rfl (World.shaped_of_RefB (by kernel_rfl) (by kernel_rfl)) (by kernel_rfl) (by kernel_rfl) (by kernel_rfl) (door_met os _)) ?_
 intro W base args ds gs before hval0 hW _ _ hL _;have hval:∀ (j:Nat) t v,Tryz.f3.params[j]? = some t->args[j]? = some v->Value.okWide Tryz.prog W .any base t v:=hval0;have hW':=hW;obtain⟨p,q,hA0,hV,rfl,hfz,hnd⟩:=hW;have hA:DataW.TrodAll enc Tryz.prog W 0 (fun _=>true) true Tryz.f3.params.toList args.toList ds p:=hA0;rw[Tryz.params3]at hA hval;obtain⟨v0,vs0,d0,ds0,p0,q0,hargs,rfl,rfl,h0,r0⟩:=trodAll_cons hA;obtain⟨v1,vs1,d1,ds1,p1,q1,rfl,rfl,rfl,h1,r1⟩:=trodAll_cons r0;obtain⟨rfl,rfl,rfl⟩:=trodAll_nil r1
 obtain rfl:args=#[v0,v1]:=by cases args;simp_all
 obtain⟨d7,d8,d9,hgs⟩:=Up.list3 (Up.trodVars_length (show DataW.TrodVars enc Tryz.prog W (fun _=>true) ["loop.example/g00550/impl.firstState","loop.example/g00550/impl.roundNumbers","loop.example/g00550/impl.errNoBlock"] gs q from hV));subst hgs;obtain⟨a0,len0,cap0,rfl⟩:=okWide_slice Tryz.underlying22 (hval 0 22 v0 rfl rfl);have k0:=h0
 have lt0:∀ x∈p0,x.block<W.heap.size:=by obtain⟨m,hm⟩:=k0;exact DataW.trod_lt m _ _ _ hm
 obtain⟨z0,w0⟩:∃ zs,IsRow .u8 W a0 len0 cap0 zs:=by
  obtain⟨fuel,hf⟩:=h0
  rcases open_ints Tryz.underlying22 Tryz.underlying5 (by kernel_rfl) hf with⟨hcs,_⟩|⟨x,l,c,zs,hcs,_,hl,hm,hz,_,hcell,hwz⟩
  ·simp[Value.cells]at hcs
   obtain⟨rfl,rfl,rfl⟩:=hcs;exact⟨[],.inl ⟨rfl,rfl,rfl,rfl⟩⟩
  ·simp[Value.cells]at hcs
   obtain⟨rfl,rfl,rfl⟩:=hcs;exact⟨zs,.inr ⟨_,rfl,hl,hm,by simpa using hz,hcell,hwz⟩⟩
 obtain⟨a1,len1,cap1,rfl⟩:=okWide_slice Tryz.underlying22 (hval 1 22 v1 rfl rfl);have k1:=h1
 have lt1:∀ x∈p1,x.block<W.heap.size:=by obtain⟨m,hm⟩:=k1;exact DataW.trod_lt m _ _ _ hm
 obtain⟨z1,w1⟩:∃ zs,IsRow .u8 W a1 len1 cap1 zs:=by
  obtain⟨fuel,hf⟩:=h1
  rcases open_ints Tryz.underlying22 Tryz.underlying5 (by kernel_rfl) hf with⟨hcs,_⟩|⟨x,l,c,zs,hcs,_,hl,hm,hz,_,hcell,hwz⟩
  ·simp[Value.cells]at hcs
   obtain⟨rfl,rfl,rfl⟩:=hcs;exact⟨[],.inl ⟨rfl,rfl,rfl,rfl⟩⟩
  ·simp[Value.cells]at hcs
   obtain⟨rfl,rfl,rfl⟩:=hcs;exact⟨zs,.inr ⟨_,rfl,hl,hm,by simpa using hz,hcell,hwz⟩⟩
 obtain⟨hh,hg,ga,hG⟩:=Kp.all_of_laid hL;clear hA0 hval0;refine(walk a0 len0 cap0 z0 w0 a1 len1 cap1 z1 w1 hh hg ga hG).mono fun e W' ⟨he,bel⟩=>?_;subst he;exact⟨_,rfl,_,_,_,[],_,_,hW',trodAll_mk1 (shut_bool Tryz.underlying4 _),(trodAll_cons_mk (Below.trod laidOut (by kernel_rfl) (of_decide_eq_true (by kernel_rfl)) k0 bel lt0) (trodAll_cons_mk (Below.trod laidOut (by kernel_rfl) (of_decide_eq_true (by kernel_rfl)) k1 bel lt1) trodAll_mk0)),Below.trodVars laidOut bel rowed hV,bel.frame _,fun h=>by cases h⟩
end fnList
end Go.Proofs.YtaejgfdkfcmjeaaGreatDoor
