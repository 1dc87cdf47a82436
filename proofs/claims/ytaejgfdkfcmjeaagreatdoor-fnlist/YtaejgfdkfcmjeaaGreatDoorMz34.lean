import Derived.Test.YtaejgfdkfcmjeaaGreatDoorMz31
import Derived.Test.YtaejgfdkfcmjeaaGreatDoorMz33
import Derived.Test.YtaejgfdkfcmjeaaGreatDoorMz43
import Derived.Deep.CutRange
import Derived.Deep.RegionHeld3
import Derived.Test.YtaejgfdkfcmjeaaGreatDoorMz22
set_option maxRecDepth 100000
set_option maxHeartbeats 8000000
namespace Go.Proofs.YtaejgfdkfcmjeaaGreatDoor
open Go.RowKit
open Go.Proofs.Tryz
namespace So
open Go.RowKit Go.Sort Go.Proofs
open Sh (bt bt_get bt_lt strF IsB made_row)
theorem turnBack_impl (t:ByteArray) (a:Nat) (w:World) (hn:t.size<=1048576) (ha:a<t.size∨t.size=0) :
  Calls prog 214 #[.string t,.int .i64 a] w fun e w'=>e=.returned (.string (backT t a))/\Below w.heap.size w w':=by
 obtain⟨i0,hi0,hz0,hz1,hz2⟩:=info_parts Nu.Tryz.infoJ5;have HPL:=hideO (places_impl t w hn);go_enter func214,ntmps214
 go_wp2_with fail
 refine HPL.o.mono ?_;rintro e w1 ⟨g,rfl,hg1,hg2,hc,hb1⟩;have HC:=hideO hc;have HB1:=hideO hb1;have z1:=hb1.size;clear hc hb1
 go_wp2_with (at_make;refine wpList_make_full _ rfl (.tmp 12) (.tmp 12) 22 rfl w1.heap.size 5 i0 (.int .u8 0) 1 underlying22 hi0 hz0 hz1 .i64 .i64 _ _ t.size rfl rfl (by simp) (by simp) (by rw[hz2];omega) (by unfold maxLen;omega) (Nat.le_refl _) ?_;intro w2 hown2 hgrow2;have HT2:=hideO (made_row hown2);have HB2:=hideO ((Below.refl w1.heap.size w1).grown hgrow2 (Nat.le_refl _) (by simp));clear hown2 hgrow2)
 go_loopw [17,7] (fun i m wr=>∃ k:Nat,i=.int .i64 k/\k<=t.size/\m=.int .i64 (itR t a k:Nat)/\IsB wr w1.heap.size 5 .u8 t.size (fun j=>((fillK t a k j:Nat):Int))/\Below w1.heap.size w1 wr) (fun i _ _=>t.size-(intOf i).toNat)
 case atStart=>exact⟨0,rfl,Nat.zero_le _,rfl,HT2.o.congr (fun j _=>by simp[fillK]),HB2.o⟩
 case round =>
  obtain⟨k,rfl,hk,rfl,hrow,hbel⟩:=hrel;have T1:=hideO hrow;have GB:=hideO hbel;have hsz:=hrow.lt;clear hbel;by_cases hlt:k<t.size
  ·have hat:a<t.size:=by omega
   have hr1:=itR_lt t a k hat;have hr2:=itR_lt t a (k+1) hat;have e0:itR t a (k+1)=plF t (itR t a k):=rfl
   have c1:wr.cell? ⟨g,itR t a k,none⟩=some (.int .i64 (itR t a (k+1):Nat)):=by
    rw[GB.o.cell (p:=⟨g,itR t a k,none⟩) hg2,e0];exact HC.o _ hr1
   have HN:=hideO (fillK_next t a k);obtain⟨p,hp⟩:∃ p,p=itR t a k:=⟨_,rfl⟩;obtain⟨q,hq⟩:∃ q,q=itR t a (k+1):=⟨_,rfl⟩;have HQ:=hideO hq;rw[<-hp,<-hq]at c1;rw[<-hq]at hr2 HN;rw[<-hp]at hr1 ⊢
   have hpz:(p:Int)<(t.size:Int):=by omega
   have hqz:(q:Int)<(t.size:Int):=by omega
   have hkz:(k:Int)<(t.size:Int):=by omega
   obtain⟨y,hy,hyt⟩:∃ y:UInt8,t[q]=y/\y.toNat=bt t q:=⟨_,rfl,bt_get _ _ hr2⟩;rw[<-hyt]at HN;have c2:=hrow.cell (j:=k) hlt;have f2:=hrow.frozen k;have TS:=hideO ((hrow.set k (y.toNat:Nat)).congr (fun j _=>HN.o j));have BS:=hideO (GB.o.setCell (p:=⟨w1.heap.size,k,none⟩) (Nat.le_refl _) (.int .u8 (y.toNat:Nat)));clear hrow hp hq hyt e0 ha
   go_wp2_with fail
   go_roundw
   case rel=>exact⟨k+1,by go_num,by omega,by rw[<-HQ.o],TS.o,BS.o⟩
   case measure=>simp[intOf];omega
  ·obtain rfl:k=t.size:=by omega
   have hcv:=hrow.str (P:=prog) (src:=22) (dst:=9) t.size t.size (Nat.le_refl _) (fun j _=>fillK_lt _ _ _ j) underlying22 underlying5 underlying9;rw[fillK_all]at hcv;have BZ:=hideO (HB1.o.trans (GB.o.mono z1));generalize itR t a t.size=m;clear hrow ha
   go_wp2_with fail
   go_ret;exact⟨rfl,BZ.o⟩
theorem isPlace_impl (t:ByteArray) (a:Int) (w:World) :
  Calls prog 213 #[.string t,.int .i64 a] w fun e w'=>e=.returned (.bool (!decide (a<0∨((t.size:Int)<=a/\0<a))))/\w'=w:=by
 by_cases h0:a=0
 ·subst h0
  rw[decide_eq_false (by omega)];go_enter func213,ntmps213
  go_wp2_with fail
  go_ret;exact⟨rfl,rfl⟩
 ·have hz:(a==0)=false:=beq_eq_false_iff_ne.2 h0
  by_cases h1:0<a
  ·have hd:decide (0<a)=true:=decide_eq_true h1
   by_cases h2:a<(t.size:Int)
   ·have hd2:decide (a<(t.size:Int))=true:=decide_eq_true h2
    rw[decide_eq_false (by omega)];clear h0;go_enter func213,ntmps213;(go_wp2_with fail);go_ret;exact⟨rfl,rfl⟩
   ·have hd2:decide (a<(t.size:Int))=false:=decide_eq_false h2
    rw[decide_eq_true (by omega)];clear h0;go_enter func213,ntmps213;(go_wp2_with fail);go_ret;exact⟨rfl,rfl⟩
  ·have hd:decide (0<a)=false:=decide_eq_false h1
   rw[decide_eq_true (by omega)];clear h0;go_enter func213,ntmps213
   go_wp2_with fail
   go_ret;exact⟨rfl,rfl⟩
end So
namespace So
open Go.RowKit Go.Sort Go.Proofs
def IsX (w:World) (g:Nat):Prop:=w.heap[g]? = some (.cells #[.string ⟨#[]⟩,.int .i64 0,.int .i64 0] 67 (0,0))
theorem IsX.cells {w:World} {g:Nat} (h:IsX w g):w.cell? ⟨g,0,none⟩=some (.string ⟨#[]⟩)/\w.cell? ⟨g,1,none⟩=some (.int .i64 0)/\w.cell? ⟨g,2,none⟩=some (.int .i64 0)/\(∀ j,w.frozen? ⟨g,j,none⟩=false):=by
 refine⟨?_,?_,?_,fun j=>frozen_of_row w g j _ _ h⟩
 ·rw[cell_of_row w g 0 _ _ (0,0) h];rfl
 ·rw[cell_of_row w g 1 _ _ (0,0) h];rfl
 ·rw[cell_of_row w g 2 _ _ (0,0) h];rfl
theorem bwtC_no {t:ByteArray} (h:t.size<=48):bwtC t=0:=by
 unfold bwtC;rw[if_neg (by omega),if_neg (by omega)]
theorem unbwt_impl (t:ByteArray) (a:Int) (w:World) (hn:t.size<=1048576) :
  Calls prog 184 #[.string t,.int .i64 a] w fun e w'=>e=.returned (unR t a)/\Below w.heap.size w w':=by
 by_cases hbig:8000<t.size
 ·have HV:=hideO (unR_big (a:=a) hbig)
  go_enter func184,ntmps184
  go_wp2_with fail
  refine bodyPost_ret (v:=tOut ⟨#[]⟩ 0 2) (by simp[results,tOut,results184,go_sem]) rfl ⟨by rw[HV.o],?_⟩;exact(Below.refl _ _).alloc (Nat.le_refl _) _
 ·have hbig':¬(8000:Int)<(t.size:Int):=by omega
  by_cases hlong:48<t.size
  ·have HV:=hideO (unR_form (a:=a) hbig (Or.inl hlong))
   have hd:decide ((48:Int)<(t.size:Int))=true:=decide_eq_true (by omega);go_enter func184,ntmps184
   go_wp2_with fail
   refine bodyPost_ret (v:=tOut ⟨#[]⟩ 0 1) (by simp[results,tOut,results184,go_sem]) rfl ⟨by rw[HV.o],?_⟩;exact(Below.refl _ _).alloc (Nat.le_refl _) _
  ·have hlong':¬(48:Int)<(t.size:Int):=by omega
   have hd:decide ((48:Int)<(t.size:Int))=false:=decide_eq_false (by omega);obtain⟨w0,hw0⟩:∃ w0,w0=w.alloc (.cells #[.string ⟨#[]⟩,.int .i64 0,.int .i64 0] 67):=⟨_,rfl⟩
   have z0:w0.heap.size=w.heap.size+1:=by rw[hw0];simp
   have HR0:Hid (IsX w0 w.heap.size):=by unfold Hid;rw[hw0];exact heap_alloc_last w _
   have HB0:Hid (Below w.heap.size w w0):=by unfold Hid;rw[hw0];exact(Below.refl _ _).alloc (Nat.le_refl _) _
   have HIP:=hideO (isPlace_impl t a w0);by_cases hbad:a<0∨((t.size:Int)<=a/\0<a)
   ·have HV:=hideO (unR_form hbig (Or.inr hbad))
    rw[decide_eq_true hbad]at HIP;go_enter func184,ntmps184;(go_wp2_with fail);rw[<-hw0];refine HIP.o.mono ?_;rintro e w' ⟨rfl,hw⟩;subst w';subst hw0;(go_wp2_with fail);refine bodyPost_ret (v:=tOut ⟨#[]⟩ 0 1) (by simp[results,tOut,results184,go_sem]) rfl ⟨by rw[HV.o],?_⟩;exact(Below.refl _ _).alloc (Nat.le_refl _) _
   ·rw[decide_eq_false hbad]at HIP
    obtain⟨m,rfl⟩:∃ m:Nat,a=m:=⟨a.toNat,by omega⟩;have HTB:=hideO (turnBack_impl t m w0 hn (by omega));have hbz:=backT_size t m;have HBW:=hideO (fun W=>bwt_impl (backT t m) W (by omega));rw[bwtC_no (show (backT t m).size<=48 by omega)]at HBW;have HY:=hideO (fun h=>unR_yes (t:=t) (a:=m) (by omega) (by omega) h);have HNO:=hideO (fun h=>unR_no (t:=t) (a:=m) (by omega) (by omega) h);obtain⟨b,hb⟩:∃ b,b=backT t m:=⟨_,rfl⟩;obtain⟨bt',hbt⟩:∃ bt',bt'=bwtT b:=⟨_,rfl⟩;obtain⟨ba,hba⟩:∃ ba,ba=bwtA b:=⟨_,rfl⟩;rw[<-hb]at HTB HBW HY HNO;rw[<-hbt,<-hba]at HBW HY HNO;unfold sOut at HBW;clear hb hbt hba hbz hbad;by_cases hq:bt'=t/\ba=m
    ·obtain⟨rfl,rfl⟩:=hq
     have HV:=hideO (HY.o ⟨rfl,rfl⟩);clear HY HNO;go_enter func184,ntmps184;(go_wp2_with fail);rw[<-hw0];refine HIP.o.mono ?_;rintro e w' ⟨rfl,hw⟩;subst w';(go_wp2_with fail);rw[<-hw0];refine HTB.o.mono ?_;rintro e w1 ⟨rfl,hb1⟩;have HR1:Hid (IsX w1 w.heap.size):=(hb1.block w.heap.size (by omega)).trans HR0.o;have HB1:=hideO (HB0.o.trans (hb1.mono (by omega)));have z1:=hb1.size;clear hb1;(go_wp2_with fail);refine(HBW.o w1).mono ?_;rintro e w2 ⟨rfl,hb2⟩;have hr2:IsX w2 w.heap.size:=(hb2.block w.heap.size (by omega)).trans HR1.o;have GB:=hideO (HB1.o.trans (hb2.mono (by omega)));have z2:=hb2.size;obtain⟨c0,c1,c2,f0⟩:=hr2.cells;clear hr2 hb2;(go_wp2_with fail);refine bodyPost_ret (v:=tOut b 0 0) (by simp[results,tOut,results184,go_sem,c0,c1,c2]) rfl ⟨by rw[HV.o],?_⟩;exact((GB.o.setCell (Nat.le_refl _) _).setCell (Nat.le_refl _) _).setCell (Nat.le_refl _) _
    ·have HV:=hideO (HNO.o hq)
     by_cases hqt:bt'=t
     ·subst hqt
      have hqm:((ba:Int)==(m:Int))=false:=beq_eq_false_iff_ne.2 (fun e=>hq ⟨rfl,by omega⟩);clear hq;clear HY HNO;go_enter func184,ntmps184;(go_wp2_with fail);rw[<-hw0];refine HIP.o.mono ?_;rintro e w' ⟨rfl,hw⟩;subst w';(go_wp2_with fail);rw[<-hw0];refine HTB.o.mono ?_;rintro e w1 ⟨rfl,hb1⟩;have HR1:Hid (IsX w1 w.heap.size):=(hb1.block w.heap.size (by omega)).trans HR0.o;have HB1:=hideO (HB0.o.trans (hb1.mono (by omega)));have z1:=hb1.size;clear hb1;(go_wp2_with fail);refine(HBW.o w1).mono ?_;rintro e w2 ⟨rfl,hb2⟩;have hr2:IsX w2 w.heap.size:=(hb2.block w.heap.size (by omega)).trans HR1.o;have GB:=hideO (HB1.o.trans (hb2.mono (by omega)));have z2:=hb2.size;obtain⟨c0,c1,c2,f0⟩:=hr2.cells;clear hr2 hb2;(go_wp2_with fail);refine bodyPost_ret (v:=tOut ⟨#[]⟩ 0 3) (by simp[results,tOut,results184,go_sem,c0,c1,c2]) rfl ⟨by rw[HV.o],?_⟩;exact((GB.o.setCell (Nat.le_refl _) _).setCell (Nat.le_refl _) _).setCell (Nat.le_refl _) _
     ·have hqe:(bt'.toList==t.toList)=false:=by rw[list_eq_iff];exact decide_eq_false hqt
      clear hq hqt;clear HY HNO;go_enter func184,ntmps184;(go_wp2_with fail);rw[<-hw0];refine HIP.o.mono ?_;rintro e w' ⟨rfl,hw⟩;subst w';(go_wp2_with fail);rw[<-hw0];refine HTB.o.mono ?_;rintro e w1 ⟨rfl,hb1⟩;have HR1:Hid (IsX w1 w.heap.size):=(hb1.block w.heap.size (by omega)).trans HR0.o;have HB1:=hideO (HB0.o.trans (hb1.mono (by omega)));have z1:=hb1.size;clear hb1;(go_wp2_with fail);refine(HBW.o w1).mono ?_;rintro e w2 ⟨rfl,hb2⟩;have hr2:IsX w2 w.heap.size:=(hb2.block w.heap.size (by omega)).trans HR1.o;have GB:=hideO (HB1.o.trans (hb2.mono (by omega)));have z2:=hb2.size;obtain⟨c0,c1,c2,f0⟩:=hr2.cells;clear hr2 hb2;(go_wp2_with fail);refine bodyPost_ret (v:=tOut ⟨#[]⟩ 0 3) (by simp[results,tOut,results184,go_sem,c0,c1,c2]) rfl ⟨by rw[HV.o],?_⟩;exact((GB.o.setCell (Nat.le_refl _) _).setCell (Nat.le_refl _) _).setCell (Nat.le_refl _) _
end So
namespace Fr
open Sh (IsB rowF upd made_row bt bt_get)
open Ze (hideZ)
open St (Aft)
open In (Ints IsI OwnI made_ints)
open In.Tryz (infoI2)
def padI (xs:List Int) (n:Nat):List Int:=xs++List.replicate (n-xs.length) 0
theorem padI_len (xs:List Int) (n:Nat) (h:xs.length<=n):(padI xs n).length=n:=by simp[padI];omega
theorem padI_next (xs:List Int) (n:Nat) (v:Int) (h:xs.length<n):(padI xs n).set xs.length v=padI (xs++[v]) n:=by
 unfold padI;rw[List.set_append_right _ _ (Nat.le_refl _),Nat.sub_self,List.append_assoc]
 congr 1
 obtain⟨m,hm⟩:∃ m,n-xs.length=m+1:=⟨n-xs.length-1,by omega⟩;rw[hm,List.replicate_succ,List.length_append,List.length_singleton,show n-(xs.length+1)=m by omega];rfl
theorem padI_all (xs:List Int):padI xs xs.length=xs:=by simp[padI]
theorem list_get (t:ByteArray) (k:Nat) (h:k<t.size):∃ h':k<t.data.toList.length,t.data.toList[k]=t[k]:=⟨by simpa using h,by simp[ByteArray.getElem_eq_getElem_data]⟩
theorem row_own {w:World} {g base:Nat} {l:List Int} (h:IsI w g 2 l) (hb:base<=g) (hm:l.length<=maxLen):OwnI w base (.slice (some ⟨g,0,none⟩) l.length l.length) l :=
 ⟨by simp,.inr ⟨g,l.length,_,rfl,hb,h,Nat.le_refl _,hm,by simp[In.irow],by rw[List.take_of_length_le (by simp[In.irow])];simp[In.irow]⟩⟩
theorem below_drewN {B:Nat} {w w':World} (h:Below B w w') (n:Nat):Below B w (w'.drewN n):=⟨h.os,h.tape,h.output,h.size,h.block⟩
theorem isI_of_heap {w w':World} {g t:Nat} {l:List Int} (h:IsI w g t l) (e:w'.heap[g]? = w.heap[g]?):IsI w' g t l:=by
 unfold IsI;rw[e];exact h
theorem frontOf_impl (t:ByteArray) (w:World) (hn:t.size<=1048576) :
  Calls prog 119 #[.string t] w fun e w'=>∃ v,e=.returned v/\OwnI w' w.heap.size v (frontR t.data.toList)/\Below w.heap.size w w':=by
 obtain⟨i0,hi0,hz0,hz1,hz2⟩:=info_parts infoI2
 have hdl:t.data.toList.length=t.size:=by simp
 by_cases hlong:400<t.size
 ·rw[frontR_no (by omega)]
  clear hdl;go_enter func119,ntmps119
  go_wp2_with fail
  go_step3
  go_wp2_with fail
  try rw[Exit.noGoto_ret]
  go_ret;exact⟨_,rfl,OwnI.nil _ _,Below.refl _ _⟩
 ·rw[frontR_yes (by omega)]
  have HDL:=hideZ hdl;clear hdl
  have hlong':¬(400:Int)<(t.size:Int):=by omega
  go_enter func119,ntmps119
  go_wp2_with fail
  go_step3
  go_wp2_with fail
  refine(rising_impl w).mono ?_;rintro e w1 ⟨rfl,hb1⟩;have HB1:=hideZ hb1;have z1:=hb1.size;clear hb1;obtain⟨n,hln⟩:∃ n,n=t.size:=⟨_,rfl⟩
  go_wp2_with (first|((with_reducible refine wpList_alloc_row Tryz.zeroA175 ?_);intro w2 hb2 hbel2 hs2 ho2;have G2:=hideZ hb2;have HB2:=hideZ (HB1.o.trans (hbel2 _ z1));clear hb2 hbel2 ho2)|((with_reducible refine Sh.wpList_store_row' G2.o Tryz.sizeA175 row0 ?_ ?_ ?_);(· rfl);(· rfl);intro w3 hb3 hbel3 hs3 ho3;have G3:=hideZ hb3;have HB3:=hideZ (HB2.o.trans (hbel3 _ z1));clear hb3 hbel3 ho3)|(at_make;refine wpList_make_full _ rfl (.tmp 12) (.tmp 12) 80 rfl w3.heap.size 2 i0 (.int .i64 0) 1 underlying80 hi0 hz0 hz1 .i64 .i64 _ _ t.size rfl rfl (by simp) (by simp) (by rw[hz2];omega) (by unfold maxLen;omega) (Nat.le_refl _) ?_;intro w4 hown4 hgrow4;have HR4:=hideZ (made_ints hown4);have hb4:=(Below.refl w3.heap.size w3).grown hgrow4 (Nat.le_refl _) (by simp);have G4:=hideZ (G3.o.below hb4 (by omega));have HB4:=hideZ (HB3.o.trans (hb4.mono (by omega)));clear hown4 hgrow4 hb4))
  go_step3
  go_wp2_with fail
  clear hln n;obtain⟨g1,hg1⟩:∃ g1,g1=w1.heap.size:=⟨_,rfl⟩
  have e3:w3.heap.size=w1.heap.size+1:=by omega
  rw[e3]at HR4
  have hgw:w.heap.size<=g1:=by omega
  rw[<-hg1]at G4 HR4 ⊢;obtain⟨g2,hg2⟩:∃ g2,g2=g1+1:=⟨_,rfl⟩
  have hg12:g1<g2:=by omega
  rw[<-hg2]at HR4 ⊢;clear e3 hg1 hg2 hs2 hs3 z1;obtain⟨l,hl⟩:∃ l,l=t.data.toList:=⟨_,rfl⟩;rw[<-hl]at HDL;have HL:=hideZ hl;clear hl
  go_loopw [16] (fun i wr=>∃ k:Nat,i=.int .i64 k/\k<=t.size/\IsB wr g1 175 .u8 256 (fst' (l.take k)).2/\IsI wr g2 2 (padI (fst' (l.take k)).1 t.size)/\Below w.heap.size w wr) (fun i _=>t.size-(intOf i).toNat)
  case atStart=>exact⟨0,rfl,Nat.zero_le _,G4.o,by simpa [padI,fst'] using HR4.o,HB4.o⟩
  case round =>
   obtain⟨k,rfl,hk,hrow,hpl,hbel⟩:=hrel;obtain⟨hfull,hlen⟩:=fst_full l k (by have:=HDL.o;omega);have R1:=hideZ hrow;have T1:=hideZ hpl;have GB:=hideZ hbel;clear hbel;by_cases hlt:k<t.size
   ·obtain⟨hkl',hget⟩:=list_get t k hlt
    have hkl:k<l.length:=by rw[HDL.o];exact hlt
    have hge:l[k]=t[k]:=by
     have:=HL.o
     subst this;exact hget
    have HM:=hideZ (fst_more hkl);rw[hge]at HM;obtain⟨c,hc⟩:∃ c:UInt8,t[k]=c:=⟨_,rfl⟩;rw[hc]at HM;obtain⟨f,hf⟩:∃ f,f=(fst' (l.take k)).2:=⟨_,rfl⟩;obtain⟨ps,hps⟩:∃ ps,ps=(fst' (l.take k)).1:=⟨_,rfl⟩;rw[<-hf]at R1 HM hfull;rw[<-hps]at T1 HM hlen;have hlk:=look_some hfull (c:=c.toNat) (UInt8.toNat_lt _);obtain⟨q,hq⟩:∃ q,q=look f c.toNat:=⟨_,rfl⟩;rw[<-hq]at hlk HM;have hq256:=hlk.1;have HLK:=hideZ hlk.2;have HLE:=hideZ hlen;have HFU:=hideZ hfull;clear hget hge hf hps hrow hpl hfull hlen hlk hq;(go_wp2_with fail)
    go_loopw [19] (fun i wr2=>∃ p:Nat,i=.int .i64 p/\p<=q/\IsB wr2 g1 175 .u8 256 f/\IsI wr2 g2 2 (padI ps t.size)/\Below w.heap.size w wr2) (fun i _=>q-(intOf i).toNat)
    case atStart=>exact⟨0,rfl,Nat.zero_le _,R1.o,T1.o,GB.o⟩
    case round =>
     obtain⟨p,rfl,hp,hrow2,hpl2,hbel2⟩:=hrel;have R2:=hideZ hrow2;have T2:=hideZ hpl2;have GB2:=hideZ hbel2;have c1:=hrow2.cell (j:=p) (by omega);have hbnd:=HFU.o.2 p (by omega);obtain⟨y,hy⟩:∃ y,y=f p:=⟨_,rfl⟩;rw[<-hy]at c1 hbnd;have HY:=hideZ hy;clear hrow2 hpl2 hbel2 hy;by_cases hpq:p=q
     ·have hyc:(y==((c.toNat:Nat):Int))=true:=beq_iff_eq.2 (by rw[HY.o,hpq];exact HLK.o.1)
      have hq1:q<256:=hq256;have c2:=T2.o.cell (j:=k) (by rw[padI_len _ _ (by have:=HLE.o;omega)];exact hlt);have f2:=T2.o.frozen k
      have HT3:Hid (∀ nq,IsI ((wr.drewN nq).setCell ⟨g2,k,none⟩ (.int .i64 p)) g2 2 (padI (ps++[(p:Int)]) t.size)):=fun nq=>by
       have h1:IsI (wr.drewN nq) g2 2 (padI ps t.size):=T2.o;have h2:=h1.set k (p:Int);have h3:=padI_next ps t.size (p:Int) (by have:=HLE.o;omega);rw[HLE.o]at h3;rw[h3]at h2;exact h2
      have HR3:Hid (∀ nq,IsB ((wr.drewN nq).setCell ⟨g2,k,none⟩ (.int .i64 p)) g1 175 .u8 256 f):=fun nq=>by
       have h1:IsB (wr.drewN nq) g1 175 .u8 256 f:=R2.o;exact h1.set_other _ _ (by simp;omega)
      have HBr:=hideZ (fun nq=>bring_impl g1 p 175 f _ (HR3.o nq) (by omega));have HB3':Hid (∀ nq,Below w.heap.size w ((wr.drewN nq).setCell ⟨g2,k,none⟩ (.int .i64 p))):=fun nq=>(below_drewN GB2.o nq).setCell (p:=⟨g2,k,none⟩) (by simp;omega) _;rw[<-hpq]at HM;clear hpq;(go_wp2_with fail)
      go_quiet (fail)
      all_goals (try go_wp2_with fail)
      refine(HBr.o _).mono ?_;rintro e w5 ⟨rfl,hb5,ha5⟩;have G5:=hideZ hb5;have T5:=hideZ (isI_of_heap (HT3.o _) (ha5.2.2.2.2 g2 (HT3.o _).lt (by omega)));have B5:=hideZ (Aft.below (HB3'.o _) ha5 (by omega) (by have:=(HT3.o nq).lt;omega));clear hb5 ha5;(go_wp2_with fail)
      go_roundw
      case rel=>exact⟨k+1,by go_num,by omega,by rw[HM.o];exact G5.o,by rw[HM.o];exact T5.o,B5.o⟩
      case measure=>simp[intOf];omega
     ·have hyc:(y==((c.toNat:Nat):Int))=false:=beq_eq_false_iff_ne.2 (by rw[HY.o];exact HLK.o.2 p (by omega))
      (go_wp2_with fail)
      go_quiet (fail)
      all_goals (try go_wp2_with fail)
      go_roundw
      case rel=>exact⟨p+1,by go_num,by omega,R2.o,T2.o,below_drewN GB2.o _⟩
      case measure=>simp[intOf];omega
   ·obtain rfl:k=t.size:=by omega
    have HT:Hid (l.take t.size=l):=by
     unfold Hid;rw[<-HDL.o,List.take_length]
    rw[HT.o]at hpl hlen
    have hpa:padI (fst' l).1 t.size=(fst' l).1:=by
     rw[<-hlen];exact padI_all _
    rw[hpa]at hpl;have HV:=hideZ (row_own (base:=w.heap.size) hpl (by omega) (by unfold maxLen;omega));rw[hlen]at HV;have HLL:=HL.o;rw[HLL]at HV;clear hrow hpl hfull hlen hpa HLL;(go_wp2_with fail)
    try rw[Exit.noGoto_ret]
    go_ret;exact⟨_,rfl,HV.o,GB.o⟩
end Fr
namespace So
open Go.RowKit Go.Sort Go.Proofs
open Sh (bt bt_get bt_lt strF IsB made_row)
open In (OwnI Ints)
open Nu (bv)
open Ap (Own0 wpList_append_own0)
open Fr (Own0B own0_string one_newB one_cellB own0B_snoc)
def blB (t:ByteArray) (f:Nat->Nat) (k:Nat):List UInt8:=(List.range k).map fun j=>UInt8.ofNat (lastB t (f j))
theorem blB_len (t:ByteArray) (f:Nat->Nat) (k:Nat):(blB t f k).length=k:=by simp[blB]
theorem blB_snoc (t:ByteArray) (f:Nat->Nat) (k:Nat):blB t f (k+1)=blB t f k++[UInt8.ofNat (((lastB t (f k):Nat):Int)).toNat]:=by
 unfold blB;rw[List.range_succ,List.map_append];rfl
theorem l05Bwt_spec (t:ByteArray) (w:World) (ht:t.size<=48) :
  Calls prog 132 #[.string t] w fun e w'=>e=.returned (.tuple #[.string (bwtT t),.int .i64 (bwtA t:Nat)])/\Below w.heap.size w w':=by
 obtain⟨i0,hi0,hz0,hz1,hz2⟩:=info_parts Nu.Tryz.infoJ5;have HOS:=hideO (order_spec t w ht);go_enter func132,ntmps132
 go_wp2_with fail
 refine HOS.o.mono ?_;rintro e w1 ⟨v,l,rfl,ho,hok,_,hb⟩;have HE:=hideO (bwt_yes ht (fun j hj=>rfl) (f:=ordF t))
 have hlen:l.length=t.size:=by have:=hok.1.length_eq;simpa using this
 have HLen:=hideO hlen
 have HOR:Hid (∀ k (h:k<l.length),ordF t k=l[k]/\l[k]<t.size):=fun k h=>⟨ordF_list hok k h,by
  have:=hok.1.mem_iff.1 (List.getElem_mem h)
  simpa using this⟩
 obtain⟨a,cap,rfl,hcap,hI⟩:=ho.ints;have HI:=hideO hI;rw[ints_len,hlen]at hcap ⊢;have HB1:=hideO hb;have z1:=hb.size;clear ho hok hb hI hlen
 go_wp2_with fail
 go_loopw [7,5,6] (fun i u m wr=>∃ k:Nat,i=.int .i64 k/\k<=t.size/\m=.int .i64 (atK (ordF t) k:Nat)/\Own0B wr (w1.heap.size+1) u (blB t (ordF t) k)/\w1.heap.size<wr.heap.size/\Below w1.heap.size w1 wr) (fun i _ _ _=>t.size-(intOf i).toNat)
 case atStart=>exact⟨0,rfl,Nat.zero_le _,rfl,.inl ⟨_,rfl,rfl,rfl⟩,by simp,(Below.refl _ _).alloc (Nat.le_refl _) _⟩
 case round =>
  obtain⟨k,rfl,hk,rfl,hown,hgs,hbel⟩:=hrel;have O1:=hideO hown;have GB:=hideO hbel;clear hbel;by_cases hlt:k<t.size
  ·have hd0:decide ((k:Int)<(t.size:Int))=true:=decide_eq_true (by omega)
   have hkz:(k:Int)<(t.size:Int):=by omega
   have hkl:k<l.length:=by rw[HLen.o];exact hlt
   have hkl':k<(ints l).length:=by rw[ints_len];exact hkl
   obtain⟨b,off,rfl,hb,hc⟩:=(HI.o.below GB.o).some (by omega);have ci:=hc k hkl'
   have HC:Hid (∀ W:World,Below w1.heap.size w1 W->W.cell? ⟨b,off+k,none⟩=some (.int .i64 (ints l)[k])):=fun W hW=>by
    obtain⟨b',off',e1,_,hc'⟩:=((HI.o.below hW).some (by omega:0<(ints l).length))
    cases e1
    exact hc' k hkl'
   have ey:(ints l)[k]=((l[k]:Nat):Int):=by simp[ints]
   rw[ey]at ci HC;obtain⟨ho1,hxt⟩:=HOR.o k hkl;have HN:=hideO (blB_snoc t (ordF t) k);have HA:=hideO (atK_next (ordF t) k);rw[ho1]at HN HA;obtain⟨x,hx⟩:∃ x,x=l[k]:=⟨_,rfl⟩;rw[<-hx]at ci HC hxt HN HA;obtain⟨s,hs⟩:∃ s,s=x+t.size-1:=⟨_,rfl⟩;obtain⟨r,hr⟩:∃ r,r=s%t.size:=⟨_,rfl⟩
   have hrt:r<t.size:=by rw[hr];exact Nat.mod_lt _ (by omega)
   have e1:(x:Int)+(t.size:Int)-1=(s:Int):=by omega
   have e2:(s:Int).tmod (t.size:Int)=(r:Int):=by rw[Int.tmod_eq_emod_of_nonneg (by omega),hr,Int.natCast_emod]
   have hwp:IntKind.i64.wrap (s:Int)=(s:Int):=by rw[IntKind.wrap_i64];omega
   have hwr:IntKind.i64.wrap (r:Int)=(r:Int):=by rw[IntKind.wrap_i64];omega
   have hrz:(r:Int)<(t.size:Int):=by omega
   have htn:¬((t.size:Int)=0):=by omega
   obtain⟨y,hy,hyt⟩:∃ y:UInt8,t[r]=y/\y.toNat=lastB t x:=⟨_,rfl,by rw[bt_get];unfold lastB;rw[hr,hs]⟩;rw[<-hyt]at HN;have HBL:=hideO (blB_len t (ordF t) k);obtain⟨bs,hbs⟩:∃ bs,bs=blB t (ordF t) k:=⟨_,rfl⟩;rw[<-hbs]at O1 HN HBL;obtain⟨m,hm⟩:∃ m,m=atK (ordF t) k:=⟨_,rfl⟩;rw[<-hm]at HA ⊢
   have hmk:m<=k:=by rw[hm];exact atK_le _ _
   clear hc ey hown ho1 hx hs hr hyt hbs hm;have HY:=hideO (UInt8.toNat_lt y)
   go_wp2_with (at_builtin;refine wpList_append_own0 _ rfl (.tmp 17) (.tmp 31) 22 rfl (w1.heap.size+1) 5 i0 (.int .u8 0) 1 1 underlying22 hi0 hz0 hz1 hz2 rfl (by decide) _ bs.length (bs.map bv) rfl (Own0.alloc O1.o _) ⟨wr.heap.size,0,none⟩ 1 1 [.int .u8 (y.toNat:Nat)] rfl rfl (one_newB _ _ _) (one_cellB _) (by decide) (by unfold maxLen;have:=HBL.o;omega) (by have:=HBL.o;omega) (by simp;omega) ?_)
   intro v' w5 hown' hb5;have N5:=hideO (own0B_snoc (by omega) (by have:=HY.o;omega) hown');have ba:Below (w1.heap.size+1) wr w5:=((Below.refl (w1.heap.size+1) wr).alloc (by omega) _).trans (hb5 _ (Nat.le_refl _));have B5:=hideO (GB.o.trans (ba.mono (by omega)));have c5:=HC.o w5 B5.o;have z5:=ba.size;clear hown' hb5 ba ci;by_cases hx0:x=0
   ·subst hx0
    have HM:=hideO (HA.o.1 rfl);(go_wp2_with fail)
    go_roundw
    case rel=>exact⟨k+1,by go_num,by omega,by rw[HM.o],by rw[HN.o];exact N5.o,by omega,B5.o⟩
    case measure=>simp[intOf];omega
   ·have HM:=hideO (HA.o.2 hx0)
    have hxz:((x:Int)==0)=false:=by simpa using hx0
    (go_wp2_with fail)
    go_roundw
    case rel=>exact⟨k+1,by go_num,by omega,by rw[HM.o],by rw[HN.o];exact N5.o,by omega,B5.o⟩
    case measure=>simp[intOf];omega
  ·have hd0:decide ((k:Int)<(t.size:Int))=false:=decide_eq_false (by omega)
   obtain rfl:k=t.size:=by omega
   have hcv:=own0_string (P:=prog) (src:=22) (dst:=9) _ hown underlying22 underlying5 underlying9;have HQ:Hid ((⟨(blB t (ordF t) t.size).toArray⟩:ByteArray)=bwtT t):=HE.o.1.symm;have HQ2:Hid (atK (ordF t) t.size=bwtA t):=HE.o.2.1.symm;rw[HQ.o]at hcv;rw[HQ2.o];have BZ:=hideO (HB1.o.trans (GB.o.mono z1));clear hown
   go_wp2_with fail
   refine bodyPost_ret (v:=.tuple #[.string (bwtT t),.int .i64 (bwtA t:Nat)]) (by simp[results,results132,go_sem]) rfl ⟨rfl,BZ.o⟩
end So
namespace Fr
open Sh (IsB rowF upd made_row bt bt_get)
open Ze (hideZ)
open St (Aft)
open In (Ints IsI OwnI one_newI one_cellI)
open In.Tryz (infoI2)
open Ap (Own0 wpList_append_own0)
def Own0I (w:World) (lit base:Nat) (v:Value) (l:List Int):Prop :=
 w.heap[lit]? = some (.cells #[] 2 (0,0))/\((v=.slice (some ⟨lit,0,none⟩) 0 0/\l=[])∨OwnI w base v l)
theorem Own0I.own0 {w:World} {lit base:Nat} {v:Value} {l:List Int} (h:Own0I w lit base v l):Own0 w base 2 1 v l.length (l.map (Value.int .i64)):=by
 rcases h.2 with⟨rfl,rfl⟩|h
 ·exact .inl ⟨_,rfl,rfl,rfl⟩
 ·exact .inr h
theorem Own0I.done {w:World} {lit base:Nat} {v:Value} {l:List Int} (h:Own0I w lit base v l) (hb:lit<=base):OwnI w lit v l:=by
 obtain⟨he,⟨rfl,rfl⟩|h⟩:=h
 ·exact⟨rfl,.inr ⟨lit,0,#[],rfl,Nat.le_refl _,he,Nat.le_refl _,by decide,rfl,rfl⟩⟩
 ·exact h.mono hb
theorem Own0I.keep {w w':World} {lit base:Nat} {v:Value} {l:List Int} (h:Own0I w lit base v l) (hl:w'.heap[lit]? = w.heap[lit]?) (b:∀ k,base<=k->k<w.heap.size->w'.heap[k]? = w.heap[k]?):Own0I w' lit base v l:=by
 refine⟨hl.trans h.1,?_⟩
 rcases h.2 with h|⟨hl,h⟩
 ·exact .inl h
 ·refine .inr ⟨hl,?_⟩
  rcases h with h|⟨g,cap,cur,hv,hg,hb,rest⟩
  ·exact .inl h
  ·exact .inr ⟨g,cap,cur,hv,hg,by rw[b g hg (Array.getElem?_eq_some_iff.1 hb).1];exact hb,rest⟩
theorem frontOf_spec (t:ByteArray) (w:World) (hn:t.size<=1048576) :
  Calls prog 134 #[.string t] w fun e w'=>∃ v,e=.returned v/\OwnI w' w.heap.size v (frontR t.data.toList)/\Below w.heap.size w w':=by
 obtain⟨i0,hi0,hz0,hz1,hz2⟩:=info_parts infoI2
 have hdl:t.data.toList.length=t.size:=by simp
 have HB0:Hid (Below w.heap.size w (w.alloc (.cells #[] 2))):=(Below.refl _ _).alloc (Nat.le_refl _) _;have HRS:=hideZ (row_spec (w.alloc (.cells #[] 2)));have HE0:Hid ((w.alloc (.cells #[] 2)).heap[w.heap.size]? = some (.cells #[] 2 (0,0))):=heap_alloc_last w _
 have zs:(w.alloc (.cells #[] 2)).heap.size=w.heap.size+1:=by simp
 rw[zs]at HRS;clear zs;by_cases hlong:400<t.size
 ·rw[frontR_no (by omega)]
  clear hdl;have hd4:decide ((t.size:Int)<=400)=false:=decide_eq_false (by omega);have hd0:decide ((0:Int)<(t.size:Int))=true:=decide_eq_true (by omega);go_enter func134,ntmps134
  go_wp2_with fail
  refine HRS.o.mono ?_;rintro e w1 ⟨rfl,hr1,hb1⟩;have HB1:=hideZ (HB0.o.trans (hb1.mono (by omega)));have HV:Hid (Own0I w1 w.heap.size (w.heap.size+2) (.slice (some ⟨w.heap.size,0,none⟩) 0 0) []):=⟨(hb1.block _ (by omega)).trans HE0.o,.inl ⟨rfl,rfl⟩⟩;clear hr1 hb1
  go_wp2_with fail
  go_loopw [5,3] (fun i u wr=>i=.int .i64 0/\u=.slice (some ⟨w.heap.size,0,none⟩) 0 0/\wr=w1) (fun _ _ _=>0)
  case atStart=>exact⟨rfl,rfl,rfl⟩
  case round =>
   obtain⟨rfl,rfl,rfl⟩:=hrel
   go_wp2_with fail
   go_ret;exact⟨_,rfl,HV.o.done (by omega),HB1.o⟩
 ·rw[frontR_yes (by omega)]
  have hd4:decide ((t.size:Int)<=400)=true:=decide_eq_true (by omega);have HDL:=hideZ hdl;clear hdl;go_enter func134,ntmps134
  go_wp2_with fail
  refine HRS.o.mono ?_;rintro e w1 ⟨rfl,hr1,hb1⟩;have HB1:=hideZ (HB0.o.trans (hb1.mono (by omega)));have HV:Hid (Own0I w1 w.heap.size (w.heap.size+2) (.slice (some ⟨w.heap.size,0,none⟩) 0 0) []):=⟨(hb1.block _ (by omega)).trans HE0.o,.inl ⟨rfl,rfl⟩⟩;have HR1:=hideZ hr1;clear hr1 hb1 HRS HE0;obtain⟨l,hl⟩:∃ l,l=t.data.toList:=⟨_,rfl⟩;rw[<-hl]at HDL;have HL:=hideZ hl;clear hl
  go_wp2_with fail
  go_loopw [5,3] (fun i u wr=>∃ k:Nat,i=.int .i64 k/\k<=t.size/\IsB wr (w.heap.size+1) 5 .u8 256 (fst' (l.take k)).2/\Own0I wr w.heap.size (w.heap.size+2) u (fst' (l.take k)).1/\Below w.heap.size w wr) (fun i _ _=>t.size-(intOf i).toNat)
  case atStart=>exact⟨0,rfl,Nat.zero_le _,HR1.o,HV.o,HB1.o⟩
  case round =>
   obtain⟨k,rfl,hk,hrow,hown,hbel⟩:=hrel;obtain⟨hfull,hlen⟩:=fst_full l k (by have:=HDL.o;omega);have R1:=hideZ hrow;have O1:=hideZ hown;have GB:=hideZ hbel;have hgs:=hrow.lt;clear hbel;by_cases hlt:k<t.size
   ·have hd0:decide ((k:Int)<(t.size:Int))=true:=decide_eq_true (by omega)
    obtain⟨hkl',hget⟩:=list_get t k hlt;have hkl:k<l.length:=(by rw[HDL.o];exact hlt)
    have hge:l[k]=t[k]:=by
     have:=HL.o
     subst this;exact hget
    have HM:=hideZ (fst_more hkl);rw[hge]at HM;obtain⟨c,hc⟩:∃ c:UInt8,t[k]=c:=⟨_,rfl⟩;rw[hc]at HM;obtain⟨f,hf⟩:∃ f,f=(fst' (l.take k)).2:=⟨_,rfl⟩;obtain⟨ps,hps⟩:∃ ps,ps=(fst' (l.take k)).1:=⟨_,rfl⟩;rw[<-hf]at R1 HM hfull;rw[<-hps]at O1 HM hlen;have hlk:=look_some hfull (c:=c.toNat) (UInt8.toNat_lt _);obtain⟨q,hq⟩:∃ q,q=look f c.toNat:=⟨_,rfl⟩;rw[<-hq]at hlk HM;have hq256:=hlk.1;have HLK:=hideZ hlk.2;have HLE:=hideZ hlen;have HFU:=hideZ hfull;clear hget hge hf hps hrow hown hfull hlen hlk hq;(go_wp2_with fail)
    go_loopw [6] (fun i wr2=>∃ p:Nat,i=.int .i64 p/\p<=q/\IsB wr2 (w.heap.size+1) 5 .u8 256 f/\Own0I wr2 w.heap.size (w.heap.size+2) u3 ps/\Below w.heap.size w wr2) (fun i _=>q-(intOf i).toNat)
    case atStart=>exact⟨0,rfl,Nat.zero_le _,R1.o,O1.o,GB.o⟩
    case round =>
     obtain⟨p,rfl,hp,hrow2,hown2,hbel2⟩:=hrel;have R2:=hideZ hrow2;have O2:=hideZ hown2;have GB2:=hideZ hbel2;have hgs2:=hrow2.lt;have c1:=hrow2.cell (j:=p) (by omega);have hbnd:=HFU.o.2 p (by omega);obtain⟨y,hy⟩:∃ y,y=f p:=⟨_,rfl⟩;rw[<-hy]at c1 hbnd;have HY:=hideZ hy;clear hrow2 hown2 hbel2 hy;by_cases hpq:p=q
     ·have hyc:(y==((c.toNat:Nat):Int))=true:=beq_iff_eq.2 (by rw[HY.o,hpq];exact HLK.o.1)
      have hq1:q<256:=hq256;have HR3:Hid (∀ nq,IsB (wr.drewN nq) (w.heap.size+1) 5 .u8 256 f):=fun nq=>R2.o;have HO3:Hid (∀ nq,Own0I (wr.drewN nq) w.heap.size (w.heap.size+2) u3 ps):=fun nq=>O2.o.keep rfl (fun _ _ _=>rfl);have HB3:Hid (∀ nq,Below w.heap.size w (wr.drewN nq)):=fun nq=>below_drewN GB2.o nq;rw[<-hpq]at HM;clear hpq;(go_wp2_with fail)
      go_quiet (fail)
      have R4:=HR3.o nq;have O4:=HO3.o nq;have B4:=HB3.o nq;have z4:w.heap.size+1<(wr.drewN nq).heap.size:=hgs2;generalize wr.drewN nq=W at R4 O4 B4 z4 ⊢;have HR4:=hideZ R4;have HO4:=hideZ O4;have HB4:=hideZ B4;clear R4 O4 B4 HR3 HO3 HB3 c1
      go_wp2_with (at_builtin;refine wpList_append_own0 _ rfl (.tmp 30) (.tmp 32) 80 rfl (w.heap.size+2) 2 i0 (.int .i64 0) 1 8 underlying80 hi0 hz0 hz1 hz2 rfl (by decide) _ ps.length (ps.map (Value.int .i64)) rfl (Own0.alloc HO4.o.own0 _) ⟨W.heap.size,0,none⟩ 1 1 [.int .i64 (p:Int)] rfl rfl (one_newI _ _ _) (one_cellI _) (by decide) (by unfold maxLen;have:=HLE.o;omega) (by have:=HLE.o;omega) (by simp;omega) ?_)
      intro v' w5 hown' hb5;have ba:Below (w.heap.size+2) W w5:=((Below.refl (w.heap.size+2) W).alloc (by omega) _).trans (hb5 _ (Nat.le_refl _));have N5:Hid (Own0I w5 w.heap.size (w.heap.size+2) v' (ps++[(p:Int)])):=⟨(ba.block _ (by omega)).trans HO4.o.1,.inr (In.OwnI.snoc hown')⟩;have R5:=hideZ (HR4.o.below ba (by omega));have B5:=hideZ (HB4.o.trans (ba.mono (by omega)));have HFS:=hideZ (front_spec (w.heap.size+1) p 256 5 f w5 R5.o (by omega));have z5:=ba.size;clear hown' hb5 ba;(go_wp2_with fail);refine HFS.o.mono ?_;rintro e w6 ⟨rfl,hr6,ha6⟩;have R6:=hideZ hr6;have N6:=hideZ (N5.o.keep (ha6.2.2.2.2 _ (by omega) (by omega)) (fun j hj1 hj2=>ha6.2.2.2.2 j hj2 (by omega)));have B6:=hideZ (Aft.below B5.o ha6 (by omega) (by omega));clear hr6 ha6;(go_wp2_with fail)
      go_roundw
      case rel=>exact⟨k+1,by go_num,by omega,by rw[HM.o];exact R6.o,by rw[HM.o];exact N6.o,B6.o⟩
      case measure=>simp[intOf];omega
     ·have hyc:(y==((c.toNat:Nat):Int))=false:=beq_eq_false_iff_ne.2 (by rw[HY.o];exact HLK.o.2 p (by omega))
      (go_wp2_with fail)
      go_quiet (fail)
      all_goals (try go_wp2_with fail)
      go_roundw
      case rel=>exact⟨p+1,by go_num,by omega,R2.o,O2.o.keep rfl (fun _ _ _=>rfl),below_drewN GB2.o _⟩
      case measure=>simp[intOf];omega
   ·have hd0:decide ((k:Int)<(t.size:Int))=false:=decide_eq_false (by omega)
    obtain rfl:k=t.size:=by omega
    have HT:Hid (l.take t.size=l):=by
     unfold Hid;rw[<-HDL.o,List.take_length]
    rw[HT.o,HL.o]at hown;have HVV:=hideZ (hown.done (by omega));clear hrow hown hfull hlen;(go_wp2_with fail);go_ret;exact⟨_,rfl,HVV.o,GB.o⟩
end Fr
namespace Up
open Gn (rd getV getV_rd outN)
open Dr (Aft Only)
theorem hideQ {p:Prop} (h:p):Hid p:=h
def Rdr (w:World) (B:Nat) (t:ByteArray) (at_:Int) (bad:Bool):Prop:=w.heap[B]? = some (.cells #[.string t,.int .i64 at_,.bool bad] 156 (0,0))
theorem rdr_lt {w:World} {B:Nat} {t:ByteArray} {a:Int} {b:Bool} (h:Rdr w B t a b):B<w.heap.size:=(Array.getElem?_eq_some_iff.1 h).1
theorem set_k3 {W:World} {g:Nat} {x y z:Value} {T:TypeId} (h:W.heap[g]? = some (.cells #[x,y,z] T (0,0))) (v:Value):(W.setCell ⟨g,0,none⟩ v).heap[g]? = some (.cells #[v,y,z] T (0,0))/\(W.setCell ⟨g,1,none⟩ v).heap[g]? = some (.cells #[x,v,z] T (0,0))/\(W.setCell ⟨g,2,none⟩ v).heap[g]? = some (.cells #[x,y,v] T (0,0)):=by
 refine⟨?_,?_,?_⟩
 ·rw[heap_setCell_same W g 0 _ T v h];rfl
 ·rw[heap_setCell_same W g 1 _ T v h];rfl
 ·rw[heap_setCell_same W g 2 _ T v h];rfl
theorem lq_alloc {w W:World} (h:Below w.heap.size w W) (o:Obj):Below w.heap.size w (W.alloc o):=h.alloc h.size o
theorem lq_drew {w W:World} (h:Below w.heap.size w W):Below w.heap.size w W.drew:=h.drew
theorem lq_set {w W:World} (h:Below w.heap.size w W) (k:Nat) (v:Value):Below w.heap.size w (W.setCell ⟨w.heap.size,k,none⟩ v):=h.setCell (p:=⟨w.heap.size,k,none⟩) (Nat.le_refl _) v
theorem lq_keep {w0 w w':World} (h:Below w0.heap.size w0 w) (hb:Below w.heap.size w w'):Below w0.heap.size w0 w':=h.trans (hb.mono h.size)
theorem blk_low {w w':World} {g:Nat} {x:Obj} (h:w.heap[g]? = some x) (hb:Below w.heap.size w w'):w'.heap[g]? = some x:=(hb.block g (Array.getElem?_eq_some_iff.1 h).1).trans h
theorem aft_set {B:Nat} {w W:World} (h:Below w.heap.size w W) (o:Nat) (v:Value):Aft B w (W.setCell ⟨B,o,none⟩ v):=(Dr.aft_below h).trans (Dr.Only.aft ((Only.refl B W).set o v))
def okN (t:ByteArray) (at_:Int) (bad:Bool) (most:Int):Prop:=bad=false/\(rd t at_).2.2=0/\0<=(rd t at_).1/\(rd t at_).1<=most
theorem get_case (t:ByteArray) (a:Int):∃ n p c:Int,getV t a=.agg #[.int .i64 n,.int .i64 p,.int .i64 c]/\((c=0/\rd t a=(n,p.toNat,0)/\0<=p)∨(¬c=0/\¬(rd t a).2.2=0)):=by
 rw[getV_rd];by_cases h:(rd t a).2.2=0
 ·rw[if_pos h]
  refine⟨_,_,_,rfl,.inl ⟨rfl,?_,by omega⟩⟩;rw[Int.toNat_natCast,<-h]
 ·rw[if_neg h]
  exact⟨_,_,_,rfl,.inr ⟨h,h⟩⟩
theorem num_any (B:Nat) (t:ByteArray) (at_ most:Int) (bad:Bool) (w:World) (ht:t.size<=1048576) (hb:Rdr w B t at_ bad) :
  Calls prog 143 #[.pointer (some ⟨B,0,none⟩),.int .i64 most] w fun e w'=>((okN t at_ bad most/\e=.returned (.int .i64 (rd t at_).1)/\Rdr w' B t ((rd t at_).2.1:Int) false)∨(¬okN t at_ bad most/\e=.returned (.int .i64 0)/\Rdr w' B t at_ true))/\Aft B w w':=by
 have HB:=hideQ hb;have c0:w.cell? ⟨B,0,none⟩=some (.string t):=cell_of_row w B 0 _ _ _ hb;have c1:w.cell? ⟨B,1,none⟩=some (.int .i64 at_):=cell_of_row w B 1 _ _ _ hb;clear hb;obtain⟨n,p,c,hv,hcase⟩:=get_case t at_;have HC:=hideQ hcase
 have HGS:Hid (∀ W,Calls prog 45 #[.string t,.int .i64 at_] W fun e w'=>e=.returned (.agg #[.int .i64 n,.int .i64 p,.int .i64 c])/\Below W.heap.size W w'):=fun W=>by
  have:=Gn.get_spec t at_ W (by unfold maxLen;omega)
  rw[hv]at this;exact this
 clear hv hcase;go_enter func143,ntmps143;have K0:Hid (Below w.heap.size w w.drew):=(Below.refl _ _).drew;have KA:Hid (∀ o,Below w.heap.size w (w.drew.alloc o)):=fun o=>(Below.refl _ _).drew.alloc (Nat.le_refl _) o;have KB:Hid (∀ o,Below w.heap.size w (w.alloc o).drew):=fun o=>((Below.refl _ _).alloc (Nat.le_refl _) o).drew;have CB:Hid (∀ W,Below w.heap.size w W->W.cell? ⟨B,0,none⟩=some (.string t)/\W.cell? ⟨B,1,none⟩=some (.int .i64 at_)):=fun W h=>⟨(h.cell (p:=⟨B,0,none⟩) (rdr_lt HB.o)).trans c0,(h.cell (p:=⟨B,1,none⟩) (rdr_lt HB.o)).trans c1⟩;clear c0 c1
 go_upto_region 1 with fail
 go_cut [5] from 6 to 14 (fun s5 wx=>∃ g:Nat,s5=.pointer (some ⟨g,0,none⟩)/\wx.heap[g]? = some (.cells #[.int .i64 n,.int .i64 p,.int .i64 c] 64 (0,0))/\w.heap.size<=g/\Below w.heap.size w wx)
 case first =>
  have hS0:=CB.o _ K0.o
  go_region_held3 (fun W=>W.cell? ⟨B,0,none⟩=some (.string t)/\W.cell? ⟨B,1,none⟩=some (.int .i64 at_)) (first|assumption|exact CB.o _ (by repeat (first|exact L1.o|exact Below.refl _ _|refine lq_alloc ?_ _|refine lq_set ?_ _ _|refine lq_drew ?_))) (first|(go_at_call 45;(with_reducible refine(HGS.o _).mono ?_);rintro e w1 ⟨rfl,hb1⟩;have L1:=hideQ (lq_keep (w0:=w) (by repeat (first|exact Below.refl _ _|refine lq_alloc ?_ _|refine lq_drew ?_)) hb1);have K1:=hideQ hb1;obtain⟨hc1,hf1⟩:=Gn.bcell hb1;clear hb1))
  all_goals (try go_wp2_with fail)
  all_goals go_meet
  all_goals (first|exact⟨_,rfl,heap_alloc_new w1 _,L1.o.size,lq_alloc L1.o _⟩|exact⟨_,rfl,(set_k3 (set_k3 (set_k3 (blk_low (w:=(w.alloc (.cells #[.int .i64 0,.int .i64 0,.int .i64 0] 64)).drew) (heap_alloc_new w _) K1.o) _).1 _).2.1 _).2.2,Nat.le_refl _,lq_set (lq_set (lq_set L1.o _ _) _ _) _ _⟩)
 case rest =>
  obtain⟨g,rfl,hgb,hgl,hbx⟩:=hcut;have RB:Hid (Rdr wc B t at_ bad):=blk_low HB.o hbx;have cB:wc.cell? ⟨B,2,none⟩=some (.bool bad):=cell_of_row wc B 2 _ _ _ RB.o;have cB1:wc.cell? ⟨B,1,none⟩=some (.int .i64 at_):=cell_of_row wc B 1 _ _ _ RB.o
  have hgB:¬g=B:=by have:=rdr_lt HB.o;omega
  have hBg:¬B=g:=by omega
  have fB:=fun o=>frozen_of_row wc B o _ _ RB.o;have cg0:wc.cell? ⟨g,0,none⟩=some (.int .i64 n):=cell_of_row wc g 0 _ _ _ hgb;have cg1:wc.cell? ⟨g,1,none⟩=some (.int .i64 p):=cell_of_row wc g 1 _ _ _ hgb;have cg2:wc.cell? ⟨g,2,none⟩=some (.int .i64 c):=cell_of_row wc g 2 _ _ _ hgb;have BX:=hideQ hbx;have HBAD:Hid (Rdr (wc.setCell ⟨B,2,none⟩ (.bool true)) B t at_ true):=(set_k3 RB.o _).2.2;have HFIN:Hid (Rdr (wc.setCell ⟨B,1,none⟩ (.int .i64 p)) B t p bad):=(set_k3 RB.o _).2.1;clear hgb hgl hbx HB HGS CB K0 KA KB
  cases bad with
  |true =>
   go_wp2_with fail
   go_ret;exact⟨.inr ⟨fun h=>absurd h.1 (by decide),rfl,HBAD.o⟩,aft_set BX.o _ _⟩
  |false =>
   by_cases hc:c=0
   ·subst hc
    have hrd:rd t at_=(n,p.toNat,0)/\0<=p:=by
     rcases HC.o with h|h
     ·exact h.2
     ·exact absurd rfl h.1
    have HRD:=hideQ hrd;clear hrd;by_cases hr:0<=n/\n<=most
    ·go_wp2_with fail
     refine(Bi.is_yes n 0 most _ hr.1 hr.2).mono ?_;rintro e w2 ⟨rfl,rfl⟩;(go_wp2_with fail);go_ret;refine⟨.inl ⟨⟨rfl,by rw[HRD.o.1],by rw[HRD.o.1];exact hr.1,by rw[HRD.o.1];exact hr.2⟩,by rw[HRD.o.1];rfl,?_⟩,aft_set BX.o _ _⟩;rw[HRD.o.1,show ((p.toNat:Nat):Int)=p from Int.toNat_of_nonneg HRD.o.2];exact HFIN.o
    ·have HR:=hideQ hr
     (go_wp2_with fail);refine(Bi.is_no n 0 most _ (by omega)).mono ?_;rintro e w2 ⟨rfl,rfl⟩;clear hr;(go_wp2_with fail);go_ret;exact⟨.inr ⟨fun h=>HR.o (by have:=h.2.2;rw[HRD.o.1]at this;exact this),rfl,HBAD.o⟩,aft_set BX.o _ _⟩
   ·have hc':(c != 0)=true:=by simp;exact hc
    (go_wp2_with fail);go_ret;refine⟨.inr ⟨fun h=>?_,rfl,HBAD.o⟩,aft_set BX.o _ _⟩
    rcases HC.o with k|k
    ·exact hc k.1
    ·exact k.2 h.2.1
end Up
namespace Bi
open In (Ints IsI OwnIn OwnI)
open St (Aft)
theorem get_spec (l:List Int) (t:ByteArray) (m:Int) (a:Option Addr) (cap:Nat) (w:World) (hl:Ints w w.heap.size a l) (hn:l.length<=1048576) (ht:t.size<=1048576) :
  Calls prog 144 #[.slice a l.length cap,.string t,.int .i64 m] w fun e w'=>∃ v,e=.returned (.agg #[v,.int .i64 (getR l t m).2.1,.int .i64 (getR l t m).2.2])/\OwnIn w' w.heap.size w'.heap.size v (getR l t m).1/\Below w.heap.size w w':=by
 by_cases h4:400<l.length
 ·rw[getR_size (Or.inl h4)]
  clear hl;generalize l.length=n at hn h4 ⊢;go_enter func144,ntmps144
  go_wp2_with fail
  refine bodyPost_ret (v:=.agg #[.slice none 0 0,.int .i64 0,.int .i64 2]) (by simp[results,results144,go_sem]) rfl ⟨.slice none 0 0,rfl,nil_in _ _ _,(Below.refl _ _).alloc (Nat.le_refl _) _⟩
 ·have hd4:decide (400<(l.length:Int))=false:=decide_eq_false (by omega)
  by_cases h8:8000<t.size
  ·rw[getR_size (Or.inr h8)]
   clear hl;generalize l.length=n at hn h4 hd4 ⊢;go_enter func144,ntmps144
   go_wp2_with fail
   refine bodyPost_ret (v:=.agg #[.slice none 0 0,.int .i64 0,.int .i64 2]) (by simp[results,results144,go_sem]) rfl ⟨.slice none 0 0,rfl,nil_in _ _ _,(Below.refl _ _).alloc (Nat.le_refl _) _⟩
  ·have hd8:decide (8000<(t.size:Int))=false:=decide_eq_false (by omega)
   have hno:¬(400<l.length∨8000<t.size):=by omega
   have B0:=hideB ((Below.refl w.heap.size w).alloc (Nat.le_refl _) (.cells #[.slice none 0 0,.int .i64 0,.int .i64 0] 158));have hl0:=(hl.below B0.o).mono (by simp:w.heap.size<=(w.alloc (.cells #[.slice none 0 0,.int .i64 0,.int .i64 0] 158)).heap.size);have HWH:=hideB (l04Whole_any l a cap _ _ hl0 (by omega));have HGO:=hideB (good_spec t (w.alloc (.cells #[.slice none 0 0,.int .i64 0,.int .i64 0] 158)) ht)
   cases hw:whole l with
   |false =>
    rw[getR_form hno (Or.inl hw)];rw[hw]at HWH;clear hl hno hl0;generalize l.length=n at hn h4 hd4 HWH ⊢;go_enter func144,ntmps144;(go_wp2_with fail);refine HWH.o.mono ?_;rintro e w' ⟨rfl,hw'⟩;subst w';(go_wp2_with fail);refine bodyPost_ret (v:=.agg #[.slice none 0 0,.int .i64 0,.int .i64 1]) (by simp[results,results144,go_sem]) rfl ⟨.slice none 0 0,rfl,nil_in _ _ _,(Below.refl _ _).alloc (Nat.le_refl _) _⟩
   |true =>
    cases hg:good t with
    |false =>
     rw[getR_form hno (Or.inr (Or.inl hg))];rw[hw]at HWH;rw[hg]at HGO;clear hl hno hw hl0;generalize l.length=n at hn h4 hd4 HWH ⊢;go_enter func144,ntmps144;(go_wp2_with fail);refine HWH.o.mono ?_;rintro e w' ⟨rfl,hw'⟩;subst w';(go_wp2_with fail);refine HGO.o.mono ?_;rintro e w' ⟨rfl,hw'⟩;subst w';(go_wp2_with fail);refine bodyPost_ret (v:=.agg #[.slice none 0 0,.int .i64 0,.int .i64 1]) (by simp[results,results144,go_sem]) rfl ⟨.slice none 0 0,rfl,nil_in _ _ _,(Below.refl _ _).alloc (Nat.le_refl _) _⟩
    |true =>
     by_cases hm:m<0∨400<m
     ·rw[getR_form hno (Or.inr (Or.inr hm))]
      have HIS:=hideB (is_no m 0 400 (w.alloc (.cells #[.slice none 0 0,.int .i64 0,.int .i64 0] 158)) hm);rw[hw]at HWH;rw[hg]at HGO;clear hl hno hw hg hm hl0;generalize l.length=n at hn h4 hd4 HWH ⊢;go_enter func144,ntmps144;(go_wp2_with fail);refine HWH.o.mono ?_;rintro e w' ⟨rfl,hw'⟩;subst w';(go_wp2_with fail);refine HGO.o.mono ?_;rintro e w' ⟨rfl,hw'⟩;subst w';(go_wp2_with fail);refine HIS.o.mono ?_;rintro e w' ⟨rfl,hw'⟩;subst w';(go_wp2_with fail);refine bodyPost_ret (v:=.agg #[.slice none 0 0,.int .i64 0,.int .i64 1]) (by simp[results,results144,go_sem]) rfl ⟨.slice none 0 0,rfl,nil_in _ _ _,(Below.refl _ _).alloc (Nat.le_refl _) _⟩
     ·obtain⟨k,rfl⟩:∃ k:Nat,m=k:=⟨m.toNat,by omega⟩
      have HIS:=hideB (is_yes k 0 400 (w.alloc (.cells #[.slice none 0 0,.int .i64 0,.int .i64 0] 158)) (by omega) (by omega));have HGE:=hideB (l04Get_any l t k a cap _ hl0 (by omega) (whole_right hw) (by omega));rw[getR_in hno hw hg (by omega)];rw[hw]at HWH;rw[hg]at HGO;have hz0:(w.alloc (.cells #[.slice none 0 0,.int .i64 0,.int .i64 0] 158)).heap.size=w.heap.size+1:=(by simp);have O0:=hideB (Out0.new w);clear hl hno hw hg hm hl0;obtain⟨q,hq⟩:∃ q,q=outS (st l t k):=⟨_,rfl⟩;rw[<-hq]at HGE ⊢;clear hq;generalize l.length=n at hn h4 hd4 HWH HGE ⊢;go_enter func144,ntmps144;(go_wp2_with fail);refine HWH.o.mono ?_;rintro e w' ⟨rfl,hw'⟩;subst w';(go_wp2_with fail);refine HGO.o.mono ?_;rintro e w' ⟨rfl,hw'⟩;subst w';(go_wp2_with fail);refine HIS.o.mono ?_;rintro e w' ⟨rfl,hw'⟩;subst w';(go_wp2_with fail);refine HGE.o.mono ?_;rintro e w2 ⟨v,rfl,hv,hb2⟩;rw[hz0]at hv hb2;have V2:=hideB hv;have B2:=hideB (B0.o.trans (hb2.mono (Nat.le_succ _)));have O2:=hideB (O0.o.below hb2 (Nat.lt_succ_self _));obtain⟨x,c,rfl,_⟩:=hv.ints;obtain⟨ql,hql⟩:∃ ql,ql=q.1.length:=⟨_,rfl⟩;rw[<-hql]at V2 ⊢;clear hv hb2 hz0 hql;have c0:=O2.o.c0;have c1:=O2.o.c1;have c2:=O2.o.c2;have f0:=O2.o.fr 0;have f1:=O2.o.fr 1;have f2:=O2.o.fr 2;(go_wp2_with fail);refine bodyPost_ret (v:=.agg #[.slice x ql c,.int .i64 q.2.1,.int .i64 q.2.2]) (by simp[results,results144,go_sem,c0,c1,c2]) rfl ⟨.slice x ql c,rfl,?_,?_⟩
      ·have h1:=in_mono (hi':=w2.heap.size) V2.o (Nat.le_succ w.heap.size) (Nat.le_refl _)
       have h2:OwnIn (((w2.setCell ⟨w.heap.size,0,none⟩ (.slice x ql c)).setCell ⟨w.heap.size,1,none⟩ (.int .i64 q.2.1)).setCell ⟨w.heap.size,2,none⟩ (.int .i64 q.2.2)) (w.heap.size+1) w2.heap.size (.slice x ql c) q.1:=by
        rcases V2.o with h|⟨g,cc,hv,hg,hh,ho⟩
        ·exact .inl h
        ·exact .inr ⟨g,cc,hv,hg,hh,((ho.of_heap (heap_setCell_other _ ⟨w.heap.size,0,none⟩ g _ (by simp;omega))).of_heap (heap_setCell_other _ ⟨w.heap.size,1,none⟩ g _ (by simp;omega))).of_heap (heap_setCell_other _ ⟨w.heap.size,2,none⟩ g _ (by simp;omega))⟩
       exact in_mono h2 (Nat.le_succ _) (by simp[World.setCell])
      ·exact((B2.o.setCell (Nat.le_refl _) _).setCell (Nat.le_refl _) _).setCell (Nat.le_refl _) _
end Bi
namespace So
open Go.RowKit Go.Sort Go.Proofs
open Sh (bt bt_get bt_lt strF IsB)
open In (OwnI Ints one_newI one_cellI)
open In.Tryz (infoI2)
open Nu (bv)
open Ap (Own0 wpList_append_own0)
open Fr (Own0B own0_string one_newB one_cellB own0B_snoc)
theorem wrap_byte (y:UInt8):wrap64 ((y.toNat:Nat):Int)=((y.toNat:Nat):Int):=by
 have h:=UInt8.toNat_lt y;generalize y.toNat=n at h;simp only[wrap64];omega
theorem l05Back_spec (t:ByteArray) (a:Nat) (w:World) (ht:t.size<=48) (ha:a<t.size∨t.size=0) :
  Calls prog 187 #[.string t,.int .i64 a] w fun e w'=>e=.returned (.string (backT t a))/\Below w.heap.size w w':=by
 obtain⟨i0,hi0,hz0,hz1,hz2⟩:=info_parts Nu.Tryz.infoJ5;obtain⟨i1,hi1,hy0,hy1,hy2⟩:=info_parts infoI2;have HW:=hideO (Ze.OwnI.empty w);go_enter func187,ntmps187
 go_wp2_with fail
 go_loopw [6,5] (fun i u wr=>∃ b:Nat,i=.int .i64 b/\b<=256/\OwnI wr w.heap.size u (ints (plK t b))/\Below w.heap.size w wr) (fun i _ _=>256-(intOf i).toNat)
 case atStart=>exact⟨0,rfl,by omega,HW.o,(Below.refl _ _).alloc (Nat.le_refl _) _⟩
 case round =>
  obtain⟨b,rfl,hb,hown,hbel⟩:=hrel;have O1:=hideO hown;have GB:=hideO hbel;have hsz:=hbel.size;clear hbel;by_cases hb2:b<256
  ·have hbz:(b:Int)<256:=by omega
   clear hown
   go_wp2_with fail
   go_loopw [7,5] (fun i u wr=>∃ k:Nat,i=.int .i64 k/\k<=t.size/\OwnI wr w.heap.size u (ints (plK t b++plB t b k))/\Below w.heap.size w wr) (fun i _ _=>t.size-(intOf i).toNat)
   case atStart=>exact⟨0,rfl,Nat.zero_le _,by rw[show plK t b++plB t b 0=plK t b by simp[plB]];exact O1.o,GB.o⟩
   case round =>
    obtain⟨k,rfl,hk,hown,hbel⟩:=hrel;have O2:=hideO hown;have GB2:=hideO hbel;have hsz2:=hbel.size;obtain⟨a',cap',rfl,_,_⟩:=hown.ints
    have HLL:Hid ((ints (plK t b++plB t b k)).length<=256*48+48):=by
     unfold Hid;rw[ints_len,List.length_append];have h1:=plK_len t b;have h2:=plB_len t b k;have h3:b*t.size<=256*48:=Nat.mul_le_mul hb ht;omega
    have HYB:=hideO (plB_yes t b k);have HNB:=hideO (plB_no t b k);clear hown hbel;by_cases hlt:k<t.size
    ·have hkz:(k:Int)<(t.size:Int):=by omega
     obtain⟨y,hy,hyt⟩:∃ y:UInt8,t[k]=y/\y.toNat=bt t k:=⟨_,rfl,bt_get _ _ hlt⟩;by_cases hq:bt t k=b
     ·have hyb:(wrap64 ((y.toNat:Nat):Int)==(b:Int))=true:=by rw[wrap_byte];exact beq_iff_eq.2 (by omega)
      have HN:Hid (ints (plK t b++plB t b (k+1))=ints (plK t b++plB t b k)++[(k:Int)]):=by
       unfold Hid;rw[HYB.o hq,<-List.append_assoc,ints_snoc]
      obtain⟨L,hL⟩:∃ L,L=ints (plK t b++plB t b k):=⟨_,rfl⟩;rw[<-hL]at O2 HLL HN ⊢;clear hyt hq hL HYB HNB
      go_wp2_with (at_builtin;refine wpList_append_own _ rfl (.tmp 27) (.tmp 29) 80 rfl w.heap.size 2 i1 (.int .i64 0) 1 8 underlying80 hi1 hy0 hy1 hy2 rfl (by decide) _ L.length (L.map (Value.int .i64)) rfl ?own ⟨wr.heap.size,0,none⟩ 1 1 [.int .i64 (k:Nat)] rfl rfl (one_newI _ _ _) (one_cellI _) (by unfold maxLen;have:=HLL.o;omega) (by have:=HLL.o;omega) (by simp;omega) ?_)
      case own=>exact Ze.OwnI.alloc O2.o _
      intro v' w5 hown' hgrow _;have N5:Hid (OwnI w5 w.heap.size v' (L++[(k:Int)])):=In.OwnI.snoc hown';have b5:=hideO (In.app_one GB2.o hsz2 (Nat.le_refl _) O2.o hgrow);clear hown' hgrow;(go_wp2_with fail)
      go_roundw
      case rel=>exact⟨k+1,by go_num,by omega,by rw[HN.o];exact N5.o,b5.o⟩
      case measure=>simp[intOf];omega
     ·have hyb:(wrap64 ((y.toNat:Nat):Int)==(b:Int))=false:=by rw[wrap_byte];exact beq_eq_false_iff_ne.2 (by omega)
      have HN:=hideO (HNB.o hq);clear hyt hq HYB HNB;(go_wp2_with fail)
      go_roundw
      case rel=>exact⟨k+1,by go_num,by omega,by rw[HN.o];exact O2.o,GB2.o⟩
      case measure=>simp[intOf];omega
    ·obtain rfl:k=t.size:=by omega
     have HN:=hideO (plK_succ t b);(go_wp2_with fail)
     go_roundw
     case rel=>exact⟨b+1,by go_num,by omega,by rw[HN.o];exact O2.o,GB2.o⟩
     case measure=>simp[intOf];omega
  ·have hb3:¬(b:Int)<256:=by omega
   have ho:OwnI wr w.heap.size u5 (ints (pl t)):=by
    have h:=hown;rw[show b=256 by omega]at h;exact h
   obtain⟨g,cap,rfl,hcap,hI⟩:=ho.ints;have HI:=hideO hI;rw[ints_len,pl_len]at hcap ⊢;obtain⟨w1,hw1⟩:∃ w1,w1=wr:=⟨_,rfl⟩;rw[<-hw1]at HI GB hsz ⊢;clear hown ho hI O1 hw1 hb2 hb
   go_wp2_with fail
   go_loopw [9,8,1] (fun i u m wr=>∃ k:Nat,i=.int .i64 k/\k<=t.size/\m=.int .i64 (itR t a k:Nat)/\Own0B wr (w1.heap.size+1) u (blK t a k)/\w1.heap.size<wr.heap.size/\Below w1.heap.size w1 wr) (fun i _ _ _=>t.size-(intOf i).toNat)
   case atStart=>exact⟨0,rfl,Nat.zero_le _,rfl,.inl ⟨_,rfl,rfl,rfl⟩,by simp,(Below.refl _ _).alloc (Nat.le_refl _) _⟩
   case round =>
    obtain⟨k,rfl,hk,rfl,hown,hgs,hbel⟩:=hrel;have O1:=hideO hown;have GB3:=hideO hbel;clear hbel;by_cases hlt:k<t.size
    ·have hd0:decide ((k:Int)<(t.size:Int))=true:=decide_eq_true (by omega)
     have hkz:(k:Int)<(t.size:Int):=by omega
     have hat:a<t.size:=by omega
     have hr1:=itR_lt t a k hat;have hr2:=itR_lt t a (k+1) hat;have e0:itR t a (k+1)=plF t (itR t a k):=rfl;have hpl:(ints (pl t)).length=t.size:=(by rw[ints_len,pl_len]);obtain⟨gb,off,rfl,hb,hc⟩:=(HI.o.below GB3.o).some (by omega);have c1:=hc (itR t a k) (by omega)
     have ey:(ints (pl t))[itR t a k]'(by omega)=((itR t a (k+1):Nat):Int):=by
      rw[e0,<-plF_get t _ (by rw[pl_len];exact hr1)];simp[ints]
     rw[ey]at c1;have HN:=hideO (blK_snoc t a k);obtain⟨p,hp⟩:∃ p,p=itR t a k:=⟨_,rfl⟩;obtain⟨q,hq⟩:∃ q,q=itR t a (k+1):=⟨_,rfl⟩;have HQ:=hideO hq;rw[<-hp,<-hq]at c1;rw[<-hq]at hr2 HN;rw[<-hp]at hr1 ⊢;have hpz:(p:Int)<(t.size:Int):=(by omega);have hqz:(q:Int)<(t.size:Int):=(by omega);obtain⟨y,hy,hyt⟩:∃ y:UInt8,t[q]=y/\y.toNat=bt t q:=⟨_,rfl,bt_get _ _ hr2⟩;rw[<-hyt]at HN;have HBL:=hideO (blK_len t a k);have HY:=hideO (UInt8.toNat_lt y);obtain⟨bs,hbs⟩:∃ bs,bs=blK t a k:=⟨_,rfl⟩;rw[<-hbs]at O1 HN HBL;clear hc ey hown e0 hp hq hyt hbs hpl ha
     go_wp2_with (at_builtin;refine wpList_append_own0 _ rfl (.tmp 42) (.tmp 46) 22 rfl (w1.heap.size+1) 5 i0 (.int .u8 0) 1 1 underlying22 hi0 hz0 hz1 hz2 rfl (by decide) _ bs.length (bs.map bv) rfl (Own0.alloc O1.o _) ⟨wr.heap.size,0,none⟩ 1 1 [.int .u8 (y.toNat:Nat)] rfl rfl (one_newB _ _ _) (one_cellB _) (by decide) (by unfold maxLen;have:=HBL.o;omega) (by have:=HBL.o;omega) (by simp;omega) ?_)
     intro v' w5 hown' hb5;have N5:=hideO (own0B_snoc (by omega) (by have:=HY.o;omega) hown');have ba:Below (w1.heap.size+1) wr w5:=((Below.refl (w1.heap.size+1) wr).alloc (by omega) _).trans (hb5 _ (Nat.le_refl _));have B5:=hideO (GB3.o.trans (ba.mono (by omega)));have z5:=ba.size;clear hown' hb5 ba c1;(go_wp2_with fail)
     go_roundw
     case rel=>exact⟨k+1,by go_num,by omega,by rw[<-HQ.o],by rw[HN.o];exact N5.o,by omega,B5.o⟩
     case measure=>simp[intOf];omega
    ·have hd0:decide ((k:Int)<(t.size:Int))=false:=decide_eq_false (by omega)
     obtain rfl:k=t.size:=by omega
     have hcv:=own0_string (P:=prog) (src:=22) (dst:=9) _ hown underlying22 underlying5 underlying9;rw[blK_all]at hcv;have BZ:=hideO (GB.o.trans (GB3.o.mono hsz));generalize itR t a t.size=m;clear hown ha;(go_wp2_with fail);go_ret;exact⟨rfl,BZ.o⟩
end So
namespace So
open Go.RowKit Go.Sort Go.Proofs
theorem unbwt_spec (t:ByteArray) (a:Int) (w:World) (hn:t.size<=1048576) :
  Calls prog 146 #[.string t,.int .i64 a] w fun e w'=>e=.returned (unR t a)/\Below w.heap.size w w':=by
 by_cases hbig:8000<t.size
 ·have HV:=hideO (unR_big (a:=a) hbig)
  go_enter func146,ntmps146
  go_wp2_with fail
  refine bodyPost_ret (v:=tOut ⟨#[]⟩ 0 2) (by simp[results,tOut,results146,go_sem]) rfl ⟨by rw[HV.o],?_⟩;exact(Below.refl _ _).alloc (Nat.le_refl _) _
 ·have hbig':¬(8000:Int)<(t.size:Int):=by omega
  obtain⟨w0,hw0⟩:∃ w0,w0=w.alloc (.cells #[.string ⟨#[]⟩,.int .i64 0,.int .i64 0] 67):=⟨_,rfl⟩
  have z0:w0.heap.size=w.heap.size+1:=by rw[hw0];simp
  have HR0:Hid (IsX w0 w.heap.size):=by unfold Hid;rw[hw0];exact heap_alloc_last w _
  have HB0:Hid (Below w.heap.size w w0):=by unfold Hid;rw[hw0];exact(Below.refl _ _).alloc (Nat.le_refl _) _
  have HIP:=hideO (block_spec t w0 hn);by_cases hlong:48<t.size
  ·have HV:=hideO (unR_form (a:=a) hbig (Or.inl hlong))
   rw[decide_eq_false (by omega:¬t.size<=48)]at HIP;go_enter func146,ntmps146
   go_wp2_with fail
   rw[<-hw0];refine HIP.o.mono ?_;rintro e w' ⟨rfl,hw⟩;subst w';subst hw0
   go_wp2_with fail
   refine bodyPost_ret (v:=tOut ⟨#[]⟩ 0 1) (by simp[results,tOut,results146,go_sem]) rfl ⟨by rw[HV.o],?_⟩;exact(Below.refl _ _).alloc (Nat.le_refl _) _
  ·rw[decide_eq_true (by omega:t.size<=48)]at HIP
   by_cases hbad:a<0∨((t.size:Int)<=a/\0<a)
   ·have HV:=hideO (unR_form hbig (Or.inr hbad))
    by_cases hneg:a<0
    ·have hd1:decide (a<0)=true:=decide_eq_true hneg
     clear hbad;go_enter func146,ntmps146;(go_wp2_with fail);rw[<-hw0];refine HIP.o.mono ?_;rintro e w' ⟨rfl,hw⟩;subst w';subst hw0;(go_wp2_with fail);refine bodyPost_ret (v:=tOut ⟨#[]⟩ 0 1) (by simp[results,tOut,results146,go_sem]) rfl ⟨by rw[HV.o],?_⟩;exact(Below.refl _ _).alloc (Nat.le_refl _) _
    ·have hd1:decide (a<0)=false:=decide_eq_false hneg
     have hd2:decide ((t.size:Int)<=a)=true:=decide_eq_true (by omega);have hd3:decide (0<a)=true:=decide_eq_true (by omega);have hd4:decide (a<(t.size:Int))=false:=decide_eq_false (by omega);have p2:(t.size:Int)<=a:=(by omega);have p3:0<a:=(by omega);clear hbad;go_enter func146,ntmps146;(go_wp2_with fail);rw[<-hw0];refine HIP.o.mono ?_;rintro e w' ⟨rfl,hw⟩;subst w';subst hw0;(go_wp2_with fail);refine bodyPost_ret (v:=tOut ⟨#[]⟩ 0 1) (by simp[results,tOut,results146,go_sem]) rfl ⟨by rw[HV.o],?_⟩;exact(Below.refl _ _).alloc (Nat.le_refl _) _
   ·obtain⟨m,rfl⟩:∃ m:Nat,a=m:=⟨a.toNat,by omega⟩
    have hd1:decide ((m:Int)<0)=false:=decide_eq_false (by omega);have HTB:=hideO (l05Back_spec t m w0 (by omega) (by omega));have hbz:=backT_size t m;have HBW:=hideO (fun W=>l05Bwt_spec (backT t m) W (by omega));have HY:=hideO (fun h=>unR_yes (t:=t) (a:=m) (by omega) (by omega) h);have HNO:=hideO (fun h=>unR_no (t:=t) (a:=m) (by omega) (by omega) h);obtain⟨b,hb⟩:∃ b,b=backT t m:=⟨_,rfl⟩;obtain⟨bt',hbt⟩:∃ bt',bt'=bwtT b:=⟨_,rfl⟩;obtain⟨ba,hba⟩:∃ ba,ba=bwtA b:=⟨_,rfl⟩;rw[<-hb]at HTB HBW HY HNO;rw[<-hbt,<-hba]at HBW HY HNO;have hcase:(¬t.size<=m)∨(t.size<=m/\¬0<m):=(by omega);clear hb hbt hba hbz hbad
    have HALL:Hid (∀ w1:World,Below w0.heap.size w0 w1->∀ w2:World,Below w1.heap.size w1 w2->IsX w2 w.heap.size/\Below w.heap.size w w2/\w.heap.size<w2.heap.size):=fun w1 h1 w2 h2=>by
     have z1:=h1.size;have z2:=h2.size;exact⟨(h2.block w.heap.size (by omega)).trans ((h1.block w.heap.size (by omega)).trans HR0.o),(HB0.o.trans (h1.mono (by omega))).trans (h2.mono (by omega)),by omega⟩
    by_cases hq:bt'=t/\ba=m
    ·obtain⟨rfl,rfl⟩:=hq
     have HV:=hideO (HY.o ⟨rfl,rfl⟩);clear HY HNO
     rcases hcase with p2|⟨p2,p3⟩
     ·have q2:¬(bt'.size:Int)<=(ba:Int):=by omega
      have d2:decide (bt'.size<=ba)=false:=decide_eq_false p2;have d2z:decide ((bt'.size:Int)<=(ba:Int))=false:=decide_eq_false q2;go_enter func146,ntmps146;(go_wp2_with fail);rw[<-hw0];refine HIP.o.mono ?_;rintro e w' ⟨rfl,hw⟩;subst w';(go_wp2_with fail);rw[<-hw0];refine HTB.o.mono ?_;rintro e w1 ⟨rfl,hb1⟩;have HB1:=hideO hb1;clear hb1;(go_wp2_with fail);refine(HBW.o w1).mono ?_;rintro e w2 ⟨rfl,hb2⟩;obtain⟨hr2,hg2,z2⟩:=HALL.o w1 HB1.o w2 hb2;have GB:=hideO hg2;obtain⟨c0,c1,c2,f0⟩:=hr2.cells;clear hr2 hb2 hg2;(go_wp2_with fail);refine bodyPost_ret (v:=tOut b 0 0) (by simp[results,tOut,results146,go_sem,c0,c1,c2]) rfl ⟨by rw[HV.o],?_⟩;exact((GB.o.setCell (Nat.le_refl _) _).setCell (Nat.le_refl _) _).setCell (Nat.le_refl _) _
     ·have q2:(bt'.size:Int)<=(ba:Int):=by omega
      have d2:decide (bt'.size<=ba)=true:=decide_eq_true p2;have d2z:decide ((bt'.size:Int)<=(ba:Int))=true:=decide_eq_true q2;have q3:¬(0:Int)<(ba:Int):=(by omega);have d3:decide (0<ba)=false:=decide_eq_false p3;have d3z:decide ((0:Int)<(ba:Int))=false:=decide_eq_false q3;go_enter func146,ntmps146;(go_wp2_with fail);rw[<-hw0];refine HIP.o.mono ?_;rintro e w' ⟨rfl,hw⟩;subst w';(go_wp2_with fail);rw[<-hw0];refine HTB.o.mono ?_;rintro e w1 ⟨rfl,hb1⟩;have HB1:=hideO hb1;clear hb1;(go_wp2_with fail);refine(HBW.o w1).mono ?_;rintro e w2 ⟨rfl,hb2⟩;obtain⟨hr2,hg2,z2⟩:=HALL.o w1 HB1.o w2 hb2;have GB:=hideO hg2;obtain⟨c0,c1,c2,f0⟩:=hr2.cells;clear hr2 hb2 hg2;(go_wp2_with fail);refine bodyPost_ret (v:=tOut b 0 0) (by simp[results,tOut,results146,go_sem,c0,c1,c2]) rfl ⟨by rw[HV.o],?_⟩;exact((GB.o.setCell (Nat.le_refl _) _).setCell (Nat.le_refl _) _).setCell (Nat.le_refl _) _
    ·have HV:=hideO (HNO.o hq)
     by_cases hqt:bt'=t
     ·subst hqt
      have hqm:((ba:Int) != (m:Int))=true:=bne_iff_ne.2 (fun e=>hq ⟨rfl,by omega⟩);clear hq HY HNO
      rcases hcase with p2|⟨p2,p3⟩
      ·have q2:¬(bt'.size:Int)<=(m:Int):=by omega
       have d2:decide (bt'.size<=m)=false:=decide_eq_false p2;have d2z:decide ((bt'.size:Int)<=(m:Int))=false:=decide_eq_false q2;go_enter func146,ntmps146;(go_wp2_with fail);rw[<-hw0];refine HIP.o.mono ?_;rintro e w' ⟨rfl,hw⟩;subst w';(go_wp2_with fail);rw[<-hw0];refine HTB.o.mono ?_;rintro e w1 ⟨rfl,hb1⟩;have HB1:=hideO hb1;clear hb1;(go_wp2_with fail);refine(HBW.o w1).mono ?_;rintro e w2 ⟨rfl,hb2⟩;obtain⟨hr2,hg2,z2⟩:=HALL.o w1 HB1.o w2 hb2;have GB:=hideO hg2;obtain⟨c0,c1,c2,f0⟩:=hr2.cells;clear hr2 hb2 hg2;(go_wp2_with fail);refine bodyPost_ret (v:=tOut ⟨#[]⟩ 0 3) (by simp[results,tOut,results146,go_sem,c0,c1,c2]) rfl ⟨by rw[HV.o],?_⟩;exact((GB.o.setCell (Nat.le_refl _) _).setCell (Nat.le_refl _) _).setCell (Nat.le_refl _) _
      ·have q2:(bt'.size:Int)<=(m:Int):=by omega
       have d2:decide (bt'.size<=m)=true:=decide_eq_true p2;have d2z:decide ((bt'.size:Int)<=(m:Int))=true:=decide_eq_true q2;have q3:¬(0:Int)<(m:Int):=(by omega);have d3:decide (0<m)=false:=decide_eq_false p3;have d3z:decide ((0:Int)<(m:Int))=false:=decide_eq_false q3;go_enter func146,ntmps146;(go_wp2_with fail);rw[<-hw0];refine HIP.o.mono ?_;rintro e w' ⟨rfl,hw⟩;subst w';(go_wp2_with fail);rw[<-hw0];refine HTB.o.mono ?_;rintro e w1 ⟨rfl,hb1⟩;have HB1:=hideO hb1;clear hb1;(go_wp2_with fail);refine(HBW.o w1).mono ?_;rintro e w2 ⟨rfl,hb2⟩;obtain⟨hr2,hg2,z2⟩:=HALL.o w1 HB1.o w2 hb2;have GB:=hideO hg2;obtain⟨c0,c1,c2,f0⟩:=hr2.cells;clear hr2 hb2 hg2;(go_wp2_with fail);refine bodyPost_ret (v:=tOut ⟨#[]⟩ 0 3) (by simp[results,tOut,results146,go_sem,c0,c1,c2]) rfl ⟨by rw[HV.o],?_⟩;exact((GB.o.setCell (Nat.le_refl _) _).setCell (Nat.le_refl _) _).setCell (Nat.le_refl _) _
     ·have hqe:(bt'.toList==t.toList)=false:=by rw[list_eq_iff];exact decide_eq_false hqt
      clear hq hqt HY HNO
      rcases hcase with p2|⟨p2,p3⟩
      ·have q2:¬(t.size:Int)<=(m:Int):=by omega
       have d2:decide (t.size<=m)=false:=decide_eq_false p2;have d2z:decide ((t.size:Int)<=(m:Int))=false:=decide_eq_false q2;go_enter func146,ntmps146;(go_wp2_with fail);rw[<-hw0];refine HIP.o.mono ?_;rintro e w' ⟨rfl,hw⟩;subst w';(go_wp2_with fail);rw[<-hw0];refine HTB.o.mono ?_;rintro e w1 ⟨rfl,hb1⟩;have HB1:=hideO hb1;clear hb1;(go_wp2_with fail);refine(HBW.o w1).mono ?_;rintro e w2 ⟨rfl,hb2⟩;obtain⟨hr2,hg2,z2⟩:=HALL.o w1 HB1.o w2 hb2;have GB:=hideO hg2;obtain⟨c0,c1,c2,f0⟩:=hr2.cells;clear hr2 hb2 hg2;(go_wp2_with fail);refine bodyPost_ret (v:=tOut ⟨#[]⟩ 0 3) (by simp[results,tOut,results146,go_sem,c0,c1,c2]) rfl ⟨by rw[HV.o],?_⟩;exact((GB.o.setCell (Nat.le_refl _) _).setCell (Nat.le_refl _) _).setCell (Nat.le_refl _) _
      ·have q2:(t.size:Int)<=(m:Int):=by omega
       have d2:decide (t.size<=m)=true:=decide_eq_true p2;have d2z:decide ((t.size:Int)<=(m:Int))=true:=decide_eq_true q2;have q3:¬(0:Int)<(m:Int):=(by omega);have d3:decide (0<m)=false:=decide_eq_false p3;have d3z:decide ((0:Int)<(m:Int))=false:=decide_eq_false q3;go_enter func146,ntmps146;(go_wp2_with fail);rw[<-hw0];refine HIP.o.mono ?_;rintro e w' ⟨rfl,hw⟩;subst w';(go_wp2_with fail);rw[<-hw0];refine HTB.o.mono ?_;rintro e w1 ⟨rfl,hb1⟩;have HB1:=hideO hb1;clear hb1;(go_wp2_with fail);refine(HBW.o w1).mono ?_;rintro e w2 ⟨rfl,hb2⟩;obtain⟨hr2,hg2,z2⟩:=HALL.o w1 HB1.o w2 hb2;have GB:=hideO hg2;obtain⟨c0,c1,c2,f0⟩:=hr2.cells;clear hr2 hb2 hg2;(go_wp2_with fail);refine bodyPost_ret (v:=tOut ⟨#[]⟩ 0 3) (by simp[results,tOut,results146,go_sem,c0,c1,c2]) rfl ⟨by rw[HV.o],?_⟩;exact((GB.o.setCell (Nat.le_refl _) _).setCell (Nat.le_refl _) _).setCell (Nat.le_refl _) _
end So
namespace Ze
open In (Ints OwnI IsO one_newI one_cellI app_one)
open In.Tryz (infoI2)
theorem min_any (p q:Nat) (w:World):Calls prog 78 #[.int .i64 p,.int .i64 q] w fun e w'=>e=.returned (.int .i64 (min p q:Nat))/\w'=w:=by
 by_cases h:p<q
 ·have HE:Hid (min p q=p):=by unfold Hid;omega
  rw[HE.o]
  have h':(p:Int)<q:=by omega
  go_enter func78,ntmps78
  go_wp2_with fail
  go_ret;exact⟨rfl,rfl⟩
 ·have HE:Hid (min p q=q):=by unfold Hid;omega
  rw[HE.o]
  have h':¬(p:Int)<q:=by omega
  go_enter func78,ntmps78
  go_wp2_with fail
  go_ret;exact⟨rfl,rfl⟩
def Bs (l:List Int) (k:Nat) (lo:List Int) (q:Nat):Prop :=
 ((bst (l.take k)).1.length<=400/\lo=(bst (l.take k)).1/\q=(bst (l.take k)).2)∨(400<(bst (l.take k)).1.length/\400<lo.length)
theorem Bs.one {l:List Int} {k:Nat} {lo:List Int} {q:Nat} (h:Bs l k lo q) (hk:k<l.length) (h1:1<l[k]):Bs l (k+1) (lo++[l[k]-1]) 1:=by
 have e:=bst_one hk h1
 rcases h with⟨h4,rfl,rfl⟩|⟨h4,h5⟩
 ·by_cases h6:(bst (l.take k)).1.length+1<=400
  ·exact .inl ⟨by rw[e];simpa using h6,by rw[e],by rw[e]⟩
  ·exact .inr ⟨by rw[e];simp;omega,by simp;omega⟩
 ·exact .inr ⟨by rw[e];simp;omega,by simp;omega⟩
theorem Bs.zeros {l:List Int} {k:Nat} {lo:List Int} {q j:Nat} (h:Bs l k lo q) (hk:k<l.length) (h1:¬1<l[k]) (hj:j<=(l[k].toNat+1)*q) (hs:j=(l[k].toNat+1)*q∨400<lo.length+j) :
  Bs l (k+1) (lo++List.replicate j 0) (min 1000 (2*q)):=by
 have e:=bst_zeros hk h1;have hw:=bst_worth l k (by omega);have hg:=bst_grow hk
 have hl:(bst (l.take (k+1))).1.length=(bst (l.take k)).1.length+(l[k].toNat+1)*(bst (l.take k)).2:=by rw[e];simp
 rcases h with⟨h4,rfl,rfl⟩|⟨h4,h5⟩
 ·by_cases h6:(bst (l.take k)).1.length+(l[k].toNat+1)*(bst (l.take k)).2<=400
  ·have hj2:j=(l[k].toNat+1)*(bst (l.take k)).2:=by omega
   refine .inl ⟨by omega,by rw[e,hj2],?_⟩;rw[e]
   simp only
   have:(bst (l.take k)).2<=(l[k].toNat+1)*(bst (l.take k)).2:=Nat.le_mul_of_pos_left _ (by omega)
   omega
  ·refine .inr ⟨by omega,?_⟩
   rw[List.length_append,List.length_replicate]
   rcases hs with hs|hs<;>omega
 ·refine .inr ⟨by omega,?_⟩
  rw[List.length_append];omega
theorem Bs.done {l:List Int} {lo:List Int} {q:Nat} (h:Bs l l.length lo q) (hn:numsR l 256=true):backR l=if 400<lo.length then [] else lo:=by
 unfold Bs at h;rw[List.take_length]at h
 rcases h with⟨h4,rfl,rfl⟩|⟨h4,h5⟩
 ·rw[backR_yes hn h4,if_neg (by omega)]
 ·rw[if_pos h5]
  exact backR_long (k:=l.length) (Nat.le_refl _) (by rw[List.take_length];exact h4)
theorem zerosBack_spec (l:List Int) (a:Option Addr) (cap B:Nat) (w:World) (hi:Ints w B a l) (hB:B<=w.heap.size) (hn:l.length<=1048576) :
  Calls prog 148 #[.slice a l.length cap] w fun e w'=>∃ v,e=.returned v/\OwnI w' w.heap.size v (backR l)/\Below w.heap.size w w':=by
 obtain⟨i0,hi0,hz0,hz1,hz2⟩:=info_parts infoI2;have hb0:Below w.heap.size w (w.alloc (.cells #[] 2)):=(Below.refl _ _).alloc (Nat.le_refl _) _;have HU:=hideZ (nums_spec l 256 a cap w.heap.size (w.alloc (.cells #[] 2)) ((hi.mono hB).below hb0) hn);have HW:=hideZ (OwnI.empty w);have HB0:=hideZ hb0
 cases hu:numsR l 256 with
 |false =>
  rw[backR_no hu];rw[hu]at HU;clear hi hu hb0;generalize l.length=n at HU hn ⊢;go_enter func148,ntmps148
  go_wp2_with fail
  refine HU.o.mono ?_;rintro e w' ⟨rfl,hw⟩;subst w'
  go_wp2_with fail
  go_ret;exact⟨_,rfl,HW.o,HB0.o⟩
 |true =>
  have HNR:=hideZ hu;have HUP:=hideZ (upTo_yes (numsR_yes hu).2);have hlong:=(numsR_yes hu).1;rw[hu]at HU;have HS:=hideZ (hi.mono hB);clear hi hu hb0;obtain⟨n,hln⟩:∃ n,n=l.length:=⟨_,rfl⟩;have HLN:=hideZ hln;rw[<-hln]at HU hlong ⊢;clear hln hn;go_enter func148,ntmps148
  go_wp2_with fail
  refine HU.o.mono ?_;rintro e w' ⟨rfl,hw⟩;subst w'
  go_wp2_with fail
  go_loopw [5,3,4] (fun i u m wr=>∃ (k q:Nat) (lo:List Int),i=.int .i64 k/\m=.int .i64 q/\k<=n/\q<=1000/\lo.length<=401+k/\Bs l k lo q/\OwnI wr w.heap.size u lo/\Below w.heap.size w wr) (fun i _ _ _=>n-(intOf i).toNat)
  case atStart=>exact⟨0,1,[],rfl,rfl,Nat.zero_le _,by omega,by simp,.inl ⟨by simp[bst],rfl,rfl⟩,HW.o,HB0.o⟩
  case round =>
   obtain⟨k,q,lo,rfl,rfl,hk,hq,h400,hbs,hown,hbel⟩:=hrel;have GB:=hideZ hbel;have HBS:=hideZ hbs;have hsz:=hbel.size;have G1:=hideZ hown;obtain⟨a',cap',rfl,_,_⟩:=hown.ints;clear hown hbel hbs;by_cases hlt:k<n
   ·have hkl:k<l.length:=by rw[<-HLN.o];exact hlt
    obtain⟨b,off,rfl,hb,hc⟩:=(HS.o.below GB.o).some (by omega);have ci:=hc k hkl;have hx256:=HUP.o _ (List.getElem_mem hkl)
    have HC:Hid (∀ W:World,Below w.heap.size w W->W.cell? ⟨b,off+k,none⟩=some (.int .i64 l[k])):=fun W hW=>by
     obtain⟨b',off',e1,_,hc'⟩:=((HS.o.below hW).some (by omega:0<l.length))
     cases e1
     exact hc' k hkl
    obtain⟨x,hx⟩:∃ x,x=l[k]:=⟨_,rfl⟩;have HX:=hideZ hx;rw[<-hx]at ci hx256 HC;clear hc hx;by_cases h0:1<x
    ·have HZ1:Hid (Bs l (k+1) (lo++[x-1]) 1):=by
      unfold Hid;rw[HX.o];exact HBS.o.one hkl (by rw[<-HX.o];exact h0)
     go_wp2_with (at_builtin;refine wpList_append_own _ rfl (.tmp 23) (.tmp 29) 80 rfl w.heap.size 2 i0 (.int .i64 0) 1 8 underlying80 hi0 hz0 hz1 hz2 rfl (by decide) _ _ _ rfl (OwnI.alloc G1.o _) ⟨wr.heap.size,0,none⟩ 1 1 [.int .i64 (x-1)] rfl rfl (one_newI _ _ _) (one_cellI _) (by unfold maxLen;omega) (by omega) (by simp;omega) ?_)
     intro v' w6 hown' hgrow _;have N6:=hideZ (OwnI.snoc hown');have b6:=hideZ (app_one GB.o (by omega) (Nat.le_refl _) G1.o hgrow);clear hown' hgrow;(go_wp2_with fail)
     go_roundw
     case rel=>exact⟨k+1,1,lo++[x-1],by go_num,rfl,by omega,by omega,by simp;omega,HZ1.o,N6.o,b6.o⟩
     case measure=>simp[intOf];omega
    ·obtain⟨xn,rfl⟩:∃ xn:Nat,x=xn:=⟨x.toNat,by omega⟩
     obtain⟨mm,hmm⟩:∃ mm,mm=(xn+1)*q:=⟨_,rfl⟩
     have hm8:mm<=2000:=by
      have:xn=0∨xn=1:=by omega
      rcases this with rfl|rfl<;>omega
     have hmul:(q:Int)*((xn:Int)+1)=(mm:Int):=by rw[hmm,Int.mul_comm];simp
     have HST:Hid (∀ j,j<=mm->(j=mm∨400<lo.length+j)->Bs l (k+1) (lo++List.replicate j 0) (min 1000 (2*q))):=fun j h1 h2=>by
      have e:l[k].toNat=xn:=by rw[<-HX.o];rfl
      exact HBS.o.zeros hkl (by rw[<-HX.o];exact h0) (by rw[e,<-hmm];exact h1) (by rw[e,<-hmm];exact h2)
     clear hmm HBS;obtain⟨nl,hnl⟩:∃ nl,nl=lo.length:=⟨_,rfl⟩;have HNL:=hideZ hnl;rw[<-hnl]at h400 ⊢;clear hnl;(go_wp2_with fail)
     go_loopw [6,3] (fun i u wr2=>∃ j:Nat,i=.int .i64 j/\j<=mm/\(j=0∨nl+j<=401)/\OwnI wr2 w.heap.size u (lo++List.replicate j 0)/\Below w.heap.size w wr2) (fun i _ _=>mm-(intOf i).toNat)
     case atStart=>exact⟨0,rfl,Nat.zero_le _,.inl rfl,by simpa [HNL.o] using G1.o,GB.o⟩
     case round =>
      obtain⟨j,rfl,hj,hj4,hown2,hbel2⟩:=hrel;have GB2:=hideZ hbel2;have z2:=hbel2.size;have c2:=HC.o _ hbel2;obtain⟨l2,hl2⟩:∃ l2,l2=lo++List.replicate j 0:=⟨_,rfl⟩;have hll:l2.length=nl+j:=(by rw[hl2,List.length_append,List.length_replicate,HNL.o]);rw[<-hl2]at hown2;have G2:=hideZ hown2;have HL2:=hideZ hl2;obtain⟨a2,cap2,rfl,_,_⟩:=hown2.ints;rw[hll]at G2 ⊢;have HLL:=hideZ hll;clear hown2 hbel2 hl2 hll ci;by_cases hjm:j<mm
      ·by_cases h4:nl+j<=400
       ·have hg1:decide ((j:Int)<(mm:Int))=true:=decide_eq_true (by omega)
        have hg2:decide ((((nl+j:Nat):Int))<=400)=true:=decide_eq_true (by omega)
        go_wp2_with (at_builtin;refine wpList_append_own _ rfl (.tmp 47) (.tmp 48) 80 rfl w.heap.size 2 i0 (.int .i64 0) 1 8 underlying80 hi0 hz0 hz1 hz2 rfl (by decide) _ _ (l2.map (Value.int .i64)) rfl (by have:=OwnI.alloc (l:=l2) (by exact G2.o) (Obj.cells #[Value.int .i64 0] 2);unfold OwnI at this;rw[HLL.o]at this;exact this) ⟨wr.heap.size,0,none⟩ 1 1 [.int .i64 0] rfl rfl (one_newI _ _ _) (one_cellI _) (by unfold maxLen;omega) (by omega) (by simp;omega) ?_)
        intro v' w6 hown' hgrow _
        have N6:Hid (OwnI w6 w.heap.size v' (lo++List.replicate (j+1) 0)):=by
         have e:lo++List.replicate (j+1) 0=l2++[0]:=by rw[HL2.o,List.append_assoc];congr 1;exact List.replicate_succ'
         rw[e]
         apply OwnI.snoc
         rw[HLL.o];exact hown'
        have b6:=hideZ (app_one GB2.o (by omega) (Nat.le_refl _) G2.o hgrow);clear hown' hgrow;(go_wp2_with fail)
        go_roundw
        case rel=>exact⟨j+1,by go_num,by omega,.inr (by omega),N6.o,b6.o⟩
        case measure=>simp[intOf];omega
       ·have hg1:decide ((j:Int)<(mm:Int))=true:=decide_eq_true (by omega)
        have hg2:decide ((((nl+j:Nat):Int))<=400)=false:=decide_eq_false (by omega)
        have HB1:Hid (Bs l (k+1) l2 (min 1000 (2*q))):=by
         unfold Hid;rw[HL2.o];exact HST.o j hj (.inr (by have:=HNL.o;omega))
        have HMN:=hideZ (fun W=>min_any 1000 (2*q) W);have hmn:min 1000 (2*q)<=1000:=Nat.min_le_left _ _;generalize min 1000 (2*q)=q2 at HMN HB1 hmn;(go_wp2_with fail);refine(HMN.o wr).mono ?_;rintro e w' ⟨rfl,hw⟩;subst w';(go_wp2_with fail)
        go_roundw
        case rel=>exact⟨k+1,q2,l2,by go_num,rfl,by omega,by omega,by rw[HLL.o];omega,HB1.o,G2.o,GB2.o⟩
        case measure=>simp[intOf];omega
      ·have hg1:decide ((j:Int)<(mm:Int))=false:=decide_eq_false (by omega)
       have HB1:Hid (Bs l (k+1) l2 (min 1000 (2*q))):=by
        unfold Hid;rw[HL2.o];exact HST.o j hj (.inl (by omega))
       have HMN:=hideZ (fun W=>min_any 1000 (2*q) W);have hmn:min 1000 (2*q)<=1000:=Nat.min_le_left _ _;generalize min 1000 (2*q)=q2 at HMN HB1 hmn;(go_wp2_with fail);refine(HMN.o wr).mono ?_;rintro e w' ⟨rfl,hw⟩;subst w';(go_wp2_with fail)
       go_roundw
       case rel=>exact⟨k+1,q2,l2,by go_num,rfl,by omega,by omega,by rw[HLL.o];omega,HB1.o,G2.o,GB2.o⟩
       case measure=>simp[intOf];omega
   ·have hkn:k=l.length:=by have:=HLN.o;omega
    have HE:=hideZ (Bs.done (by rw[<-hkn];exact HBS.o) HNR.o);clear hkn;by_cases h4:400<lo.length
    ·have h4':(400:Int)<(lo.length:Int):=by omega
     rw[if_pos h4]at HE;have HW2:=hideZ ((OwnI.empty wr).mono hsz);have HB2:=hideZ (GB.o.alloc hsz (.cells #[] 2));(go_wp2_with fail);go_ret;exact⟨_,rfl,by rw[HE.o];exact HW2.o,HB2.o⟩
    ·have h4':¬(400:Int)<(lo.length:Int):=by omega
     rw[if_neg h4]at HE;(go_wp2_with fail);go_ret;exact⟨_,rfl,by rw[HE.o];exact G1.o,GB.o⟩
end Ze
namespace Dr
open St (IsS)
theorem pick_any (B g c:Nat) (a:Option Addr) (len cap:Nat) (t:TypeId) (l:List ByteArray) (w:World) (hl:len<=1048576) (hs:Src w B a len cap) (hx:IsS w g t l) (hg:g≠B) (h0:0<l.length) (hm:l.length<=100) :
  Calls prog 87 #[.pointer (some ⟨B,0,none⟩),.slice (some ⟨g,0,none⟩) l.length c] w fun e w'=>∃ s,s∈l/\e=.returned (.string s)/\Src w' B a len cap/\Only B w w':=by
 have HX:=hideD hx;have HM:=hideD (fun (j:Nat) (hj:j<l.length)=>List.getElem_mem hj);clear hx;obtain⟨n,hln⟩:∃ n,n=l.length:=⟨_,rfl⟩;have HLN:=hideD hln;rw[<-hln]at h0 hm ⊢;clear hln;go_enter func87,ntmps87
 go_wp2_with fail
 refine(n_any B a len cap n _ hl (by omega) hs).mono ?_;rintro e w2 ⟨r,rfl,q0,q1,hs2,ho2⟩;obtain⟨i,rfl⟩:=Int.eq_ofNat_of_zero_le q0
 have hin:i<n:=by omega
 have hil:i<l.length:=by rw[<-HLN.o];exact hin
 have hce:w2.cell? ⟨g,i,none⟩=some (.string l[i]):=by
  have h1:IsS w2 g t l:=by
   unfold IsS;rw[ho2.2.2.2.2 g hg];exact HX.o
  exact h1.cell hil
 have HMI:=hideD (HM.o i hil);generalize l[i]=s at hce HMI;have HS2:=hideD hs2;have HO2:=hideD ho2;clear hs2 ho2 q0 q1 hs
 go_wp2_with fail
 go_ret;exact⟨s,HMI.o,rfl,HS2.o,HO2.o⟩
end Dr
namespace Dr
open St (IsS)
def six5:List ByteArray:=[⟨#[]⟩,⟨#[98,97,110,97,110,97]⟩,⟨#[97,98,97,98]⟩,⟨#[97,97,97,97,97,97,97,97,97,97,97,97,97,97,97,97]⟩,⟨#[97,98,114,97,99,97,100,97,98,114,97,32,97,98,114,97,99,97,100,97,98,114,97]⟩,⟨#[97,98]⟩]
def five5:List ByteArray:=[⟨#[97]⟩,⟨#[98]⟩,⟨#[97,98]⟩,⟨#[116,104,101,32]⟩,⟨#[97,97,97,97]⟩]
theorem six5_is (W:World) (t:TypeId):IsS (W.alloc (.cells #[.string ⟨#[]⟩,.string ⟨#[98,97,110,97,110,97]⟩,.string ⟨#[97,98,97,98]⟩,.string ⟨#[97,97,97,97,97,97,97,97,97,97,97,97,97,97,97,97]⟩,.string ⟨#[97,98,114,97,99,97,100,97,98,114,97,32,97,98,114,97,99,97,100,97,98,114,97]⟩,.string ⟨#[97,98]⟩] t)) W.heap.size t six5:=heap_alloc_last W _
theorem five5_is (W:World) (t:TypeId):IsS (W.alloc (.cells #[.string ⟨#[97]⟩,.string ⟨#[98]⟩,.string ⟨#[97,98]⟩,.string ⟨#[116,104,101,32]⟩,.string ⟨#[97,97,97,97]⟩] t)) W.heap.size t five5:=heap_alloc_last W _
theorem six5_le (s:ByteArray) (h:s∈six5):s.size<=23:=by
 simp only[six5,List.mem_cons,List.not_mem_nil,or_false]at h
 rcases h with rfl|rfl|rfl|rfl|rfl|rfl<;>decide
theorem five5_le (s:ByteArray) (h:s∈five5):s.size<=4:=by
 simp only[five5,List.mem_cons,List.not_mem_nil,or_false]at h
 rcases h with rfl|rfl|rfl|rfl|rfl<;>decide
theorem text5_any (B:Nat) (a:Option Addr) (len cap:Nat) (w:World) (hl:len<=1048576) (hs:Src w B a len cap) :
  Calls prog 57 #[.pointer (some ⟨B,0,none⟩)] w fun e w'=>∃ s:ByteArray,s.size<=32/\e=.returned (.string s)/\Src w' B a len cap/\Aft B w w':=by
 have hB:=hs.lt;have HS:=hideD hs;clear hs;go_enter func57,ntmps57
 go_wp2_with fail
 refine(n_any B a len cap 5 _ hl (by omega) HS.o).mono ?_;rintro e w1 ⟨r,rfl,q0,q1,hs1,ho1⟩;have HS1:=hideD hs1;have HO1:=hideD ho1;clear hs1 ho1;by_cases h0:r=0
 ·subst h0
  go_wp2_with fail
  refine(n_any B a len cap 12 _ hl (by omega) HS1.o).mono ?_;rintro e w2 ⟨r2,rfl,p0,p1,hs2,ho2⟩;obtain⟨m,rfl⟩:=Int.eq_ofNat_of_zero_le p0;have HB2:=hideD (bytes_any B a len cap m w2 hl (by omega) hs2);have HA2:=hideD ((HO1.o.trans ho2).aft)
  have hm32:m<=32:=by omega
  clear hs2 ho2 p0 p1
  go_wp2_with fail
  refine HB2.o.mono ?_;rintro e w3 ⟨l,hlen,rfl,hs3,ha3⟩;have HX:Hid (∃ s:ByteArray,s.size<=32/\Ending.returned (.string ⟨l.toArray⟩)=.returned (.string s)/\Src w3 B a len cap/\Aft B w w3):=⟨⟨l.toArray⟩,by rw[show (⟨l.toArray⟩:ByteArray).size=l.length from by simp[ByteArray.size],hlen];exact hm32,rfl,hs3,HA2.o.trans ha3⟩;clear hs3 ha3 hlen
  go_wp2_with fail
  go_ret;exact HX.o
 ·by_cases h1:r=1
  ·subst h1
   have HP:=hideD (fun W (h:Src W B a len cap)=>pick_any B W.heap.size 6 a len cap 9 six5 (W.alloc (.cells #[.string ⟨#[]⟩,.string ⟨#[98,97,110,97,110,97]⟩,.string ⟨#[97,98,97,98]⟩,.string ⟨#[97,97,97,97,97,97,97,97,97,97,97,97,97,97,97,97]⟩,.string ⟨#[97,98,114,97,99,97,100,97,98,114,97,32,97,98,114,97,99,97,100,97,98,114,97]⟩,.string ⟨#[97,98]⟩] 9)) hl (h.below ((Below.refl _ _).alloc (Nat.le_refl _) _)) (six5_is W _) (by have:=h.lt;omega) (by decide) (by decide))
   go_wp2_with fail
   refine(HP.o w1 HS1.o).mono ?_;rintro e w2 ⟨s,hm,rfl,hs2,ho2⟩;have HX:Hid (∃ s':ByteArray,s'.size<=32/\Ending.returned (.string s)=.returned (.string s')/\Src w2 B a len cap/\Aft B w w2):=⟨s,Nat.le_trans (six5_le s hm) (by decide),rfl,hs2,(HO1.o.aft.trans (aft_below ((Below.refl _ _).alloc (Nat.le_refl _) _))).trans ho2.aft⟩;clear hs2 ho2 hm
   go_wp2_with fail
   go_ret;exact HX.o
  ·have e0:(r==0)=false:=beq_eq_false_iff_ne.2 h0
   have e1:(r==1)=false:=beq_eq_false_iff_ne.2 h1;have HP:=hideD (fun W (h:Src W B a len cap)=>pick_any B W.heap.size 5 a len cap 9 five5 (W.alloc (.cells #[.string ⟨#[97]⟩,.string ⟨#[98]⟩,.string ⟨#[97,98]⟩,.string ⟨#[116,104,101,32]⟩,.string ⟨#[97,97,97,97]⟩] 9)) hl (h.below ((Below.refl _ _).alloc (Nat.le_refl _) _)) (five5_is W _) (by have:=h.lt;omega) (by decide) (by decide));clear h0 h1
   go_wp2_with fail
   refine(n_any B a len cap 8 _ hl (by omega) HS1.o).mono ?_;rintro e w2 ⟨r2,rfl,p0,p1,hs2,ho2⟩;obtain⟨m,rfl⟩:=Int.eq_ofNat_of_zero_le p0;have HS2:=hideD hs2;have HA2:=hideD ((HO1.o.trans ho2).aft)
   have hm7:m<=7:=by omega
   clear hs2 ho2 p0 p1
   go_wp2_with fail
   go_loopw [4,3] (fun i u wr=>∃ (k:Nat) (s:ByteArray),i=.int .i64 k/\k<=7/\u=.string s/\s.size+4*k<=28/\Src wr B a len cap/\Aft B w wr) (fun i _ _=>(intOf i).toNat)
   case atStart=>exact⟨m,⟨#[]⟩,rfl,hm7,rfl,by simp[ByteArray.size];omega,HS2.o,HA2.o⟩
   case round =>
    obtain⟨k,s,rfl,hk,rfl,hsz,hs3,ha3⟩:=hrel;have HS3:=hideD hs3;have HA3:=hideD ha3;clear hs3 ha3;by_cases hlt:0<k
    ·obtain⟨kp,hkp⟩:∃ kp,k=kp+1:=⟨k-1,by omega⟩
     have ek:(k:Int)-1=(kp:Int):=by omega
     have HK:=hideD hkp;have hkz:(0:Int)<(k:Int):=(by omega);clear hkp;(go_wp2_with fail);refine(HP.o wr HS3.o).mono ?_;rintro e w4 ⟨s4,hm4,rfl,hs4,ho4⟩;have HS4:=hideD hs4;have HA4:=hideD ((HA3.o.trans (aft_below ((Below.refl _ _).alloc (Nat.le_refl _) _))).trans ho4.aft)
     have HL4:Hid ((s++s4).size+4*kp<=28):=by
      unfold Hid;rw[ByteArray.size_append]
      have:=five5_le s4 hm4
      have:=HK.o
      omega
     have hs4z:=five5_le s4 hm4;clear hs4 ho4 hm4;(go_wp2_with fail)
     go_roundw
     case rel=>exact⟨kp,s++s4,by go_num,by have:=HK.o;omega,rfl,HL4.o,HS4.o,HA4.o⟩
     case measure=>have:=HK.o;simp[intOf];omega
    ·obtain rfl:k=0:=by omega
     have HX:Hid (∃ s':ByteArray,s'.size<=32/\Ending.returned (.string s)=.returned (.string s')/\Src wr B a len cap/\Aft B w wr):=⟨s,by omega,rfl,HS3.o,HA3.o⟩;(go_wp2_with fail);go_ret;exact HX.o
end Dr
namespace Dr
open Sh (made_row strF strF_size)
end Dr
namespace Dr
open In (OwnI one_newI one_cellI)
open In.Tryz (infoI2)
open Fr (frontOf_spec frontR frontR_len)
def vals4 (j:Nat):Int:=if j=0 then -1 else if j=1 then 0 else if j=2 then 255 else 256
end Dr
namespace Dr
open In (OwnI one_newI one_cellI)
open In.Tryz (infoI2)
structure Dn (w:World) (B:Nat) (a:Option Addr) (len cap:Nat) (W:World) (v:Value) (l:List Int) (n:Nat):Prop where
 own:OwnI W w.heap.size v l
 le:l.length<=n
 src:Src W B a len cap
 aft:Aft B w W
 hB:B<w.heap.size
end Dr
namespace Dr
open In (OwnI IsO Ints one_newI one_cellI)
open In.Tryz (infoI2)
open Hf (lensR)
def RowI (w:World) (B:Nat) (x:Option Addr) (l:List Int):Prop:=l=[]∨∃ b off,x=some ⟨b,off,none⟩/\b<w.heap.size/\b≠B/\∀ j (h:j<l.length),w.cell? ⟨b,off+j,none⟩=some (.int .i64 l[j])
end Dr
namespace Dr
open In (OwnI Ints)
open Ap (Own0 wpList_append_own0)
open Fr (Own0B own0_string one_newB one_cellB own0B_snoc)
open Nu (bv)
structure Db (w:World) (B:Nat) (a:Option Addr) (len cap:Nat) (W:World) (v:Value) (l:List UInt8) (n:Nat):Prop where
 own:Own0B W w.heap.size v l
 le:l.length<=n
 src:Src W B a len cap
 aft:Aft B w W
 hB:B<w.heap.size
end Dr
namespace Dr
open In (OwnI Ints)
open Bi (putR)
end Dr
namespace Dr
def v4 (a b c d:Int) (j:Nat):Int:=if j=0 then a else if j=1 then b else if j=2 then c else d
theorem new4 (W:World) (a b c d:Int) (t:TypeId) (j:Nat) (hj:j<4):(W.alloc (.cells #[.int .i64 a,.int .i64 b,.int .i64 c,.int .i64 d] t)).cell? ⟨W.heap.size,j,none⟩=some (.int .i64 (v4 a b c d j)):=by
 rw[cell_of_row _ _ j _ _ _ (heap_alloc_last W _)]
 obtain rfl|rfl|rfl|rfl:j=0∨j=1∨j=2∨j=3:=by omega
 all_goals rfl
theorem pick4 (a b c d:Int) (j:Nat) (h:j < [Value.int .i64 a,.int .i64 b,.int .i64 c,.int .i64 d].length):[Value.int .i64 a,.int .i64 b,.int .i64 c,.int .i64 d][j]=.int .i64 (v4 a b c d j):=by
 obtain rfl|rfl|rfl|rfl:j=0∨j=1∨j=2∨j=3:=by simp at h;omega
 all_goals rfl
theorem src_alloc {W:World} {B:Nat} {a:Option Addr} {len cap:Nat} (h:Src W B a len cap) (o:Obj):Src (W.alloc o) B a len cap:=h.below ((Below.refl _ _).alloc (Nat.le_refl _) o)
theorem only_cell {B:Nat} {W W':World} (h:Only B W W') (g j:Nat) (hg:g≠B):W'.cell? ⟨g,j,none⟩=W.cell? ⟨g,j,none⟩:=World.cell?_of_block (w:=W) (a:=⟨g,j,none⟩) (h.2.2.2.2 g hg)
end Dr
end Go.Proofs.YtaejgfdkfcmjeaaGreatDoor
