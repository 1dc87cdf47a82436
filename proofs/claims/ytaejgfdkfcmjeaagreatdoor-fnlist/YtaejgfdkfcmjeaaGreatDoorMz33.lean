import Derived.Test.YtaejgfdkfcmjeaaGreatDoorMz30
set_option maxRecDepth 100000
set_option maxHeartbeats 8000000
namespace Go.Proofs.YtaejgfdkfcmjeaaGreatDoor
open Go.Proofs.Tryz
namespace Bi
open Go.RowKit Go.Maps
open In (Ints IsI OwnIn)
open St (IsS Strs)
theorem nil_in (w:World) (lo hi:Nat):OwnIn w lo hi (.slice none 0 0) []:=.inl ⟨rfl,rfl⟩
theorem get_impl (l:List Int) (t:ByteArray) (m:Int) (a:Option Addr) (cap:Nat) (w:World) (hl:Ints w w.heap.size a l) (hn:l.length<=1048576) (ht:t.size<=1048576) :
  Calls prog 181 #[.slice a l.length cap,.string t,.int .i64 m] w fun e w'=>∃ v,e=.returned (.agg #[v,.int .i64 (getR l t m).2.1,.int .i64 (getR l t m).2.2])/\OwnIn w' w.heap.size w'.heap.size v (getR l t m).1/\Below w.heap.size w w':=by
 by_cases h4:400<l.length
 ·rw[getR_size (Or.inl h4)]
  clear hl;generalize l.length=n at hn h4 ⊢;go_enter func181,ntmps181
  go_wp2_with fail
  refine bodyPost_ret (v:=.agg #[.slice none 0 0,.int .i64 0,.int .i64 2]) (by simp[results,results181,go_sem]) rfl ⟨.slice none 0 0,rfl,nil_in _ _ _,(Below.refl _ _).alloc nl _⟩
 ·have hd4:decide (400<(l.length:Int))=false:=decide_eq_false (by omega)
  by_cases h8:8000<t.size
  ·rw[getR_size (Or.inr h8)]
   clear hl;generalize l.length=n at hn h4 hd4 ⊢;go_enter func181,ntmps181
   go_wp2_with fail
   refine bodyPost_ret (v:=.agg #[.slice none 0 0,.int .i64 0,.int .i64 2]) (by simp[results,results181,go_sem]) rfl ⟨.slice none 0 0,rfl,nil_in _ _ _,(Below.refl _ _).alloc nl _⟩
  ·have hd8:decide (8000<(t.size:Int))=false:=decide_eq_false (by omega)
   have hno:¬(400<l.length∨8000<t.size):=by omega
   have hl0:=(hl.below ((Below.refl w.heap.size w).alloc nl (.cells #[.slice none 0 0,.int .i64 0,.int .i64 0] 158))).mono (by simp:w.heap.size<=(w.alloc (.cells #[.slice none 0 0,.int .i64 0,.int .i64 0] 158)).heap.size);have HWH:=hideB (whole_impl l a cap _ _ hl0 hn);have HGO:=hideB (good_impl t (w.alloc (.cells #[.slice none 0 0,.int .i64 0,.int .i64 0] 158)) ht);clear hl0
   cases hw:whole l with
   |false =>
    rw[getR_form hno (Or.inl hw)];rw[hw]at HWH;clear hl hno;generalize l.length=n at hn h4 hd4 HWH ⊢;go_enter func181,ntmps181;(go_wp2_with fail);refine HWH.o.mono ?_;rintro e w' ⟨rfl,hw'⟩;subst w';(go_wp2_with fail);refine bodyPost_ret (v:=.agg #[.slice none 0 0,.int .i64 0,.int .i64 1]) (by simp[results,results181,go_sem]) rfl ⟨.slice none 0 0,rfl,nil_in _ _ _,(Below.refl _ _).alloc nl _⟩
   |true =>
    cases hg:good t with
    |false =>
     rw[getR_form hno (Or.inr (Or.inl hg))];rw[hw]at HWH;rw[hg]at HGO;clear hl hno hw;generalize l.length=n at hn h4 hd4 HWH ⊢;go_enter func181,ntmps181;(go_wp2_with fail);refine HWH.o.mono ?_;rintro e w' ⟨rfl,hw'⟩;subst w';(go_wp2_with fail);refine HGO.o.mono ?_;rintro e w' ⟨rfl,hw'⟩;subst w';(go_wp2_with fail);refine bodyPost_ret (v:=.agg #[.slice none 0 0,.int .i64 0,.int .i64 1]) (by simp[results,results181,go_sem]) rfl ⟨.slice none 0 0,rfl,nil_in _ _ _,(Below.refl _ _).alloc nl _⟩
    |true =>
     by_cases hm:m<0
     ·rw[getR_form hno (Or.inr (Or.inr (Or.inl hm)))]
      rw[hw]at HWH;rw[hg]at HGO;clear hl hno hw hg;generalize l.length=n at hn h4 hd4 HWH ⊢;go_enter func181,ntmps181;(go_wp2_with fail);refine HWH.o.mono ?_;rintro e w' ⟨rfl,hw'⟩;subst w';(go_wp2_with fail);refine HGO.o.mono ?_;rintro e w' ⟨rfl,hw'⟩;subst w';(go_wp2_with fail);refine bodyPost_ret (v:=.agg #[.slice none 0 0,.int .i64 0,.int .i64 1]) (by simp[results,results181,go_sem]) rfl ⟨.slice none 0 0,rfl,nil_in _ _ _,(Below.refl _ _).alloc nl _⟩
     ·by_cases hm4:400<m
      ·rw[getR_form hno (Or.inr (Or.inr (Or.inr hm4)))]
       have hdm:decide (m<0)=false:=decide_eq_false hm;rw[hw]at HWH;rw[hg]at HGO;clear hl hno hw hg;generalize l.length=n at hn h4 hd4 HWH ⊢;go_enter func181,ntmps181;(go_wp2_with fail);refine HWH.o.mono ?_;rintro e w' ⟨rfl,hw'⟩;subst w';(go_wp2_with fail);refine HGO.o.mono ?_;rintro e w' ⟨rfl,hw'⟩;subst w';(go_wp2_with fail);refine bodyPost_ret (v:=.agg #[.slice none 0 0,.int .i64 0,.int .i64 1]) (by simp[results,results181,go_sem]) rfl ⟨.slice none 0 0,rfl,nil_in _ _ _,(Below.refl _ _).alloc nl _⟩
      ·obtain⟨k,rfl⟩:∃ k:Nat,m=k:=⟨m.toNat,by omega⟩
       rw[getR_in hno hw hg (by omega)];exact get_yes l t k a cap w hl h4 h8 hw hg (by omega)
end Bi
namespace So
open Go.RowKit Go.Sort Go.Proofs
open Sh (bt bt_get bt_lt strF IsB made_row)
def sOut (t:ByteArray) (a c:Nat):Value:=.agg #[.string t,.int .i64 a,.int .i64 c]
def IsR (w:World) (g:Nat):Prop:=w.heap[g]? = some (.cells #[.string ⟨#[]⟩,.int .i64 0,.int .i64 0] 122 (0,0))
theorem IsR.cells {w:World} {g:Nat} (h:IsR w g):w.cell? ⟨g,0,none⟩=some (.string ⟨#[]⟩)/\w.cell? ⟨g,1,none⟩=some (.int .i64 0)/\w.cell? ⟨g,2,none⟩=some (.int .i64 0)/\(∀ j,w.frozen? ⟨g,j,none⟩=false):=by
 refine⟨?_,?_,?_,fun j=>frozen_of_row w g j _ _ h⟩
 ·rw[cell_of_row w g 0 _ _ (0,0) h];rfl
 ·rw[cell_of_row w g 1 _ _ (0,0) h];rfl
 ·rw[cell_of_row w g 2 _ _ (0,0) h];rfl
theorem atK_next (f:Nat->Nat) (k:Nat):(f k=0->atK f (k+1)=k)/\(f k≠0->atK f (k+1)=atK f k):=by
 constructor
 ·intro h;rw[atK,if_pos h]
 ·intro h;rw[atK,if_neg h]
theorem bwt_impl (t:ByteArray) (w:World) (hn:t.size<=1048576) :
  Calls prog 117 #[.string t] w fun e w'=>e=.returned (sOut (bwtT t) (bwtA t) (bwtC t))/\Below w.heap.size w w':=by
 obtain⟨i0,hi0,hz0,hz1,hz2⟩:=info_parts Nu.Tryz.infoJ5;by_cases hbig:8000<t.size
 ·have HV:Hid (sOut (bwtT t) (bwtA t) (bwtC t)=sOut ⟨#[]⟩ 0 2):=by
   unfold Hid;rw[(bwt_no (by omega)).1,(bwt_no (by omega)).2,bwtC,if_pos hbig]
  go_enter func117,ntmps117
  go_wp2_with fail
  refine bodyPost_ret (v:=sOut ⟨#[]⟩ 0 2) (by simp[results,sOut,results117,go_sem]) rfl ⟨by rw[HV.o],?_⟩;exact(Below.refl _ _).alloc nl _
 ·have hbig':¬(8000:Int)<(t.size:Int):=by omega
  by_cases hlong:48<t.size
  ·have HV:Hid (sOut (bwtT t) (bwtA t) (bwtC t)=sOut ⟨#[]⟩ 0 1):=by
    unfold Hid;rw[(bwt_no (by omega)).1,(bwt_no (by omega)).2,bwtC,if_neg hbig,if_pos hlong]
   go_enter func117,ntmps117
   go_wp2_with fail
   refine bodyPost_ret (v:=sOut ⟨#[]⟩ 0 1) (by simp[results,sOut,results117,go_sem]) rfl ⟨by rw[HV.o],?_⟩;exact(Below.refl _ _).alloc nl _
  ·have hlong':¬(48:Int)<(t.size:Int):=by omega
   obtain⟨w0,hw0⟩:∃ w0,w0=w.alloc (.cells #[.string ⟨#[]⟩,.int .i64 0,.int .i64 0] 122):=⟨_,rfl⟩
   have z0:w0.heap.size=w.heap.size+1:=by rw[hw0];simp
   have HR0:Hid (IsR w0 w.heap.size):=by unfold Hid;rw[hw0];exact heap_alloc_last w _
   have HB0:Hid (Below w.heap.size w w0):=by unfold Hid;rw[hw0];exact(Below.refl _ _).alloc nl _
   go_enter func117,ntmps117
   go_wp2_with (at_make;rw[<-hw0];refine wpList_make_full _ rfl (.tmp 16) (.tmp 16) 22 rfl w0.heap.size 5 i0 (.int .u8 0) 1 underlying22 hi0 hz0 hz1 .i64 .i64 _ _ t.size rfl rfl (by simp) (by simp) (by rw[hz2];omega) (by unfold maxLen;omega) nl ?_;intro w1 hown1 hgrow1;have HT1:=hideO (made_row hown1);have hb1:=(Below.refl w0.heap.size w0).grown hgrow1 nl (by simp);have HR1:Hid (IsR w1 w.heap.size):=(hb1.block w.heap.size (by omega)).trans HR0.o;have HB1:=hideO (HB0.o.trans (hb1.mono (by omega)));have zz1:=HT1.o.lt;clear hown1 hgrow1 hb1)
   refine(sorted_T t hn w1).mono ?_;rintro e w2 ⟨g,cap,d,rfl,hg1,hg2,hH,hds,hp,hr,⟨cur,hty⟩,hb2⟩;have HH:=hideO hH;have HDS:=hideO hds;have HB2:=hideO (HB1.o.trans (hb2.mono HB1.o.size));have HR2:Hid (IsR w2 w.heap.size):=(hb2.block w.heap.size (by omega)).trans HR1.o;have HT2:=hideO (HT1.o.below hb2 zz1);have z2:=hb2.size
   have HXT:Hid (∀ k,k<t.size->d[k]! < t.size):=fun k hk=>by
    have:dF d k∈seg (dF d) 0 t.size:=by
     rw[seg,List.mem_map];exact⟨k,by simp;omega,by simp⟩
    have:=hp.mem_iff.1 this
    have h2:=List.mem_range.1 this;exact h2
   have HE:=hideO (bwt_yes (by omega) (ordF_seg (ord_seg hp hr)));clear hH hds hp hr hb2 hty
   go_wp2_with fail
   go_loopw [21,4] (fun i a wr=>∃ k:Nat,i=.int .i64 k/\k<=t.size/\a=.int .i64 (atK (dF d) k:Nat)/\IsB wr (w.heap.size+1) 5 .u8 t.size (fun j=>((fillL t (dF d) k j:Nat):Int))/\IsR wr w.heap.size/\wr.heap[g]? = w2.heap[g]?/\Below w.heap.size w wr) (fun i _ _=>t.size-(intOf i).toNat)
   case atStart=>exact⟨0,rfl,Nat.zero_le _,rfl,by rw[<-z0];exact HT2.o.congr (fun j _=>by simp[fillL]),HR2.o,rfl,HB2.o⟩
   case round =>
    obtain⟨k,rfl,hk,rfl,htxt,hres,hbg,hbel⟩:=hrel;have T1:=hideO htxt;have R1:=hideO hres;have GB:=hideO hbel;have HBG:=hideO hbg;have hsz:=htxt.lt;clear hbel;by_cases hlt:k<t.size
    ·obtain⟨x0c,_,x1c,_⟩:=cells_T (holds_block HH.o hbg) (i:=k) (by rw[HDS.o];exact hlt)
     have hkz:(k:Int)<(t.size:Int):=by omega
     have hxt:=HXT.o k hlt;have HN:=hideO (fillL_next t (dF d) k);have HA:=hideO (atK_next (dF d) k);have HX:Hid (dF d k=d[k]!):=rfl;obtain⟨x,hx⟩:∃ x,x=d[k]!:=⟨_,rfl⟩;rw[<-hx]at x0c x1c hxt HX;rw[HX.o]at HN HA;obtain⟨p,hp⟩:∃ p,t.size=p+1:=⟨t.size-1,by omega⟩;have e1:(t.size:Int)-1=(p:Int):=(by omega);have hwp:IntKind.i64.wrap (p:Int)=(p:Int):=(by rw[IntKind.wrap_i64];omega);have htz:=turnV_size t x (by omega);have hlast:=turnV_last t x hxt;rw[show t.size-1=p by omega]at hlast;have hpx:p<(turnV t x).size:=(by omega);obtain⟨y,hy,hyt⟩:∃ y:UInt8,(turnV t x)[p]=y/\y.toNat=lastB t x:=⟨_,rfl,(bt_get _ _ hpx).trans hlast⟩;rw[<-hyt]at HN;generalize turnV t x=tx at x1c hpx hy htz;have hpx':(p:Int)<(tx.size:Int):=(by omega);have c2:=htxt.cell (j:=k) hlt;have f2:=htxt.frozen k
     have hgl:g<wr.heap.size:=by
      have:=GB.o.size
      have h2:w2.heap[g]?≠none:=by rw[Array.getElem?_eq_getElem hg2];simp
      rw[<-hbg]at h2;exact Nat.lt_of_not_le fun h=>h2 (Array.getElem?_eq_none h)
     have HTN:=hideO fun W (h:IsB W (w.heap.size+1) 5 .u8 t.size (fun j=>((fillL t (dF d) k j:Nat):Int)))=>(h.set k (y.toNat:Nat)).congr (fun j _=>HN.o j);obtain⟨m,hm⟩:∃ m,m=atK (dF d) k:=⟨_,rfl⟩;rw[<-hm]at HA ⊢;clear hx htxt hres hbg hlast hyt hm;have TS:=HTN.o wr T1.o
     have RS:IsR (wr.setCell ⟨w.heap.size+1,k,none⟩ (.int .u8 (y.toNat:Nat))) w.heap.size:=by
      unfold IsR;rw[heap_setCell_other _ _ _ _ (by simp)];exact R1.o
     have GS:(wr.setCell ⟨w.heap.size+1,k,none⟩ (.int .u8 (y.toNat:Nat))).heap[g]? = w2.heap[g]?:=by
      rw[heap_setCell_other _ _ _ _ (by simp;omega)];exact HBG.o
     have BS:=GB.o.setCell (p:=⟨w.heap.size+1,k,none⟩) (by simp) (.int .u8 (y.toNat:Nat));have LS:g<(wr.setCell ⟨w.heap.size+1,k,none⟩ (.int .u8 (y.toNat:Nat))).heap.size:=(by simpa using hgl)
     have HS:Hid (∀ o:Obj,IsB ((wr.setCell ⟨w.heap.size+1,k,none⟩ (.int .u8 (y.toNat:Nat))).alloc o) (w.heap.size+1) 5 .u8 t.size (fun j=>((fillL t (dF d) (k+1) j:Nat):Int))/\IsR ((wr.setCell ⟨w.heap.size+1,k,none⟩ (.int .u8 (y.toNat:Nat))).alloc o) w.heap.size/\((wr.setCell ⟨w.heap.size+1,k,none⟩ (.int .u8 (y.toNat:Nat))).alloc o).heap[g]? = w2.heap[g]?/\Below w.heap.size w ((wr.setCell ⟨w.heap.size+1,k,none⟩ (.int .u8 (y.toNat:Nat))).alloc o)):=by
      intro o;generalize wr.setCell ⟨w.heap.size+1,k,none⟩ (.int .u8 (y.toNat:Nat))=W at TS RS GS BS LS ⊢;have ba:Below W.heap.size W (W.alloc o):=(Below.refl _ _).alloc nl _;have h1:=TS.lt;exact⟨TS.below ba h1,(ba.block _ (by omega)).trans RS,(ba.block _ LS).trans GS,BS.trans (ba.mono BS.size)⟩
     clear TS RS GS BS LS;by_cases hx0:x=0
     ·subst hx0
      have HM:=hideO (HA.o.1 rfl);(go_wp2_with fail)
      go_roundw
      case rel=>exact⟨k+1,by go_num,by omega,by rw[HM.o],HS.o _⟩
      case measure=>simp[intOf];omega
     ·have HM:=hideO (HA.o.2 hx0)
      have hxz:((x:Int)==0)=false:=by simpa using hx0
      (go_wp2_with fail)
      go_roundw
      case rel=>exact⟨k+1,by go_num,by omega,by rw[HM.o],HS.o _⟩
      case measure=>simp[intOf];omega
    ·obtain rfl:k=t.size:=by omega
     have hcv:=htxt.str (P:=prog) (src:=22) (dst:=9) t.size t.size nl (fun j _=>fillL_lt _ _ _ j) underlying22 underlying5 underlying9;rw[fillL_all]at hcv;obtain⟨c0,c1,c2,f0⟩:=hres.cells
     have HV:Hid (sOut (bwtT t) (bwtA t) (bwtC t)=sOut (strF t.size (fun j=>lastB t (dF d j))) (atK (dF d) t.size) 0):=by
      unfold Hid;rw[HE.o.1,HE.o.2.1,HE.o.2.2]
     obtain⟨q,hq⟩:∃ q,q=strF t.size (fun j=>lastB t (dF d j)):=⟨_,rfl⟩;obtain⟨m,hm⟩:∃ m,m=atK (dF d) t.size:=⟨_,rfl⟩;rw[<-hq]at hcv HV;rw[<-hm]at HV ⊢;clear htxt hres hbg hq hm;(go_wp2_with fail);refine bodyPost_ret (v:=sOut q m 0) (by simp[results,sOut,results117,go_sem,c0,c1,c2]) rfl ⟨by rw[HV.o],?_⟩;exact((GB.o.setCell nl _).setCell nl _).setCell nl _
end So
end Go.Proofs.YtaejgfdkfcmjeaaGreatDoor
