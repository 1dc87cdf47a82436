import Derived.Test.YtaejgfdkfcmjeaaGreatDoorMz2
import Derived.Test.YtaejgfdkfcmjeaaGreatDoorMz38
import Derived.Test.YtaejgfdkfcmjeaaGreatDoorMz34
set_option maxRecDepth 100000
set_option maxHeartbeats 8000000
namespace Go.Proofs.YtaejgfdkfcmjeaaGreatDoor
open Go.RowKit
open Go.Proofs.Tryz
namespace Sh
def Vars (w:World):Prop:=IsV w 1 .u32 8 firstF/\IsV w 3 .u32 64 keyF
theorem Vars.below {w w':World} {B:Nat} (h:Vars w) (b:Below B w w') (hB:3 + 1<=B):Vars w':=⟨h.1.below b (by omega),h.2.below b (by omega)⟩
theorem Vars.two {w:World} (h:Vars w):3 + 1<=w.heap.size:=h.2.lt
theorem zero8:(#[.int .u32 0,.int .u32 0,.int .u32 0,.int .u32 0,.int .u32 0,.int .u32 0,.int .u32 0,.int .u32 0]:Array Value)=rowF .u32 8 (fun _=>0):=by rfl
theorem digestOf_any (t:ByteArray) (w:World) (ht:t.size<=1048576) (hV:Vars w) :
  Calls prog 113 #[.string t] w fun e w'=>e=.returned (.string (sha t))/\Below w.heap.size w w':=by
 have HV:=hideS hV;have HF:=hideS hV.1;have HK:=hideS hV.2;have h2:=hV.two;clear hV;go_enter func113,ntmps113
 go_wp2_with (first|((with_reducible refine wpList_load_var HF.o underlying163 Tryz.size163 ?_ ?_);(· rfl))|((with_reducible refine wpList_store_row' (IsB.of_list w 163 .u32 8 (fun _=>0) _ zero8) Tryz.size163 firstF ?_ ?_ ?_);(· rfl);(· rfl);intro w2 hi2 hB2 hz2 ho2;have HS2:=hideS hi2;have HZ2:=hideS (show w2.heap.size=w.heap.size+1 by rw[hz2];simp);have HW2:=hideS (((Below.refl w.heap.size w).alloc nl _).trans (hB2 _ nl));clear hi2 hB2 hz2 ho2))
 have hz:=HZ2.o;obtain⟨ch,hch⟩:∃ c,c=chunks t.size:=⟨_,rfl⟩;have hr:=chunks_room t.size;have hti:=chunks_tight t.size;refine(fill_any t w2 ht).mono ?_;rw[hz,<-hch];rw[<-hch]at hr hti;rintro e w3 ⟨rfl,hp3,hb3⟩;have HCH:=hideS hch;have HP3:=hideS hp3;have HS3:=hideS (HS2.o.below hb3 (by omega));have HW3:=hideS (HW2.o.trans (hb3.mono (by omega)));have HZ3:=hideS (show w.heap.size+2<=w3.heap.size from hp3.lt);clear hp3 hb3 hch hz HS2 HW2
 go_wp2_with fail
 go_loopw [5] (fun i wr=>∃ k:Nat,i=.int .i64 (64*(k:Int))/\k<=ch/\IsB wr w.heap.size 163 .u32 8 (shaS t k)/\IsB wr (w.heap.size+1) 5 .u8 (ch*64) (fun j=>(pad t j:Nat))/\Below w.heap.size w wr/\w.heap.size+2<=wr.heap.size) (fun i _=>ch*64-(intOf i).toNat)
 case atStart=>exact⟨0,rfl,Nat.zero_le _,HS3.o,HP3.o,HW3.o,HZ3.o⟩
 case round =>
  obtain⟨k,rfl,hk,h1,hp,hbel,hsz⟩:=hrel;have G1:=hideS h1;have GP:=hideS hp;have GW:=hideS hbel;have GK:=hideS (HK.o.below hbel (by omega));clear h1 hp hbel;by_cases hlt:k<ch
  ·have e1:64*(k:Int)<(ch:Int)*64:=by omega
   have e2:(64*(k:Int)).toNat=64*k:=by omega
   have e3:(64*(k:Int)+64).toNat=64*k+64:=by omega
   have e4:64*k+64-64*k=64:=by omega
   have e5:IntKind.i64.wrap (64*(k:Int)+64)=64*(k:Int)+64:=by simp[IntKind.wrap,IntKind.bits,IntKind.signed];omega
   have e6:64*(k:Int)+64<=(ch:Int)*64:=by omega
   have e7:0<=64*(k:Int)+64:=by omega
   have e8:0<=64*(k:Int):=by omega
   have e9:64*(k:Int)<=64*(k:Int)+64:=by omega
   have e10:¬ch*64=64*k:=by omega
   have HC:Hid (∀ j,j<64->wr.cell? ⟨w.heap.size+1,64*k+j,none⟩=some (.int .u8 (blkB t k j:Nat))):=fun j hj=>GP.o.cell (by omega)
   go_wp2_with fail
   refine wp_region_still_tail 6 Tryz.checked.mixed (by kernel_rfl) ?_;simp only[List.take_succ_cons,List.take_zero,List.drop_succ_cons,List.drop_zero];refine wpStill_load_row (show IsB _ w.heap.size 163 .u32 8 (shaS t k) from G1.o) underlying163 Tryz.size163 rfl ?_
   repeat still_step
   refine wpStill_nil ?_
   go_wp2_with fail
   refine(take_any (shaS t k) (w.heap.size+1) (64*k) (ch*64-64*k) (blkB t k) wr.drew (blkB_lt t k) (show w.heap.size+1<wr.heap.size by omega) HC.o (by omega) (show IsV wr 3 _ _ _ from GK.o)).mono ?_;rintro e w4 ⟨rfl,hb4⟩;have hb5:Below wr.heap.size wr w4:=⟨hb4.os,hb4.tape,hb4.output,hb4.size,hb4.block⟩;have J1:=hideS (G1.o.below hb5 (by omega));have JP:=hideS (GP.o.below hb5 (by omega));have JW:=hideS (GW.o.trans (hb5.mono (by omega)))
   have hsz4:w.heap.size+2<=w4.heap.size:=by have:=hb5.size;omega
   clear hb4 hb5
   go_wp2_with ((with_reducible refine wpList_store_row' J1.o Tryz.size163 (blk (blkB t k) (shaS t k)) ?_ ?_ ?_);(· rfl);(· rfl);intro w5 hi5 hB5 hz5 ho5;have L1:=hideS hi5;have LP:=hideS (JP.o.of_heap (ho5 _ (by omega)));have LW:=hideS (JW.o.trans (hB5 _ nl));have LZ:=hideS (show w.heap.size+2<=w5.heap.size by omega);clear hi5 hB5 hz5 ho5)
   go_roundw
   case rel=>exact⟨k+1,by go_num,by omega,L1.o,LP.o,LW.o,LZ.o⟩
   case measure=>simp[intOf];omega
  ·have HS:Hid (shaS t k=shaS t (chunks t.size)):=by
    unfold Hid;rw[<-HCH.o]
    congr 1
    omega
   have e1:¬64*(k:Int)<(ch:Int)*64:=by omega
   go_wp2_with fail
   go_loopw [24] (fun i wo=>∃ m:Nat,i=.int .i64 m/\m<=32/\IsB wo wr.heap.size 166 .u8 32 (fun j=>(outK (shaS t k) m j:Nat))/\IsB wo w.heap.size 163 .u32 8 (shaS t k)/\Below w.heap.size w wo) (fun i _=>32-(intOf i).toNat)
   case atStart=>exact⟨0,rfl,by omega,IsB.of_list wr 166 .u8 32 _ _ (by rfl),G1.o.alloc _,GW.o.alloc (by omega) _⟩
   case round =>
    obtain⟨m,rfl,hm,o1,o2,o3⟩:=hrel;have O1:=hideS o1;have O2:=hideS o2;by_cases hl32:m<32
    ·obtain⟨x,hx⟩:∃ x,x=shaS t k (m/4):=⟨_,rfl⟩
     have HV:Hid (x/2 ^ (24-8*(m%4))%256=((outF (shaS t k) m:Nat):Int)):=by
      unfold Hid;rw[hx];exact outF_cast _ _
     have d1:((m:Int)/4).toNat=m/4:=by omega
     have d2:(24-8*((m:Int)%4)).toNat=24-8*(m%4):=by omega
     have d3:0<=24-8*((m:Int)%4):=by omega
     have d4:(m:Int)/4<8:=by omega
     have d5:0<=(m:Int)/4:=by omega
     have cs:wr.cell? ⟨w.heap.size,m/4,none⟩=some (.int .u32 x):=by rw[o2.cell (by omega),hx]
     have co:=o1.cell hl32;have cf:=o1.frozen m;clear o1 o2 hx;(go_wp2_with fail)
     go_roundw
     case rel =>
      rw[HV.o];exact⟨m+1,by go_num,by omega,IsB.congr (O1.o.set m _) (fun j _=>outK_next _ m j _ rfl),O2.o.set_other _ _ (by simp;omega),o3.setCell (by simp;omega) _⟩
     case measure=>simp[intOf];omega
    ·obtain rfl:m=32:=by omega
     have hcv:=o1.str (P:=prog) (src:=22) (dst:=9) 32 32 nl (fun j _=>outK_lt _ _ _) underlying22 underlying5 underlying9;have HR:=hideS (outK_all (shaS t k));clear o1 o2;(go_wp2_with fail);go_ret;refine⟨Nu.ret_strJ ?_,o3⟩;rw[HR.o,HS.o];rfl
end Sh
namespace Bi
open Sh
open Nu (ret_strJ bv own_string app_below)
def pkL (t:ByteArray) (q:Nat):List UInt8:=(List.range q).map fun j=>UInt8.ofNat (pk t j 8)
theorem pkL_length (t:ByteArray) (q:Nat):(pkL t q).length=q:=by simp[pkL]
theorem pkL_next (t:ByteArray) (q:Nat):pkL t (q+1)=pkL t q++[UInt8.ofNat (pk t q 8)]:=by simp[pkL,List.range_succ]
theorem pkL_all (t:ByteArray):(⟨(pkL t ((t.size+7)/8)).toArray⟩:ByteArray)=packV t:=rfl
theorem pkL_row {w:World} {B q:Nat} {e:TypeId} {v:Value} {t:ByteArray} {h:Nat} (hh:h=pk t q 8) (hr:w.ownsRow B e 1 v (q+1) ((pkL t q).map bv++[.int .u8 (h:Int)])) :
  w.ownsRow B e 1 v (q+1) ((pkL t (q+1)).map bv):=by
 rw[pkL_next,List.map_append,List.map_singleton]
 have:bv (UInt8.ofNat (pk t q 8))=.int .u8 (h:Int):=by
  have:=pk_lt t q 8 nl
  unfold bv;rw[UInt8.toNat_ofNat',Nat.mod_eq_of_lt (by omega),hh]
 rw[this];exact hr
theorem own_len {w:World} {B m n:Nat} {e:TypeId} {v:Value} {xs:List Value} (h:w.ownsRow B e 1 v m xs) (hm:m=n):w.ownsRow B e 1 v n xs:=by rw[<-hm];exact h
theorem packS_yes (t:ByteArray) (w:World) (ht:¬8000<t.size) (hg:good t=true) :
  Calls prog 137 #[.string t] w fun e w'=>e=.returned (.string (packV t))/\Below w.heap.size w w':=by
 obtain⟨i0,hi,hz0,hz1,hz2⟩:=info_parts Nu.Tryz.infoJ5;have HG:=hideB (good_spec t w (by omega));rw[hg]at HG;have HA:=hideB (good_yes hg);have hd8:decide (8000<(t.size:Int))=false:=decide_eq_false (by omega);clear hg;go_enter func137,ntmps137
 go_wp2_with fail
 refine HG.o.mono ?_;rintro e w' ⟨rfl,hw⟩;subst w'
 go_wp2_with fail
 go_loopw [4,3] (fun i v wr=>∃ q:Nat,i=.int .i64 (8*(q:Int))/\8*q<=t.size+7/\wr.ownsRow w.heap.size 5 1 v q ((pkL t q).map bv)/\Below w.heap.size w wr) (fun i _ _=>t.size+8-(intOf i).toNat)
 case atStart=>exact⟨0,rfl,by omega,World.ownsRow_made _ _ _ nl (by decide) rfl,(Below.refl _ _).alloc nl _⟩
 case round =>
  obtain⟨q,rfl,hq,hown,hbel⟩:=hrel;have HO:=hideB hown;have GB:=hideB hbel;clear hown hbel;by_cases hlt:8*q<t.size
  ·have hlt':8*(q:Int)<t.size:=by omega
   go_wp2_with fail
   go_loopw [6,5] (fun i v wr2=>∃ r h:Nat,i=.int .i64 (8*(q:Int)+r)/\v=.int .i64 h/\h=hd t q r/\r<=8/\wr2=wr) (fun i _ _=>8*q+8-(intOf i).toNat)
   case atStart=>exact⟨0,0,by go_num,rfl,rfl,by omega,rfl⟩
   case round =>
    obtain⟨r,h,rfl,rfl,hh,hr,hw⟩:=hrel;subst hw;have HH:=hideB hh;have hle:h<256:=(by rw[hh];exact hd_le t q r hr);clear hh;by_cases hr8:r<8
    ·by_cases hin:8*q+r<t.size
     ·obtain⟨i,hii⟩:∃ i:Nat,i=8*q+r:=⟨_,rfl⟩
      have hiz:8*(q:Int)+r=i:=by omega
      have hib:i<t.size:=by omega
      obtain⟨y,b0,hy⟩:=byte_at t i hib;have h01:=HA.o i (by omega);rw[<-hy]at h01;have h02:(48:Int)<=y.toNat/\(y.toNat:Int)<=49:=(by omega)
      have HN:Hid (2*(h:Int)+((y.toNat:Int)-48)=((hd t q (r+1):Nat):Int)):=by
       unfold Hid;simp only[hd];rw[<-HH.o,<-hii];unfold one;by_cases e:bt t i=49
       ·rw[if_pos ⟨by omega,e⟩]
        omega
       ·rw[if_neg (fun x=>e x.2)]
        omega
      have HI:=hideB hii;clear hy h01 hii;rw[hiz];have hi8:(i:Int)<8*(q:Int)+8:=(by omega);have hit:(i:Int)<t.size:=(by omega);(go_wp2_with fail)
      go_roundw
      case rel=>exact⟨r+1,hd t q (r+1),by go_num,by rw[<-HN.o],rfl,by omega,trivial⟩
      case measure=>simp[intOf];omega
     ·have HN:Hid (2*(h:Int)=((hd t q (r+1):Nat):Int)):=by
       unfold Hid;simp only[hd];rw[<-HH.o,one_behind t _ (by omega)];omega
      have hit:¬8*(q:Int)+r<t.size:=by omega
      (go_wp2_with fail)
      go_roundw
      case rel=>exact⟨r+1,hd t q (r+1),by go_num,by rw[<-HN.o],rfl,by omega,trivial⟩
      case measure=>simp[intOf];omega
    ·have HE:Hid (h=pk t q 8):=by
      unfold Hid;rw[HH.o,show r=8 by omega,hd_all]
     have hge:¬8*(q:Int)+r<8*(q:Int)+8:=by omega
     have hown:=HO.o;have hbz:=GB.o.size
     go_wp2_with (at_builtin;refine wpList_append_own _ rfl (.tmp 42) (.tmp 45) 22 rfl w.heap.size 5 i0 (.int .u8 0) 1 1 underlying22 hi hz0 hz1 hz2 rfl (by decide) _ _ _ rfl (hown.alloc _) ⟨wr.heap.size,0,none⟩ 1 1 [.int .u8 (h:Int)] rfl rfl ?c1 ?c2 ?c3 ?c4 ?c5 ?_)
     case c2=>rfl
     case c3=>unfold maxLen;omega
     case c4=>omega
     case c5=>omega
     intro v' w1 hown' hgrow _;have H1:=hideB (app_below GB.o nl HO.o hgrow);have R1:=hideB (pkL_row HE.o hown');clear hown' hgrow hown;(go_wp2_with fail)
     go_roundw
     case rel=>exact⟨q+1,by go_num,by omega,R1.o,H1.o⟩
     case measure=>simp[intOf];omega
  ·have hlt':¬8*(q:Int)<t.size:=by omega
   have HQ:Hid (q=(t.size+7)/8):=by
    unfold Hid;omega
   have hcv:=own_string (P:=prog) (src:=22) (dst:=9) (pkL t q) (own_len HO.o (pkL_length t q).symm) underlying22 underlying5 underlying9
   have HE:Hid ((⟨(pkL t q).toArray⟩:ByteArray)=packV t):=by
    unfold Hid;rw[HQ.o];exact pkL_all t
   rw[HE.o]at hcv
   go_wp2_with fail
   go_ret;exact⟨rfl,GB.o⟩
theorem pack_spec (t:ByteArray) (w:World) (ht:t.size<=1048576) :
  Calls prog 137 #[.string t] w fun e w'=>e=.returned (.string (packR t))/\Below w.heap.size w w':=by
 by_cases h:8000<t.size
 ·have HE:=hideB (packR_no t (Or.inl h))
  go_enter func137,ntmps137
  go_wp2_with fail
  go_ret;exact⟨ret_strJ HE.o.symm,Below.refl _ _⟩
 ·cases hg:good t with
  |false =>
   have HE:=hideB (packR_no t (Or.inr hg));have HG:=hideB (good_spec t w (by omega));rw[hg]at HG;go_enter func137,ntmps137
   go_wp2_with fail
   refine HG.o.mono ?_;rintro e w' ⟨rfl,hw⟩;subst w'
   go_wp2_with fail
   go_ret;exact⟨ret_strJ HE.o.symm,Below.refl _ _⟩
  |true =>
   rw[packR_yes t h hg];exact packS_yes t w h hg
end Bi
namespace Sh
theorem hideA {p:Prop} (h:p):Hid p:=h
theorem app_own {B:Nat} {w wr w1:World} {v:Value} {n:Nat} {f:Nat->Nat} {o:Obj} (hbel:Below B w wr) (hB:B<=wr.heap.size) (hown:OwnB wr B v n f) (hgrow:(wr.alloc o).grownBy w1 v.ownBlock):Below B w w1:=by
 obtain⟨g,cap,rfl,hg,_⟩:=hown;refine(hbel.alloc hB o).grown hgrow (by simp;omega) ?_;intro k hk;simp[Value.ownBlock]at hk;omega
theorem four_cell (a b c d:Int):∀ u∈[Value.int .u8 a,Value.int .u8 b,Value.int .u8 c,Value.int .u8 d],u.oneCell'=true:=by
 intro u hu;simp at hu
 rcases hu with rfl|rfl|rfl|rfl<;>rfl
theorem cell_one (W:World) (x:Value) (t:TypeId):(W.alloc (.cells #[x] t)).cell? ((⟨W.heap.size,0,none⟩:Addr).add 0)=some x:=one_new W x t 0 x rfl
theorem all_of (hblk:∀ (s:Nat->Int) (gs c:Nat) (t:ByteArray) (w:World),t.size=64->gs<w.heap.size->(∀ j,j<8->w.cell? ⟨gs,j,none⟩=some (.int .i64 (s j)))->(∀ j,0<=s j/\s j<4294967296) ->
   Calls prog 155 #[.slice (some ⟨gs,0,none⟩) 8 c,.string t] w fun e w'=>∃ g c',e=.returned (.slice (some ⟨g,0,none⟩) 8 c')/\w.heap.size<=g/\g<w'.heap.size/\(∀ j,j<8->w'.cell? ⟨g,j,none⟩=some (.int .i64 (blk (bt t) s j)))/\Below w.heap.size w w')
  (t:ByteArray) (w:World) (ht:t.size<=1048576) :
  Calls prog 116 #[.string t] w fun e w'=>e=.returned (.string (sha t))/\Below w.heap.size w w':=by
 have HBK:=hideA hblk;clear hblk;obtain⟨i0,hi,hz0,hz1,hz2⟩:=info_parts Nu.Tryz.infoJ5;obtain⟨ch,hch⟩:∃ c,c=chunks t.size:=⟨_,rfl⟩;have hr:=chunks_room t.size;have hti:=chunks_tight t.size;rw[<-hch]at hr hti;have HCH:=hideA hch;clear hch
 obtain⟨V,w1,hcv,hO,hB⟩:∃ V w1,(convert 9 22 (.string t)).run prog w=.ok V w1/\OwnB w1 w.heap.size V t.size (bt t)/\Below w.heap.size w w1 :=
  ⟨_,_,run_bytes_of_string (P:=prog) w 9 22 5 t underlying9 underlying22 underlying5,own_of_string w w.heap.size t 5 (by unfold maxLen;omega) nl,(Below.refl _ _).drew.alloc nl _⟩
 have HO:=hideA hO;have HB:=hideA hB;clear hO hB;go_enter func116,ntmps116
 go_wp2_with (at_builtin;refine wpList_append_b rfl _ _ 22 rfl w.heap.size 5 i0 underlying22 hi hz0 hz1 hz2 V t.size (bt t) rfl (HO.o.alloc _) ⟨w1.heap.size,0,none⟩ 1 128 rfl (cell_one w1 _ _) (by omega) (by have:=HB.o.size;simp;omega) ?_;intro v2 w2 hO2 hg2)
 have HO2:=hideA (hO2.congr (fun j hj=>pad_first t j hj));have HB2:=hideA (app_own HB.o HB.o.size HO.o hg2);clear hO2 hg2 HO HB
 go_loopw [3] (fun v wr=>∃ n:Nat,OwnB wr w.heap.size v n (pad t)/\t.size+1<=n/\n+8<=ch*64/\Below w.heap.size w wr) (fun v _=>match v with|.slice _ n _=>ch*64-n|_=>0)
 case atStart=>exact⟨t.size+1,HO2.o,by omega,by omega,HB2.o⟩
 case round =>
  obtain⟨n,hown,hn1,hn2,hbel⟩:=hrel;have HO3:=hideA hown;have HB3:=hideA hbel;obtain⟨g,cap,hv,hcap⟩:=hown.slice;subst hv;clear hown hbel;by_cases hmod:n%64=56
  ·have HN:=hideA (show n=ch*64-8 by omega)
   have em:((n:Int)%64==56)=true:=by simp;omega
   have em2:((n:Int)%64 != 56)=false:=by simp;omega
   go_wp2_with fail
   go_loopw [3,5] (fun v i wr=>∃ m:Nat,i=.int .i64 (56-8*(m:Int))/\m<=8/\OwnB wr w.heap.size v (n+m) (pad t)/\Below w.heap.size w wr) (fun _ i _=>(intOf i+8).toNat)
   case atStart=>exact⟨0,rfl,by omega,HO3.o,HB3.o⟩
   case round =>
    obtain⟨m,rfl,hm,hown,hbel⟩:=hrel;have HO5:=hideA hown;have HB5:=hideA hbel;obtain⟨g5,cap5,hv,hcap5⟩:=hown.slice;subst hv;clear hown hbel;by_cases hm8:m<8
    ·have q1:IntKind.u64.wrap (56-8*(m:Int))=56-8*(m:Int):=by simp[IntKind.wrap,IntKind.bits,IntKind.signed];omega
     have q2:(56-8*(m:Int)).toNat=56-8*m:=by omega
     have q3:0<=56-8*(m:Int):=by omega
     obtain⟨x,hx⟩:∃ x,x=t.size*8/2 ^ (56-8*m)%256:=⟨_,rfl⟩
     have HV:Hid (8*(t.size:Int)/2 ^ (56-8*m)%256=(x:Int)):=by
      unfold Hid;rw[hx,Nat.mul_comm t.size 8];simp
     have HP:Hid (x=pad t (n+m)):=by
      unfold Hid;rw[hx,HN.o,HCH.o,pad_len t m hm8]
     clear hx
     go_wp2_with (at_builtin;refine wpList_append_b rfl _ _ 22 rfl w.heap.size 5 i0 underlying22 hi hz0 hz1 hz2 (.slice (some ⟨g5,0,none⟩) (n+m) cap5) (n+m) (pad t) rfl (HO5.o.alloc _) ⟨wr.heap.size,0,none⟩ 1 x rfl (by rw[cell_one];exact congrArg some (congrArg (Value.int .u8) HV.o)) (by omega) (by have:=HB5.o.size;simp;omega) ?_;intro v6 w6 hO6 hg6;have HO6:=hideA (hO6.congr (fun j _=>pad_app t (n+m) x HP.o j));have HB6:=hideA (app_own HB5.o HB5.o.size HO5.o hg6);clear hO6 hg6)
     go_roundw
     case rel=>exact⟨m+1,by go_num,by omega,HO6.o,HB6.o⟩
     case measure=>simp[intOf];omega
    ·have HNM:Hid (n+m=ch*64):=by
      have:=HN.o
      unfold Hid;omega
     have q3:¬0<=56-8*(m:Int):=by omega
     (go_wp2_with fail);refine(start_any wr).mono ?_;rintro e w7 ⟨rfl,hw7⟩
     have HS7:Hid (∀ j,j<8->w7.cell? ⟨wr.heap.size,j,none⟩=some (.int .i64 (shaS t 0 j))):=by
      intro j hj;rw[hw7];exact(IsB.new wr 2 .i64 8 firstF).cell hj
     have HO7:Hid (OwnB w7 w.heap.size (.slice (some ⟨g5,0,none⟩) (n+m) cap5) (n+m) (pad t)):=by
      unfold Hid;rw[hw7];exact HO5.o.alloc _
     have HB7:Hid (Below w.heap.size w w7):=by
      unfold Hid;rw[hw7];exact HB5.o.alloc HB5.o.size _
     have HZ7:Hid (wr.heap.size<w7.heap.size):=by
      unfold Hid;rw[hw7];simp
     generalize n+m=L at HO7 HNM hcap5 ⊢;generalize wr.heap.size=G7 at HS7 HZ7 ⊢;clear hw7 HO5 HB5;(go_wp2_with fail)
     go_loopw [6,7] (fun st i wr=>∃ k gs c:Nat,st=.slice (some ⟨gs,0,none⟩) 8 c/\i=.int .i64 (64*(k:Int))/\k<=ch/\gs<wr.heap.size/\(∀ j,j<8->wr.cell? ⟨gs,j,none⟩=some (.int .i64 (shaS t k j)))/\OwnB wr w.heap.size (.slice (some ⟨g5,0,none⟩) L cap5) L (pad t)/\Below w.heap.size w wr) (fun _ i _=>ch*64-(intOf i).toNat)
     case atStart=>exact⟨0,G7,8,rfl,rfl,Nat.zero_le _,HZ7.o,HS7.o,HO7.o,HB7.o⟩
     case round =>
      obtain⟨k,gs,c,rfl,rfl,hk,hgs,hcs,hown,hbel⟩:=hrel;have HC8:=hideA hcs;have HO8:=hideA hown;have HB8:=hideA hbel;have HG8:=hideA hgs;clear hcs hown hbel hgs;by_cases hkc:k<ch
      ·have e1:64*(k:Int)<(L:Int):=by have:=HNM.o;omega
       have e2:(64*(k:Int)).toNat=64*k:=by omega
       have e3:(64*(k:Int)+64).toNat=64*k+64:=by omega
       have e4:64*k+64-64*k=64:=by omega
       have e5:IntKind.i64.wrap (64*(k:Int)+64)=64*(k:Int)+64:=by simp[IntKind.wrap,IntKind.bits,IntKind.signed];omega
       have e6:64*(k:Int)+64<=(cap5:Int):=by have:=HNM.o;omega
       have e7:0<=64*(k:Int)+64:=by omega
       have e8:0<=64*(k:Int):=by omega
       have e9:64*(k:Int)<=64*(k:Int)+64:=by omega
       have e10:¬cap5=64*k:=by have:=HNM.o;omega
       have hcv8:=HO8.o.piece (P:=prog) (src:=22) (dst:=9) (64*k) 64 (cap5-64*k) (by have:=HNM.o;omega) (pad_lt t) underlying22 underlying5 underlying9;(go_wp2_with fail);refine(HBK.o (shaS t k) gs c (strF 64 (blkB t k)) wr (strF_size 64 _) HG8.o HC8.o (shaS_range t k)).mono ?_;rintro e w9 ⟨g9,c9,rfl,hg9a,hg9b,hcl9,hb9⟩;rw[blk_str]at hcl9;have HC9:=hideA hcl9;have HO9:=hideA (HO8.o.below hb9 nl);have HB9:=hideA (HB8.o.trans (hb9.mono HB8.o.size));have HG9:=hideA hg9b;clear hcl9 hb9 hg9a hg9b;(go_wp2_with fail)
       go_roundw
       case rel=>exact⟨k+1,g9,c9,rfl,by go_num,by omega,HG9.o,HC9.o,HO9.o,HB9.o⟩
       case measure=>simp[intOf];omega
      ·have e1:¬64*(k:Int)<(L:Int):=by have:=HNM.o;omega
       have HSK:Hid (shaS t k=shaS t (chunks t.size)):=by
        unfold Hid;rw[<-HCH.o]
        congr 1
        have:=HNM.o
        omega
       (go_wp2_with fail);obtain⟨w8,hw8⟩:∃ x,x=wr:=⟨_,rfl⟩;have HW8:=hideA hw8;clear hw8;have HE8:=hideA (own_empty wr wr.heap.size 5 nl);have HL8:=hideA ((Below.refl wr.heap.size wr).alloc nl (.cells #[] 5))
       go_loopw [8,9] (fun v i wo=>∃ j:Nat,i=.int .i64 j/\j<=8/\wo.ownsRow w8.heap.size 5 1 v (4*j) (rowF .u8 (4*j) (fun q=>(outF (shaS t k) q:Nat))).toList/\Below w8.heap.size w8 wo) (fun _ i _=>8-(intOf i).toNat)
       case atStart =>
        refine⟨0,rfl,by omega,?_,?_⟩
        ·rw[HW8.o];exact HE8.o
        ·rw[HW8.o];exact HL8.o
       case round =>
        rw[<-HW8.o]at HC8 HO8 HB8 HG8;obtain⟨j,rfl,hj,hown,hbel⟩:=hrel;have HOj:=hideA hown;have HBj:=hideA hbel;by_cases hj8:j<8
        ·obtain⟨x,hx⟩:∃ x,x=shaS t k j:=⟨_,rfl⟩
         have cs:wr.cell? ⟨gs,j,none⟩=some (.int .i64 x):=by rw[hbel.cell (p:=⟨gs,j,none⟩) HG8.o,HC8.o j hj8,hx]
         have lj:(j:Int)<8:=by omega
         have HX:=hideA hx;have hsz9:w8.heap.size<=wr.heap.size:=hbel.size;clear hx hbel hown
         go_wp2_with (at_builtin;refine wpList_append_own _ rfl _ _ 22 rfl w8.heap.size 5 i0 (.int .u8 0) 1 1 underlying22 hi hz0 hz1 hz2 rfl (by decide) _ _ _ rfl (HOj.o.alloc _) ⟨wr.heap.size,0,none⟩ 4 4 [.int .u8 (x/16777216%256),.int .u8 (x/65536%256),.int .u8 (x/256%256),.int .u8 (x%256)] rfl rfl (four_new wr _ _ _ _ _) (four_cell _ _ _ _) (by unfold maxLen;omega) (by omega) (by simp;omega) ?_;intro v6 w6 hO6 hg6 _;have HB6:=hideA (Nu.app_below HBj.o nl HOj.o hg6);have HO6:=hideA hO6;clear hO6 hg6)
         go_roundw
         case rel =>
          refine⟨j+1,by go_num,by omega,?_,HB6.o⟩;have e:=HO6.o;rw[out_four (shaS t k) j _ _ _ _ (by rw[HX.o]) (by rw[HX.o]) (by rw[HX.o]) (by rw[HX.o])]at e;rw[show 4*(j+1)=4*j+4 by omega]at e ⊢;exact e
         case measure=>simp[intOf];omega
        ·have hown8:wr.ownsRow w8.heap.size 5 1 u8 32 (rowF .u8 32 (fun q=>(outF (shaS t k) q:Nat))).toList:=by
          have e:j=8:=by omega
          rw[e]at hown;exact hown
         have hcv9:=own_str (P:=prog) (src:=22) (dst:=9) hown8 (outF_lt _) underlying22 underlying5 underlying9;have HFB:=hideA (HB8.o.trans (hbel.mono HB8.o.size));clear hown hown8 hbel;(go_wp2_with fail);go_ret;refine⟨Nu.ret_strJ ?_,HFB.o⟩;rw[HSK.o];rfl
  ·have em:((n:Int)%64==56)=false:=by simp;omega
   have HZ:Hid (0=pad t n):=by
    unfold Hid;rw[pad_zero t n (by omega) (by rw[<-HCH.o];omega)]
   go_wp2_with (at_builtin;refine wpList_append_b rfl _ _ 22 rfl w.heap.size 5 i0 underlying22 hi hz0 hz1 hz2 (.slice (some ⟨g,0,none⟩) n cap) n (pad t) rfl (HO3.o.alloc _) ⟨wr.heap.size,0,none⟩ 1 0 rfl (cell_one wr _ _) (by omega) (by have:=HB3.o.size;simp;omega) ?_;intro v4 w4 hO4 hg4;have HO4:=hideA (hO4.congr (fun j _=>pad_app t n 0 HZ.o j));have HB4:=hideA (app_own HB3.o HB3.o.size HO3.o hg4);clear hO4 hg4)
   obtain⟨g',cap',hv4,hcap4⟩:=HO4.o.slice;subst hv4
   go_roundw
   case rel=>exact⟨n+1,HO4.o,by omega,by omega,HB4.o⟩
   case measure=>simp;omega
theorem all_any (t:ByteArray) (w:World) (ht:t.size<=1048576) :
  Calls prog 116 #[.string t] w fun e w'=>e=.returned (.string (sha t))/\Below w.heap.size w w' :=
 all_of (fun s gs c t w h1 h2 h3 h4=>block_any s gs c t w h1 h2 h3 h4) t w ht
def digestV (t:ByteArray):ByteArray:=if t.size<=8000 then sha t else ⟨#[]⟩
theorem digest_impl (t:ByteArray) (w:World) (ht:t.size<=maxLen) (hV:Vars w) :
  Calls prog 81 #[.string t] w fun e w'=>e=.returned (.string (digestV t))/\Below w.heap.size w w':=by
 unfold maxLen at ht;have HV:=hideS hV;clear hV;by_cases h:8000<t.size
 ·have HP:=hideS (show digestV t=⟨#[]⟩ by unfold digestV;rw[if_neg (by omega)])
  go_enter func81,ntmps81
  go_wp2_with fail
  go_ret;exact⟨Nu.ret_strJ HP.o.symm,Below.refl _ _⟩
 ·have HP:=hideS (show digestV t=sha t by unfold digestV;rw[if_pos (by omega)])
  go_enter func81,ntmps81
  go_wp2_with fail
  refine(digestOf_any t w (by omega) HV.o).mono ?_;rintro e w1 ⟨rfl,hb1⟩
  go_wp2_with fail
  go_ret;exact⟨Nu.ret_strJ HP.o.symm,hb1⟩
theorem below3 {w w1 w2 w3:World} (h1:Below w.heap.size w w1) (h2:Below w1.heap.size w1 w2) (h3:Below w2.heap.size w2 w3):Below w.heap.size w w3 :=
 have a:=h1.trans (h2.mono h1.size)
 a.trans (h3.mono a.size)
def leafV (t:ByteArray):ByteArray:=sha (⟨#[0]⟩++t)
def nodeV (a b:ByteArray):ByteArray:=sha (⟨#[1]⟩++a++b)
theorem leafV_size (t:ByteArray):(leafV t).size=32:=sha_size _
theorem nodeV_size (a b:ByteArray):(nodeV a b).size=32:=sha_size _
theorem mark0_size (t:ByteArray):((⟨#[0]⟩:ByteArray)++t).size=1+t.size:=by
 rw[ByteArray.size_append];rfl
theorem mark1_size (t:ByteArray):((⟨#[1]⟩:ByteArray)++t).size=1+t.size:=by
 rw[ByteArray.size_append];rfl
theorem l03Leaf_any (t:ByteArray) (w:World) (ht:t.size<=8000) :
  Calls prog 83 #[.string t] w fun e w'=>e=.returned (.string (leafV t))/\Below w.heap.size w w':=by
 go_enter func83,ntmps83
 go_wp2_with fail
 refine(all_any _ w (by rw[mark0_size];omega)).mono ?_;rintro e w1 ⟨rfl,hb1⟩
 go_wp2_with fail
 go_ret;exact⟨rfl,hb1⟩
theorem l03Node_any (a b:ByteArray) (w:World) (ha:a.size<=8000) (hb:b.size<=8000) :
  Calls prog 115 #[.string a,.string b] w fun e w'=>e=.returned (.string (nodeV a b))/\Below w.heap.size w w':=by
 go_enter func115,ntmps115
 go_wp2_with fail
 refine(all_any _ w (by rw[ByteArray.size_append,mark1_size];omega)).mono ?_;rintro e w1 ⟨rfl,hb1⟩
 go_wp2_with fail
 go_ret;exact⟨rfl,hb1⟩
def leafR (t:ByteArray):ByteArray:=if 100<t.size then ⟨#[]⟩ else leafV t
theorem leafR_no (t:ByteArray) (h:100<t.size):leafR t=⟨#[]⟩:=if_pos h
theorem leafR_yes (t:ByteArray) (h:¬100<t.size):leafR t=leafV t:=if_neg h
def nodeR (a b:ByteArray):ByteArray:=if a.size=32/\b.size=32 then nodeV a b else ⟨#[]⟩
theorem nodeR_no (a b:ByteArray) (h:¬(a.size=32/\b.size=32)):nodeR a b=⟨#[]⟩:=if_neg h
theorem nodeR_yes (a b:ByteArray) (h:a.size=32) (h':b.size=32):nodeR a b=nodeV a b:=if_pos ⟨h,h'⟩
theorem leaf_impl (t:ByteArray) (w:World) (ht:t.size<=maxLen) (hV:Vars w) :
  Calls prog 51 #[.string t] w fun e w'=>e=.returned (.string (leafR t))/\Below w.heap.size w w':=by
 have HT:=hideS ht;unfold maxLen at ht;have HV:=hideS hV;have h2:=hV.two;clear hV;by_cases h:100<t.size
 ·have HP:=hideS (leafR_no t h)
  go_enter func51,ntmps51
  go_wp2_with fail
  go_ret;exact⟨Nu.ret_strJ HP.o.symm,Below.refl _ _⟩
 ·have HP:=hideS (leafR_yes t h)
  have HD:=hideS (show digestV (⟨#[0]⟩++t)=leafV t by unfold digestV leafV;rw[if_pos (by rw[mark0_size];omega)]);go_enter func51,ntmps51
  go_wp2_with fail
  refine(Nu.join_any ⟨#[0]⟩ t w (by rw[show (⟨#[0]⟩:ByteArray).size=1 from rfl];omega)).mono ?_;rintro e w1 ⟨rfl,hb1⟩
  go_wp2_with fail
  refine(digest_impl _ _ (by rw[mark0_size];unfold maxLen;omega) (HV.o.below hb1 h2)).mono ?_;rintro e w2 ⟨rfl,hb2⟩;have HB:=hideS (hb1.trans (hb2.mono hb1.size));clear hb1 hb2
  go_wp2_with fail
  go_ret;exact⟨Nu.ret_strJ (HD.o.trans HP.o.symm),HB.o⟩
theorem node_impl (a b:ByteArray) (w:World) (hV:Vars w) :
  Calls prog 89 #[.string a,.string b] w fun e w'=>e=.returned (.string (nodeR a b))/\Below w.heap.size w w':=by
 have HV:=hideS hV;have h2:=hV.two;clear hV;by_cases h:a.size=32
 ·by_cases h':b.size=32
  ·have HP:=hideS (nodeR_yes a b h h')
   have HD:=hideS (show digestV (⟨#[1]⟩++(a++b))=nodeV a b by unfold digestV nodeV;rw[if_pos (by rw[mark1_size,ByteArray.size_append];omega),ByteArray.append_assoc]);go_enter func89,ntmps89
   go_wp2_with fail
   refine(Nu.join_any a b w (by omega)).mono ?_;rintro e w1 ⟨rfl,hb1⟩
   go_wp2_with fail
   refine(Nu.join_any ⟨#[1]⟩ (a++b) _ (by rw[show (⟨#[1]⟩:ByteArray).size=1 from rfl,ByteArray.size_append];omega)).mono ?_;rintro e w2 ⟨rfl,hb2⟩
   go_wp2_with fail
   refine(digest_impl _ _ (by rw[mark1_size,ByteArray.size_append];unfold maxLen;omega) ((HV.o.below hb1 h2).below hb2 (by have:=hb1.size;omega))).mono ?_;rintro e w3 ⟨rfl,hb3⟩;have HB:=hideS (below3 hb1 hb2 hb3);clear hb1 hb2 hb3
   go_wp2_with fail
   go_ret;exact⟨Nu.ret_strJ (HD.o.trans HP.o.symm),HB.o⟩
  ·have HP:=hideS (nodeR_no a b (fun x=>h' x.2))
   go_enter func89,ntmps89
   go_wp2_with fail
   go_ret;exact⟨Nu.ret_strJ HP.o.symm,Below.refl _ _⟩
 ·have HP:=hideS (nodeR_no a b (fun x=>h x.1))
  go_enter func89,ntmps89
  go_wp2_with fail
  go_ret;exact⟨Nu.ret_strJ HP.o.symm,Below.refl _ _⟩
end Sh
namespace Tr
open Sh (sha sha_size leafV nodeV leafV_size nodeV_size)
def half (n:Nat):Nat:=2 ^ Nat.log2 (n-1)
theorem half_pos (n:Nat):1<=half n:=Nat.one_le_two_pow
theorem half_lt (n:Nat) (h:2<=n):half n<n:=by
 have:=Nat.log2_self_le (n:=n-1) (by omega)
 unfold half;omega
theorem half_two (n:Nat) (h:2<=n):n<=2*half n:=by
 have:=Nat.lt_log2_self (n:=n-1)
 unfold half;rw[Nat.pow_succ]at this;omega
theorem half_of (n i:Nat) (h1:2 ^ i<n) (h2:n<=2*2 ^ i):half n=2 ^ i:=by
 unfold half
 congr 1
 refine(Nat.log2_eq_iff (by omega)).2 ⟨by omega,?_⟩;rw[Nat.pow_succ];omega
def tree (l:List ByteArray):ByteArray :=
 if h0:l.length=0 then sha ⟨#[]⟩
 else if h1:l.length=1 then leafV (l[0]'(by omega))
 else nodeV (tree (l.take (half l.length))) (tree (l.drop (half l.length)))
termination_by l.length
decreasing_by
 ·have:=half_lt l.length (by omega)
  simp;omega
 ·have:=half_pos l.length
  simp;omega
theorem tree_nil (l:List ByteArray) (h:l.length=0):tree l=sha ⟨#[]⟩:=by rw[tree,dif_pos h]
theorem tree_one (l:List ByteArray) (h:l.length=1):tree l=leafV (l[0]'(by omega)):=by rw[tree,dif_neg (by omega),dif_pos h]
theorem tree_two (l:List ByteArray) (h:2<=l.length):tree l=nodeV (tree (l.take (half l.length))) (tree (l.drop (half l.length))):=by
 rw[tree,dif_neg (by omega),dif_neg (by omega)]
theorem tree_size (l:List ByteArray):(tree l).size=32:=by
 rw[tree]
 split
 ·exact sha_size _
 ·split
  ·exact leafV_size _
  ·exact nodeV_size _ _
def right (l:List ByteArray):Bool:=decide (l.length<=64) && l.all (fun s=>decide (s.size<=100))
theorem right_yes (l:List ByteArray):right l=true↔l.length<=64/\∀ j (h:j<l.length),l[j].size<=100:=by
 unfold right;simp only[Bool.and_eq_true,decide_eq_true_eq,List.all_eq_true]
 constructor
 ·rintro⟨h1,h2⟩
  exact⟨h1,fun j hj=>h2 _ (List.getElem_mem hj)⟩
 ·rintro⟨h1,h2⟩
  refine⟨h1,fun s hs=>?_⟩;obtain⟨j,hj,rfl⟩:=List.getElem_of_mem hs;exact h2 j hj
theorem right_long (l:List ByteArray) (h:64<l.length):right l=false:=by
 cases e:right l with
 |false=>rfl
 |true=>have:=((right_yes l).1 e).1;omega
theorem right_bad (l:List ByteArray) (j:Nat) (hj:j<l.length) (h:100<l[j].size):right l=false:=by
 cases e:right l with
 |false=>rfl
 |true=>have:=((right_yes l).1 e).2 j hj;omega
def treeR (l:List ByteArray):ByteArray:=if right l=true then tree l else ⟨#[]⟩
end Tr
namespace Tr
open St (hideT)
theorem ret_int {a b:Int} (h:a=b):Ending.returned (.int .i64 a)=.returned (.int .i64 b):=by rw[h]
theorem half_spec (n:Nat) (w:World) (h2:2<=n) (hn:n<=1048576) :
  Calls prog 84 #[.int .i64 n] w fun e w'=>e=.returned (.int .i64 (half n))/\w'=w:=by
 go_enter func84,ntmps84
 go_wp2_with fail
 go_loopw [3] (fun v wr=>∃ k i:Nat,v=.int .i64 k/\k=2 ^ i/\k<n/\wr=w) (fun v _=>n-(intOf v).toNat)
 case atStart=>exact⟨1,0,rfl,rfl,by omega,rfl⟩
 case round =>
  obtain⟨k,i,rfl,hki,hk,hw⟩:=hrel;subst hw;have HK:=hideT hki
  have hpos:1<=k:=by rw[hki];exact Nat.one_le_two_pow
  clear hki;by_cases hlt:2*k<n
  ·have g1:2*(k:Int)<n:=by omega
   go_wp2_with fail
   go_roundw
   case rel=>exact⟨2*k,i+1,by go_num,by rw[Nat.pow_succ,<-HK.o];omega,by omega,trivial⟩
   case measure=>simp[intOf];omega
  ·have g1:¬2*(k:Int)<n:=by omega
   have HE:Hid (half n=k):=by
    unfold Hid;rw[HK.o];exact half_of n i (by rw[<-HK.o];omega) (by rw[<-HK.o];omega)
   go_wp2_with fail
   go_ret;exact⟨ret_int (by rw[HE.o]),rfl⟩
def len (x:Nat):Nat:=if x=0 then 0 else Nat.log2 x+1
end Tr
namespace Tr
open St
theorem right_impl (a:Option Addr) (cap:Nat) (l:List ByteArray) (w:World) (B:Nat) (h:Strs w B a l) (hn:l.length<=1048576) :
  Calls prog 58 #[.slice a l.length cap] w fun e w'=>e=.returned (.bool (right l))/\w'=w:=by
 have HS:=hideT h;clear h;obtain⟨n,hln⟩:∃ n,n=l.length:=⟨_,rfl⟩;have HLN:=hideT hln;by_cases hbig:64<n
 ·have HR:=hideT (right_long l (by omega))
  rw[<-hln]at hn ⊢;clear hln;go_enter func58,ntmps58
  go_wp2_with fail
  go_ret;exact⟨ret_bool HR.o.symm,rfl⟩
 ·rw[<-hln]at hn ⊢
  clear hln;go_enter func58,ntmps58
  go_wp2_with fail
  go_loopw [10] (fun i wr=>∃ k:Nat,i=.int .i64 k/\k<=n/\(∀ j (hj:j<l.length),j<k->l[j].size<=100)/\wr=w) (fun i _=>n-(intOf i).toNat)
  case atStart=>exact⟨0,rfl,by omega,fun j hj h0=>by omega,rfl⟩
  case round =>
   obtain⟨k,rfl,hk,hall,hw⟩:=hrel;subst hw;have HA:=hideT hall;clear hall;by_cases hlt:k<n
   ·have hkl:k<l.length:=by rw[<-HLN.o];exact hlt
    obtain⟨b,off,rfl,hb,hc⟩:=HS.o.some (by omega);have ci:=hc k hkl;have HBad:=hideT (right_bad l k hkl);obtain⟨s,hs⟩:∃ s,s=l[k]:=⟨_,rfl⟩;have HSE:=hideT hs;rw[<-hs]at ci;clear hc hs;by_cases h100:100<s.size
    ·go_wp2_with fail
     go_ret;exact⟨ret_bool (HBad.o (by rw[<-HSE.o];exact h100)).symm,rfl⟩
    ·go_wp2_with fail
     go_roundw
     case rel =>
      refine⟨k+1,by go_num,by omega,fun j hj h0=>?_,trivial⟩;by_cases e:j=k
      ·subst e
       rw[<-HSE.o];omega
      ·exact HA.o j hj (by omega)
     case measure=>simp[intOf];omega
   ·have HR:Hid (right l=true):=by
     unfold Hid;exact(right_yes l).2 ⟨by have:=HLN.o;omega,fun j hj=>HA.o j hj (by have:=HLN.o;omega)⟩
    (go_wp2_with fail);go_ret;exact⟨ret_bool HR.o.symm,rfl⟩
theorem right_spec (a:Option Addr) (cap:Nat) (l:List ByteArray) (w:World) (B:Nat) (h:Strs w B a l) (hn:l.length<=1048576) :
  Calls prog 55 #[.slice a l.length cap] w fun e w'=>e=.returned (.bool (right l))/\w'=w:=by
 have HS:=hideT h;clear h;obtain⟨n,hln⟩:∃ n,n=l.length:=⟨_,rfl⟩;have HLN:=hideT hln;rw[<-hln]at hn ⊢;clear hln;go_enter func55,ntmps55
 go_wp2_with fail
 go_loopw [3] (fun i wr=>∃ k:Nat,i=.int .i64 k/\k<=n/\(∀ j (hj:j<l.length),j<k->l[j].size<=100)/\wr=w) (fun i _=>n-(intOf i).toNat)
 case atStart=>exact⟨0,rfl,by omega,fun j hj h0=>by omega,rfl⟩
 case round =>
  obtain⟨k,rfl,hk,hall,hw⟩:=hrel;subst hw;have HA:=hideT hall;clear hall;by_cases hlt:k<n
  ·have hkl:k<l.length:=by rw[<-HLN.o];exact hlt
   obtain⟨b,off,rfl,hb,hc⟩:=HS.o.some (by omega);have ci:=hc k hkl;have HBad:=hideT (right_bad l k hkl);obtain⟨s,hs⟩:∃ s,s=l[k]:=⟨_,rfl⟩;have HSE:=hideT hs;rw[<-hs]at ci;clear hc hs;by_cases h100:100<s.size
   ·go_wp2_with fail
    go_ret;exact⟨ret_bool (HBad.o (by rw[<-HSE.o];exact h100)).symm,rfl⟩
   ·go_wp2_with fail
    go_roundw
    case rel =>
     refine⟨k+1,by go_num,by omega,fun j hj h0=>?_,trivial⟩;by_cases e:j=k
     ·subst e
      rw[<-HSE.o];omega
     ·exact HA.o j hj (by omega)
    case measure=>simp[intOf];omega
  ·have HR:Hid (right l=decide ((n:Int)<=64)):=by
    unfold Hid;by_cases h64:n<=64
    ·rw[(right_yes l).2 ⟨by have:=HLN.o;omega,fun j hj=>HA.o j hj (by have:=HLN.o;omega)⟩]
     simp;omega
    ·rw[right_long l (by have:=HLN.o;omega)]
     simp;omega
   go_wp2_with fail
   go_ret;exact⟨ret_bool HR.o.symm,rfl⟩
end Tr
namespace Dr
open Sh (made_row strF strF_size)
theorem aft_alloc6 {B:Nat} {w W:World} (h:Aft B w W) (o:Obj):Aft B w (W.alloc o):=h.trans (aft_below ((Below.refl _ _).alloc nl o))
theorem aft_drew6 {B:Nat} {w W:World} (h:Aft B w W):Aft B w W.drew:=h.trans (aft_below (Below.refl _ _).drew)
theorem v4_le (j:Nat):0<=v4 0 1 48 49 j/\v4 0 1 48 49 j<=49:=by
 unfold v4
 split<;>(try split)<;>(try split)<;>omega
theorem file6_any (B:Nat) (a:Option Addr) (len cap:Nat) (w:World) (hl:len<=1048576) (hs:Src w B a len cap) :
  Calls prog 27 #[.pointer (some ⟨B,0,none⟩)] w fun e w'=>∃ (t:ByteArray) (z:Int),t.size<=1002/\0<=z/\z<=49/\e=.returned (.tuple #[.string t,.int .i64 z])/\Src w' B a len cap/\Aft B w w':=by
 obtain⟨i0,hi0,hz0,hz1,hz2⟩:=info_parts Tryz.infoD5;have HS:=hideD hs;clear hs;go_enter func27,ntmps27
 go_wp2_with fail
 refine(n_any B a len cap 6 _ hl (by omega) HS.o).mono ?_;rintro e w1 ⟨r,rfl,p0,p1,hs1,ho1⟩;obtain⟨k0,rfl⟩:=Int.eq_ofNat_of_zero_le p0
 have hk0:k0<=5:=by omega
 have HS1:=hideD hs1;have HA1:=hideD ho1.aft;clear hs1 ho1 p0 p1 HS
 go_wp2_with fail
 go_loopw [5,4] (fun kv tv wr=>∃ (k:Nat) (t:ByteArray),kv=.int .i64 k/\tv=.string t/\k<=5/\t.size+32*k<=160/\Src wr B a len cap/\Aft B w wr) (fun kv _ _=>(intOf kv).toNat)
 case atStart=>exact⟨k0,⟨#[]⟩,rfl,rfl,hk0,by show 0+32*k0<=160;omega,HS1.o,HA1.o⟩
 case round =>
  obtain⟨k,t,rfl,rfl,hk,ht,hs2,ha2⟩:=hrel;have HS2:=hideD hs2;have HA2:=hideD ha2;clear hs2 ha2 HS1 HA1;by_cases h0:0<k
  ·have h0i:0<(k:Int):=by omega
   go_wp2_with fail
   refine(text5_any B a len cap _ hl HS2.o).mono ?_;rintro e w3 ⟨s,hs,rfl,hs3,ha3⟩;have HS3:=hideD hs3;have HA3:=hideD (HA2.o.trans ha3)
   have n1:¬9223372036854775807<t.size+s.size:=by omega
   have hts:(t++s).size=t.size+s.size:=ByteArray.size_append;have HTS:=hideD hts;clear hs3 ha3 hts
   go_wp2_with fail
   go_roundw
   case rel=>exact⟨k-1,t++s,by go_num,rfl,by omega,by rw[HTS.o];omega,HS3.o,HA3.o⟩
   case measure=>simp[intOf];omega
  ·obtain rfl:k=0:=by omega
   have ht2:t.size<=1002:=by omega
   clear ht
   go_wp2_with fail
   refine(one_any B a len cap 20 _ hl (by omega) HS2.o).mono ?_;rintro e w3 ⟨r3,rfl,hs3,ho3⟩;have HS3:=hideD hs3;have HA3:=hideD (HA2.o.trans ho3.aft);clear hs3 ho3 HS2 HA2
   cases r3 with
   |true =>
    (go_wp2_with fail);refine(n_any B a len cap 3 _ hl (by omega) HS3.o).mono ?_;rintro e w4 ⟨r2,rfl,p0,p1,hs4,ho4⟩;obtain⟨m,rfl⟩:=Int.eq_ofNat_of_zero_le p0;obtain⟨n,hn⟩:∃ n:Nat,n=999+m:=⟨_,rfl⟩;have en:999+(m:Int)=(n:Int):=(by omega);have hn50:n<=1002:=(by omega);have HS4:=hideD hs4;have HA4:=hideD (HA3.o.trans ho4.aft);clear hs4 ho4 p0 p1 hn HS3 HA3
    go_wp2_with (at_make;refine wpList_make_full _ rfl (.tmp 20) (.tmp 20) 22 rfl w4.heap.size 5 i0 (.int .u8 0) 1 underlying22 hi0 hz0 hz1 .i64 .i64 _ _ n rfl rfl (by simp) (by simp) (by rw[hz2];omega) (by unfold maxLen;omega) nl ?_;intro w5 hown3 hgrow3;have hT3:=made_row hown3;have hb3:=(Below.refl w4.heap.size w4).grown hgrow3 nl (by simp);have hcv:=hT3.str (f:=fun _=>0) (P:=prog) (src:=22) (dst:=9) n n nl (fun j _=>by decide) underlying22 underlying5 underlying9;have HS5:=hideD (HS4.o.below hb3);have HA5:=hideD (HA4.o.trans (aft_below hb3));clear hown3 hgrow3 hT3 hb3)
    refine(one_any B a len cap 12 _ hl (by omega) HS5.o).mono ?_;rintro e w6 ⟨r6,rfl,hs6,ho6⟩;have HS6:=hideD hs6;have HA6:=hideD (HA5.o.trans ho6.aft);have hBl:=hs6.lt;have hBn:¬w6.heap.size=B:=(by omega);have hBm:¬B=w6.heap.size:=(by omega);clear hs6 ho6
    cases r6 with
    |true =>
     (go_wp2_with fail)
     go_region_with (first|(go_at_call 34;(with_reducible refine(n_any B a len cap 4 _ hl (by omega) ?_).mono ?_);(· repeat (first|exact HS6.o|refine src_alloc ?_ _|refine src_drew ?_));rintro e w7 ⟨r7,rfl,q0,q1,hs7,ho7⟩;obtain⟨j7,rfl⟩:=Int.eq_ofNat_of_zero_le q0;have hj7:j7<4:=(by omega);have hi7:(j7:Int)<4:=(by omega);have C7:=hideD hs7;have k7:=only_cell ho7;have z7:=ho7.2.2.2.1;have L7:=hideD ((show Aft B w _ from (by repeat (first|exact HA6.o|refine aft_alloc6 ?_ _|refine aft_drew6 ?_))).trans ho7.aft);clear hs7 ho7))
     all_goals (try go_wp2_with fail)
     all_goals (try simp only[pick4])
     all_goals go_ret2
     all_goals (have hv:=v4_le j7;exact⟨_,_,(by rw[strF_size];exact hn50),hv.1,hv.2,rfl,by repeat (first|exact C7.o|refine src_alloc ?_ _|refine src_drew ?_),by repeat (first|exact L7.o|refine aft_alloc6 ?_ _|refine aft_drew6 ?_)⟩)
    |false =>
     (go_wp2_with fail);refine(n_any B a len cap 24 _ hl (by omega) HS6.o).mono ?_;rintro e w7 ⟨r7,rfl,q0,q1,hs7,ho7⟩;have HS7:=hideD hs7;have HA7:=hideD (HA6.o.trans ho7.aft);have hwr:IntKind.i64.wrap (8+r7)=8+r7:=(by rw[IntKind.wrap_i64];omega);clear hs7 ho7;(go_wp2_with fail);go_ret2;exact⟨_,8+r7,(by rw[strF_size];exact hn50),by omega,by omega,rfl,HS7.o,HA7.o⟩
   |false =>
    (go_wp2_with fail);refine(one_any B a len cap 12 _ hl (by omega) HS3.o).mono ?_;rintro e w6 ⟨r6,rfl,hs6,ho6⟩;have HS6:=hideD hs6;have HA6:=hideD (HA3.o.trans ho6.aft);have hBl:=hs6.lt;have hBn:¬w6.heap.size=B:=(by omega);have hBm:¬B=w6.heap.size:=(by omega);clear hs6 ho6
    cases r6 with
    |true =>
     (go_wp2_with fail)
     go_region_with (first|(go_at_call 34;(with_reducible refine(n_any B a len cap 4 _ hl (by omega) ?_).mono ?_);(· repeat (first|exact HS6.o|refine src_alloc ?_ _|refine src_drew ?_));rintro e w7 ⟨r7,rfl,q0,q1,hs7,ho7⟩;obtain⟨j7,rfl⟩:=Int.eq_ofNat_of_zero_le q0;have hj7:j7<4:=(by omega);have hi7:(j7:Int)<4:=(by omega);have C7:=hideD hs7;have k7:=only_cell ho7;have z7:=ho7.2.2.2.1;have L7:=hideD ((show Aft B w _ from (by repeat (first|exact HA6.o|refine aft_alloc6 ?_ _|refine aft_drew6 ?_))).trans ho7.aft);clear hs7 ho7))
     all_goals (try go_wp2_with fail)
     all_goals (try simp only[pick4])
     all_goals go_ret2
     all_goals (have hv:=v4_le j7;exact⟨t,_,ht2,hv.1,hv.2,rfl,by repeat (first|exact C7.o|refine src_alloc ?_ _|refine src_drew ?_),by repeat (first|exact L7.o|refine aft_alloc6 ?_ _|refine aft_drew6 ?_)⟩)
    |false =>
     (go_wp2_with fail);refine(n_any B a len cap 24 _ hl (by omega) HS6.o).mono ?_;rintro e w7 ⟨r7,rfl,q0,q1,hs7,ho7⟩;have HS7:=hideD hs7;have HA7:=hideD (HA6.o.trans ho7.aft);have hwr:IntKind.i64.wrap (8+r7)=8+r7:=(by rw[IntKind.wrap_i64];omega);clear hs7 ho7;(go_wp2_with fail);go_ret2;exact⟨t,8+r7,ht2,by omega,by omega,rfl,HS7.o,HA7.o⟩
end Dr
end Go.Proofs.YtaejgfdkfcmjeaaGreatDoor
