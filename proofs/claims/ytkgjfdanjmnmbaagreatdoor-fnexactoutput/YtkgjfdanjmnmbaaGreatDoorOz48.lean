/- Texts put together: UnStep, UnOpen, UnSpec, UnImpl, UnShortP, UnShortQ, UnShort. -/
import Derived.Test.YtkgjfdanjmnmbaaGreatDoorOz38
import Derived.Test.YtkgjfdanjmnmbaaGreatDoorOz34
import Derived.Test.YtkgjfdanjmnmbaaGreatDoorOz40
import Derived.Test.YtkgjfdanjmnmbaaGreatDoorOz39
import Derived.Test.YtkgjfdanjmnmbaaGreatDoorOz42
import Derived.Test.YtkgjfdanjmnmbaaGreatDoorOz41
import Derived.Test.YtkgjfdanjmnmbaaGreatDoorOz47
import Derived.Test.YtkgjfdanjmnmbaaGreatDoorOz24
import Derived.Deep.RegionHeld3
import Derived.BigQuiet
set_option maxRecDepth 100000
set_option maxHeartbeats 8000000
/- What the specification's l06Open hands back: of a block's short form the block. -/
namespace Go.Proofs.YtkgjfdanjmnmbaaGreatDoor.Up
open Pk
open Go.RowKit
open Gn (rd)
open Hf (up up_length up_set)
open Bi (above openR getR open_spec)
open Go.Proofs.YtkgjfdanjmnmbaaGreatDoor.So (bwtA unR unR_case unbwt_spec tOut)
open Fr (fbackR frontBack_spec)
open Ze (backR zerosBack_spec backR_len)
open In (Ints IsI made_ints)
open Dr (Aft)
def Rd (t:ByteArray) (k:Nat) (at_:Int) (bad:Bool):Prop:=(0<=at_/\at_<=t.size)/\∀ b,Good t b->bad=false/\at_=(posK b k:Int)
theorem rd_end (t:ByteArray) (a:Int):(rd t a).2.1<=t.size:=by
 unfold rd
 split
 ·exact Nat.zero_le _
 ·split
  ·exact Nat.zero_le _
  ·exact Gn.run_place t _ _ _ _
theorem rd_step {t:ByteArray} {k:Nat} {at_ most:Int} {bad:Bool} (h:Rd t k at_ bad) (hk:∀ b,Good t b->∃ v,(numsAll b)[k]? = some v/\v<=most) :
  (okN t at_ bad most->Rd t (k+1) ((rd t at_).2.1:Int) false/\∀ b,Good t b->(numsAll b)[k]? = some (rd t at_).1)/\(¬okN t at_ bad most->∀ b,¬Good t b):=by
 have key:∀ b,Good t b->∃ v,(numsAll b)[k]? = some v/\0<=v/\v<=most/\bad=false/\rd t at_=(v,posK b (k+1),0):=by
  intro b hb
  obtain⟨v,h1,h2⟩:=hk b hb
  obtain⟨hl,hv⟩:=List.getElem?_eq_some_iff.1 h1
  obtain⟨h3,h4⟩:=h.2 b hb
  have:=rd_good hb k hl
  rw[<-h4,hv]at this
  exact⟨v,h1,by rw[<-hv];exact(numsAll_mem hb.1 _ (List.getElem_mem hl)).1,h2,h3,this⟩
 refine⟨fun _=>⟨⟨⟨by omega,by have:=rd_end t at_;omega⟩,fun b hb=>?_⟩,fun b hb=>?_⟩,fun hn b hb=>?_⟩
 ·obtain⟨v,_,_,_,_,e⟩:=key b hb
  rw[e]
  exact⟨rfl,rfl⟩
 ·obtain⟨v,h1,_,_,_,e⟩:=key b hb
  rw[e]
  exact h1
 ·obtain⟨v,_,h2,h3,h4,e⟩:=key b hb
  exact hn ⟨h4,by rw[e],by rw[e];exact h2,by rw[e];exact h3⟩
theorem num_step (B:Nat) (t:ByteArray) (k:Nat) (at_ most:Int) (bad:Bool) (w:World) (ht:t.size<=1048576) (hm:0<=most) (hb:Rdr w B t at_ bad) (h:Rd t k at_ bad) (hk:∀ b,Good t b->∃ v,(numsAll b)[k]? = some v/\v<=most) :
  Calls Tryz.prog 75 #[.pointer (some ⟨B,0,none⟩),.int .i64 most] w fun e w'=>∃ n at' bad',e=.returned (.int .i64 n)/\Rdr w' B t at' bad'/\Rd t (k+1) at' bad'/\0<=n/\n<=most/\(∀ b,Good t b->(numsAll b)[k]? = some n)/\Aft B w w':=by
 obtain⟨h1,h2⟩:=rd_step h hk
 refine(num_any B t at_ most bad w ht hb).mono ?_
 rintro e w' ⟨h3|h3,ha⟩
 ·obtain⟨ho,he,hr⟩:=h3
  exact⟨_,_,_,he,hr,(h1 ho).1,ho.2.2.1,ho.2.2.2,(h1 ho).2,ha⟩
 ·obtain⟨ho,he,hr⟩:=h3
  exact⟨_,_,_,he,hr,⟨h.1,fun b hb=>absurd hb (h2 ho b)⟩,Int.le_refl _,hm,fun b hb=>absurd hb (h2 ho b),ha⟩
theorem rd_first {t:ByteArray} (h:1<=t.size):Rd t 0 1 false:=⟨⟨by decide,by omega⟩,fun b _=>⟨rfl,by unfold posK;simp[numsL]⟩⟩
theorem head_ok {t:ByteArray}:(∀ b,Good t b->∃ v,(numsAll b)[0]? = some v/\v<=48)/\(∀ b,Good t b->∃ v,(numsAll b)[1]? = some v/\v<=48)/\(∀ b,Good t b->∃ v,(numsAll b)[2]? = some v/\v<=400)/\(∀ b,Good t b->∃ v,(numsAll b)[3]? = some v/\v<=257):=by
 refine⟨fun b hb=>⟨_,(numsAll_head b).1,?_⟩,fun b hb=>⟨_,(numsAll_head b).2.1,?_⟩,fun b hb=>⟨_,(numsAll_head b).2.2.1,?_⟩,fun b hb=>⟨_,(numsAll_head b).2.2.2,?_⟩⟩
 ·have:=hb.1;omega
 ·have:=hb.1;have:=bwtA_le hb.1;omega
 ·have:=symS_len b;omega
 ·have:=above_le b;omega
theorem aft_isI {B g:Nat} {T:TypeId} {w w':World} {l:List Int} (h:IsI w g T l) (ha:Aft B w w') (hn:g≠B):IsI w' g T l:=(ha.block g h.lt hn).trans h
theorem zeros_up:up (tabL [] (Hf.zeros 257) [])=List.replicate 257 0:=by
 show up (Hf.zeros 257)=_
 unfold up Hf.zeros
 rw[List.map_replicate]
 rfl
theorem syL_len (b:ByteArray):(syL (lenS b) 257).length=above (up (lenS b)):=by
 rw[above_eq,(lenS_facts b).1]
end Go.Proofs.YtkgjfdanjmnmbaaGreatDoor.Up


namespace Go.Proofs.YtkgjfdanjmnmbaaGreatDoor.Up
open Pk
open Go.RowKit
open Hf (up up_length up_set)
open Bi (above openR getR open_spec)
open Go.Proofs.YtkgjfdanjmnmbaaGreatDoor.So (bwtA unR unR_case unbwt_spec tOut)
open Fr (fbackR frontBack_spec)
open Ze (backR zerosBack_spec backR_len)
open In (Ints IsI made_ints)
open Dr (Aft)
theorem pair_ok {t:ByteArray} {j q:Nat} (h:∀ b,Good t b->j+(q+1)=above (up (lenS b))):(∀ b,Good t b->∃ v,(numsAll b)[4+2*j]? = some v/\v<=256)/\(∀ b,Good t b->∃ v,(numsAll b)[4+2*j+1]? = some v/\v<=12):=by
 refine⟨fun b hb=>?_,fun b hb=>?_⟩
 ·have hj:j<(syL (lenS b) 257).length:=by rw[syL_len];have:=h b hb;omega
  refine⟨_,(numsAll_pair b j hj).1,?_⟩
  have:=syL_lt _ (List.getElem_mem hj)
  omega
 ·have hj:j<(syL (lenS b) 257).length:=by rw[syL_len];have:=h b hb;omega
  refine⟨_,(numsAll_pair b j hj).2,?_⟩
  have:=(lenS_facts b).2.1 (syL (lenS b) 257)[j]
  omega
theorem row_next {t:ByteArray} {j q y:Nat} {z:Int} {l:List Int} (h:∀ b,Good t b->j+(q+1)=above (up (lenS b))/\l=up (tabL (lenS b) (Hf.zeros 257) ((syL (lenS b) 257).take j)))
  (h1:∀ b,Good t b->(numsAll b)[4+2*j]? = some (y:Int)) (h2:∀ b,Good t b->(numsAll b)[4+2*j+1]? = some z) :
  ∀ b,Good t b->(j+1)+q=above (up (lenS b))/\l.set y z=up (tabL (lenS b) (Hf.zeros 257) ((syL (lenS b) 257).take (j+1))):=by
 intro b hb
 obtain⟨h3,h4⟩:=h b hb
 have hj:j<(syL (lenS b) 257).length:=by rw[syL_len];omega
 obtain⟨k1,k2⟩:=numsAll_pair b j hj
 rw[h1 b hb]at k1
 rw[h2 b hb]at k2
 have e1:y=(syL (lenS b) 257)[j]:=by have:=Option.some.inj k1;omega
 have e2:=Option.some.inj k2
 refine⟨by omega,?_⟩
 rw[tabL_next _ _ _ _ hj,h4,e2,e1,<-up_set]
theorem rdr_other {w:World} {B G k:Nat} {t:ByteArray} {a:Int} {bad:Bool} {v:Value} (h:Rdr w B t a bad) (hn:B<G):Rdr (w.setCell ⟨G,k,none⟩ v) B t a bad:=by
 unfold Rdr
 rw[Below.heap_setCell w ⟨G,k,none⟩ v B (by show B≠G;omega)]
 exact h
theorem low2 {B:Nat} {w0 w w':World} (hB:w0.heap.size=B) (h:Below B w0 w) (hb:Below w.heap.size w w'):Below B w0 w':=h.trans (hb.mono (by rw[<-hB];exact h.size))
theorem ext_size (t:ByteArray) (p:Nat):(t.extract p t.size).size<=t.size:=by
 rw[ByteArray.size_extract]
 omega
theorem fieldX (yb:ByteArray) (yc:Int) (u:World):(Instr.field 67 (.agg #[.string yb,.int .i64 0,.int .i64 yc]) 0).run Tryz.prog u=.ok (.string yb) u:=by kernel_rfl
theorem all_read {t:ByteArray} {j p:Nat} {n2 n3:Int} {l:List Int} (h:∀ b,Good t b->j+0=above (up (lenS b))/\l=up (tabL (lenS b) (Hf.zeros 257) ((syL (lenS b) 257).take j)))
  (hr:Rd t (4+2*j) (p:Int) false) (h2:∀ b,Good t b->(numsAll b)[1]? = some n2) (h3:∀ b,Good t b->(numsAll b)[2]? = some n3) :
  ∀ b,Good t b->l=up (lenS b)/\n2=((bwtA b:Nat):Int)/\n3=((symS b).length:Int)/\t.extract p t.size=bitsS b:=by
 intro b hb
 obtain⟨h4,h5⟩:=h b hb
 have hp:=(hr.2 b hb).2
 refine⟨?_,?_,?_,?_⟩
 ·rw[h5,List.take_of_length_le (by rw[syL_len];omega),tabL_all _ (lenS_facts b).1]
 ·have:=h2 b hb
  rw[(numsAll_head b).2.1]at this
  exact(Option.some.inj this).symm
 ·have:=h3 b hb
  rw[(numsAll_head b).2.2.1]at this
  exact(Option.some.inj this).symm
 ·have e:p=posK b (numsAll b).length:=by
   rw[numsAll_len,<-h4,show 4+2*(j+0)=4+2*j by omega]
   omega
  rw[e]
  exact(posK_all hb).2
theorem openS_any (t:ByteArray) (w:World) (h1:1<=t.size) (ht:t.size<=8000) :
  Calls Tryz.prog 56 #[.string t] w fun e w'=>(∃ r,e=.returned (.string r)/\r.size<=400/\∀ b,Good t b->r=b)/\Below w.heap.size w w':=by
 obtain⟨i0,hi,hz0,hz1,hz2⟩:=info_parts In.Tryz.infoI2
 have HT1:=hideP h1
 go_enter Tryz.func56,Tryz.ntmps56
 go_wp2_with fail
 have R0:Hid (Rdr (w.alloc (.cells #[.string t,.int .i64 1,.bool false] 119)) w.heap.size t 1 false):=heap_alloc_new w _
 have L0:Hid (Below w.heap.size w (w.alloc (.cells #[.string t,.int .i64 1,.bool false] 119))):=(Below.refl _ _).alloc (Nat.le_refl _) _
 generalize hww:w.alloc (.cells #[.string t,.int .i64 1,.bool false] 119)=w0 at R0 L0 ⊢
 clear hww
 generalize hBe:w.heap.size=B at R0 L0 ⊢
 have HBE:=hideP hBe
 clear hBe
 refine(num_step B t 0 1 48 false w0 (by omega) (by decide) R0.out (rd_first HT1.out) head_ok.1).mono ?_
 rintro e w1 ⟨n1,p1,b1,rfl,hr,hd,hn1,hn2,hn3,ha⟩
 have R1:=hideP hr
 have D1:=hideP hd
 have F1:=hideP hn3
 have L1:=hideP (Aft.below L0.out ha (Nat.le_refl _) (Nat.le_of_lt (rdr_lt R0.out)))
 clear hr hd hn1 hn2 hn3 ha R0 L0 F1
 go_wp2_with fail
 refine(num_step B t 1 p1 48 b1 w1 (by omega) (by decide) R1.out D1.out head_ok.2.1).mono ?_
 rintro e w2 ⟨n2,p2,b2,rfl,hr,hd,hn1,hn2,hn3,ha⟩
 have R2:=hideP hr
 have D2:=hideP hd
 have F2:=hideP hn3
 have L2:=hideP (Aft.below L1.out ha (Nat.le_refl _) (Nat.le_of_lt (rdr_lt R1.out)))
 clear hr hd hn1 hn2 hn3 ha R1 D1 L1
 go_wp2_with fail
 refine(num_step B t 2 p2 400 b2 w2 (by omega) (by decide) R2.out D2.out head_ok.2.2.1).mono ?_
 rintro e w3 ⟨n3,p3,b3,rfl,hr,hd,hn1,hn2,hn3,ha⟩
 have R3:=hideP hr
 have D3:=hideP hd
 have F3:=hideP hn3
 have L3:=hideP (Aft.below L2.out ha (Nat.le_refl _) (Nat.le_of_lt (rdr_lt R2.out)))
 clear hr hd hn1 hn2 hn3 ha R2 D2 L2
 go_wp2_with (at_make;refine wpList_make_full _ rfl (.const (.int .i64 257)) (.const (.int .i64 257)) 114 rfl w3.heap.size 2 i0 (.int .i64 0) 1 Tryz.underlying114 hi hz0 hz1 .i64 .i64 _ _ 257 rfl rfl (by omega) (by omega) (by rw[hz2];omega) (by unfold maxLen;omega) (Nat.le_refl _) ?_;intro wm hown hgrow;have I0:=hideP (made_ints hown);have HBm:=hideP ((Below.refl w3.heap.size w3).grown hgrow (Nat.le_refl _) (by simp));clear hown hgrow)
 have Rm:=hideP (show Rdr wm B t p3 b3 from blk_low R3.out HBm.out)
 have Lm:=hideP (L3.out.trans (HBm.out.mono (Nat.le_of_lt (rdr_lt R3.out))))
 have hBG:=rdr_lt R3.out
 clear HBm L3 R3
 generalize w3.heap.size=G at I0 hBG ⊢
 refine(num_step B t 3 p3 257 b3 wm (by omega) (by decide) Rm.out D3.out head_ok.2.2.2).mono ?_
 rintro e w5 ⟨n4,p4,b4,rfl,hr,hd,hn1,hn2,hn3,ha⟩
 have R4:=hideP hr
 have D4:=hideP hd
 have F4:=hideP hn3
 have L4:=hideP (Aft.below Lm.out ha (Nat.le_refl _) (Nat.le_of_lt (rdr_lt Rm.out)))
 have I5:=hideP (aft_isI I0.out ha (by omega))
 obtain⟨kq,rfl⟩:=Int.eq_ofNat_of_zero_le hn1
 have hkq:kq<=257:=by omega
 have HK:Hid (∀ b,Good t b->0+kq=above (up (lenS b))/\List.replicate 257 (0:Int)=up (tabL (lenS b) (Hf.zeros 257) ((syL (lenS b) 257).take 0))):=fun b hb=>by
  have:=hn3 b hb
  rw[(numsAll_head b).2.2.2]at this
  have e:=Option.some.inj this
  refine⟨by omega,?_⟩
  rw[List.take_zero]
  exact zeros_up.symm
 clear hr hd hn1 hn2 hn3 ha Rm D3 Lm F4 I0
 go_wp2_with fail
 go_loopw [7,8] (fun kv _ wr=>∃ (kk j:Nat) (p:Int) (bd:Bool) (l:List Int),kv=.int .i64 kk/\kk<=257/\Rdr wr B t p bd/\Rd t (4+2*j) p bd/\IsI wr G 2 l/\l.length=257/\(∀ b,Good t b->j+kk=above (up (lenS b))/\l=up (tabL (lenS b) (Hf.zeros 257) ((syL (lenS b) 257).take j)))/\Below B w wr) (fun kv _ _=>(intOf kv).toNat)
 case atStart=>exact⟨kq,0,p4,b4,_,rfl,hkq,R4.out,D4.out,I5.out,List.length_replicate ..,HK.out,L4.out⟩
 case round =>
  obtain⟨kk,j,p,bd,l,rfl,hkk,hr,hd,hil,hll,hg,hlw⟩:=hrel
  have RW:=hideP hr
  have DW:=hideP hd
  have IW:=hideP hil
  have HG:=hideP hg
  have LW:=hideP hlw
  have HLL:=hideP hll
  have cB2:wr.cell? ⟨B,2,none⟩=some (.bool bd):=cell_of_row wr B 2 _ _ _ hr
  have cB1:wr.cell? ⟨B,1,none⟩=some (.int .i64 p):=cell_of_row wr B 1 _ _ _ hr
  clear hr hd hil hg hlw hll R4 D4 I5 HK L4
  cases bd with
  |true =>
   have HNO:Hid (∀ b,¬Good t b):=fun b hb=>absurd (DW.out.2 b hb).1 (by decide)
   by_cases hk0:kk=0
   ·subst hk0
    go_wp2_with fail
    go_ret
    exact⟨⟨_,rfl,by decide,fun b hb=>absurd hb (HNO.out b)⟩,by rw[HBE.out];exact LW.out⟩
   ·have hk1:(0:Int)<(kk:Int):=by omega
    go_wp2_with fail
    go_ret
    exact⟨⟨_,rfl,by decide,fun b hb=>absurd hb (HNO.out b)⟩,by rw[HBE.out];exact LW.out⟩
  |false =>
   by_cases hk0:kk=0
   ·subst hk0
    have hp1:=DW.out.1.1
    have hp2:=DW.out.1.2
    obtain⟨pn,rfl⟩:=Int.eq_ofNat_of_zero_le hp1
    have HALL:=hideP (all_read HG.out DW.out F2.out F3.out)
    have HIN:=hideP (IW.out.ints (B:=wr.heap.size) IW.out.lt)
    have hpn:pn<=t.size:=by omega
    clear HG DW IW RW F2 F3
    go_wp2_with fail
    refine(open_spec (t.extract pn t.size) _ wr (by have:=ext_size t pn;omega)).mono ?_
    rintro e w8 ⟨rfl,hb8⟩
    have I8:=hideP (ints_keep HIN.out hb8)
    have L8:=hideP (low2 HBE.out LW.out hb8)
    clear hb8 HIN LW cB1 cB2
    obtain⟨xr,hxr⟩:∃ x,x=t.extract pn t.size:=⟨_,rfl⟩
    have hxs:xr.size<=8000:=by rw[hxr];have:=ext_size t pn;omega
    have hxz:t.size-pn=xr.size:=by rw[hxr,ByteArray.size_extract];omega
    rw[<-hxr]at HALL ⊢
    rw[hxz]
    clear hxr hxz
    obtain⟨bits,hbits⟩:∃ x,x=openR xr (8*(xr.size:Int)):=⟨_,rfl⟩
    have hsz:bits.size<=64000:=by rw[hbits];exact openR_size xr _ hxs
    have HGS:=hideP (fun (W:World) (h:Ints W W.heap.size (some ⟨G,0,none⟩) l)=>Bi.get_spec l bits n3 (some ⟨G,0,none⟩) 257 W h (by have:=HLL.out;omega) (by omega))
    obtain⟨xl,xa,xc,hx⟩:∃ x y z,getR l bits n3=(x,y,z):=⟨_,_,_,rfl⟩
    have HSY:Hid (∀ b,Good t b->xl=symS b/\n2=((bwtA b:Nat):Int)):=fun b hb=>by
     obtain⟨g1,g2,g3,g4⟩:=HALL.out b hb
     have:=bits_back hb
     rw[<-g1,<-g3,<-g4,<-hbits,hx]at this
     exact⟨congrArg Prod.fst this,g2⟩
    have ey:xl.length<=400:=by
     have:=Bi.getR_length l bits n3
     rw[hx]at this
     exact this
    rw[hx,HLL.out]at HGS
    rw[<-hbits]
    clear hbits hx HALL
    go_wp2_with fail
    refine(HGS.out w8 I8.out).mono ?_
    rintro e w9 ⟨v9,rfl,ho9,hb9⟩
    have L9:=hideP (low2 HBE.out L8.out hb9)
    clear hb9 I8 L8 HGS
    obtain⟨ay,cy,hv,hi9⟩:=In.OwnIn.ints ho9
    obtain⟨ny,hny⟩:∃ x,x=xl.length:=⟨_,rfl⟩
    rw[<-hny]at hv ey
    subst hv
    have NY:=hideP hny
    have I9:=hideP hi9
    clear hny hi9 ho9
    go_wp2_with fail
    have hb10:Below w9.heap.size w9 (w9.alloc (.cells #[.slice ay ny cy,.int .i64 xa,.int .i64 xc] 122)):=(Below.refl _ _).alloc (Nat.le_refl _) _
    generalize hww:w9.alloc (.cells #[.slice ay ny cy,.int .i64 xa,.int .i64 xc] 122)=w10 at hb10 ⊢
    clear hww
    have I10:=hideP (ints_keep I9.out hb10)
    have L10:=hideP (low2 HBE.out L9.out hb10)
    clear hb10 I9 L9
    have HZI:=hideP (fun (W:World) (h:Ints W W.heap.size ay xl)=>zerosBack_spec xl ay cy W.heap.size W h (Nat.le_refl _) (by have:=NY.out;omega))
    rw[<-NY.out]at HZI
    refine(HZI.out w10 I10.out).mono ?_
    rintro e w11 ⟨v11,rfl,ho11,hb11⟩
    have L11:=hideP (low2 HBE.out L10.out hb11)
    clear hb11 I10 L10 HZI
    obtain⟨az,cz,hv,_,hi11⟩:=ho11.ints
    obtain⟨nz,hnz⟩:∃ x,x=(backR xl).length:=⟨_,rfl⟩
    rw[<-hnz]at hv
    subst hv
    have NZ:=hideP hnz
    have I11:=hideP hi11
    clear hnz hi11 ho11
    have ez:nz<=400:=by rw[NZ.out];exact backR_len _
    have HFI:=hideP (fun (W:World) (h:Ints W W.heap.size az (backR xl))=>frontBack_spec (backR xl) az cz W.heap.size W h (Nat.le_refl _) (by have:=NZ.out;omega))
    rw[<-NZ.out]at HFI
    go_wp2_with fail
    refine(HFI.out w11 I11.out).mono ?_
    rintro e w12 ⟨rfl,hb12⟩
    have L12:=hideP (low2 HBE.out L11.out hb12)
    clear hb12 I11 L11 HFI
    have hfs:(fbackR (backR xl)).length<=400:=fback_len _
    obtain⟨tx,htx⟩:∃ x:ByteArray,x=⟨(fbackR (backR xl)).toArray⟩:=⟨_,rfl⟩
    have hts:tx.size<=400:=by rw[htx,size_list];exact hfs
    rw[<-htx]
    have HTX:=hideP htx
    clear htx hfs
    go_wp2_with fail
    refine(unbwt_spec tx n2 w12 (by omega)).mono ?_
    rintro e w13 ⟨rfl,hb13⟩
    have L13:=hideP (low2 HBE.out L12.out hb13)
    clear hb13 L12
    obtain⟨yb,yc,hy⟩:=unR_case tx n2
    have HEND:Hid (∀ b,Good t b->yb=b):=fun b hb=>by
     obtain⟨g1,g2⟩:=HSY.out b hb
     have h3:=block_back hb.1
     rw[<-g1,<-HTX.out,<-g2,hy]at h3
     unfold tOut at h3
     simp at h3
     exact h3.1
    have HYS:Hid (yb.size<=400):=unR_size (by omega) hy
    rw[hy]
    clear hy
    have hfld:=fieldX yb yc
    go_wp2
    go_ret
    exact⟨⟨_,rfl,HYS.out,HEND.out⟩,by rw[HBE.out];exact L13.out⟩
   ·obtain⟨q,rfl⟩:∃ q,kk=q+1:=⟨kk-1,by omega⟩
    have hk1:(0:Int)<((q+1:Nat):Int):=by omega
    have HOK:=hideP (pair_ok (q:=q) fun b hb=>(HG.out b hb).1)
    go_wp2_with fail
    refine(num_step B t (4+2*j) p 256 false wr (by omega) (by decide) RW.out DW.out HOK.out.1).mono ?_
    rintro e w6 ⟨y,p6,b6,rfl,hr,hd,hn1,hn2,hn3,ha⟩
    have R6:=hideP hr
    have D6:=hideP hd
    have F6:=hideP hn3
    have I6:=hideP (aft_isI IW.out ha (by omega))
    have L6:=hideP (Aft.below LW.out ha (Nat.le_refl _) (Nat.le_of_lt (rdr_lt RW.out)))
    obtain⟨yn,rfl⟩:=Int.eq_ofNat_of_zero_le hn1
    have hyn:yn<257:=by omega
    clear hr hd hn1 hn2 hn3 ha cB1 cB2 RW DW IW LW
    go_wp2_with fail
    refine(num_step B t (4+2*j+1) p6 12 b6 w6 (by omega) (by decide) R6.out D6.out HOK.out.2).mono ?_
    rintro e w7 ⟨z,p7,b7,rfl,hr,hd,hn1,hn2,hn3,ha⟩
    have R7:=hideP hr
    have D7:=hideP hd
    have F7:=hideP hn3
    have I7:=hideP (aft_isI I6.out ha (by omega))
    have L7:=hideP (Aft.below L6.out ha (Nat.le_refl _) (Nat.le_of_lt (rdr_lt R6.out)))
    clear hr hd hn1 hn2 hn3 ha R6 D6 I6 L6
    have HNX:=hideP (row_next HG.out F6.out F7.out)
    have cy:=I7.out.cell (j:=yn) (by have:=HLL.out;omega)
    have fy:=I7.out.frozen yn
    have hyi:(yn:Int)<257:=by omega
    generalize l[yn]'(by have:=HLL.out;omega)=old at cy
    clear HG F6 F7 HOK
    go_wp2_with fail
    go_roundw
    case rel =>
     refine⟨q,j+1,p7,b7,l.set yn z,by go_num,by omega,?_,?_,I7.out.set yn z,by rw[List.length_set];exact HLL.out,HNX.out,L7.out.setCell (p:=⟨G,yn,none⟩) (by show B<=G;omega) _⟩
     ·exact rdr_other R7.out (by omega)
     ·rw[show 4+2*(j+1)=4+2*j+1+1 by omega]
      exact D7.out
    case measure=>simp[intOf]
end Go.Proofs.YtkgjfdanjmnmbaaGreatDoor.Up


namespace Go.Proofs.YtkgjfdanjmnmbaaGreatDoor.Up
open Pk
open Go.RowKit
open Se (sealV unsealV outV unseal_spec)
open Sh (bt)
theorem list_eqP (a b:ByteArray):(a.toList==b.toList)=decide (a=b):=Se.list_eq_iff a b
theorem byte0 {t:ByteArray} (h:0<t.size):(t[0]'h).toNat=bt t 0:=by
 unfold Sh.bt
 simp[h]
 rfl
theorem three {W:World} {g:Nat} {x y z:Value} {t:TypeId} (h:W.heap[g]? = some (.cells #[x,y,z] t (0,0))):W.cell? ⟨g,0,none⟩=some x/\W.cell? ⟨g,1,none⟩=some y/\W.cell? ⟨g,2,none⟩=some z :=
 ⟨cell_of_row W g 0 _ _ _ h,cell_of_row W g 1 _ _ _ h,cell_of_row W g 2 _ _ _ h⟩
theorem set3_cells {W:World} {g:Nat} {x y z:Value} {T:TypeId} (h:W.heap[g]? = some (.cells #[x,y,z] T (0,0))) (a b c:Value) :
  (((W.setCell ⟨g,0,none⟩ a).setCell ⟨g,1,none⟩ b).setCell ⟨g,2,none⟩ c).cell? ⟨g,0,none⟩=some a/\(((W.setCell ⟨g,0,none⟩ a).setCell ⟨g,1,none⟩ b).setCell ⟨g,2,none⟩ c).cell? ⟨g,1,none⟩=some b/\(((W.setCell ⟨g,0,none⟩ a).setCell ⟨g,1,none⟩ b).setCell ⟨g,2,none⟩ c).cell? ⟨g,2,none⟩=some c:=three (set_k3 (set_k3 (set_k3 h a).1 b).2.1 c).2.2
theorem set3_alloc {W:World} {g:Nat} {x y z:Value} {T:TypeId} (h:W.heap[g]? = some (.cells #[x,y,z] T (0,0))) (a b c:Value) (o:Obj) :
  ((((W.setCell ⟨g,0,none⟩ a).setCell ⟨g,1,none⟩ b).setCell ⟨g,2,none⟩ c).alloc o).cell? ⟨g,0,none⟩=some a/\((((W.setCell ⟨g,0,none⟩ a).setCell ⟨g,1,none⟩ b).setCell ⟨g,2,none⟩ c).alloc o).cell? ⟨g,1,none⟩=some b/\((((W.setCell ⟨g,0,none⟩ a).setCell ⟨g,1,none⟩ b).setCell ⟨g,2,none⟩ c).alloc o).cell? ⟨g,2,none⟩=some c :=
 three (blk_low (set_k3 (set_k3 (set_k3 h a).1 b).2.1 c).2.2 ((Below.refl _ _).alloc (Nat.le_refl _) _))
theorem set3_low {B:Nat} {w W:World} (h:Below B w W) (a b c:Value):Below B w (((W.setCell ⟨B,0,none⟩ a).setCell ⟨B,1,none⟩ b).setCell ⟨B,2,none⟩ c):=((h.setCell (p:=⟨B,0,none⟩) (Nat.le_refl _) a).setCell (p:=⟨B,1,none⟩) (Nat.le_refl _) b).setCell (p:=⟨B,2,none⟩) (Nat.le_refl _) c
theorem set3_lowA {B:Nat} {w W:World} (hB:w.heap.size=B) (h:Below B w W) (a b c:Value) (o:Obj):Below B w ((((W.setCell ⟨B,0,none⟩ a).setCell ⟨B,1,none⟩ b).setCell ⟨B,2,none⟩ c).alloc o):=by
 have:=set3_low h a b c
 exact this.alloc (by have:=this.size;omega) o
theorem unpack_spec (s:ByteArray) (w:World) (hs:s.size<=1048576) :
  Calls Tryz.prog 39 #[.string s] w fun e w'=>e=.returned (ansU s)/\Below w.heap.size w w':=by
 obtain⟨g,hg⟩:∃ g,g=w.heap.size:=⟨_,rfl⟩
 have HBE:=hideP hg.symm
 have HR0:Hid ((w.alloc (.cells #[.string ⟨#[]⟩,.int .i64 0,.int .i64 0] 67)).heap[g]? = some (.cells #[.string ⟨#[]⟩,.int .i64 0,.int .i64 0] 67 (0,0))):=by rw[hg];exact heap_alloc_new w _
 have HL0:Hid (Below g w (w.alloc (.cells #[.string ⟨#[]⟩,.int .i64 0,.int .i64 0] 67))):=by rw[hg];exact(Below.refl _ _).alloc (Nat.le_refl _) _
 rcases unseal_case s with⟨t,hu,hse,htz,h4⟩|⟨c,hc0,hu⟩
 ·have HU:=hideP hu
  have HSE:=hideP hse
  have HAN:=hideP (ansU_yes hu)
  clear hu hse
  go_enter Tryz.func39,Tryz.ntmps39
  go_wp2_with fail
  rw[<-hg]
  generalize hww:w.alloc (.cells #[.string ⟨#[]⟩,.int .i64 0,.int .i64 0] 67)=w0 at HR0 HL0 ⊢
  clear hww hg
  refine(unseal_spec s _ (by unfold maxLen;omega)).mono ?_
  rintro e w1 ⟨rfl,hb1⟩
  have R1:=hideP (blk_low HR0.out hb1)
  have L1:=hideP (low2 HBE.out HL0.out hb1)
  clear hb1 HR0 HL0
  rw[HU.out]
  unfold outV
  by_cases ht0:0<t.size
  ·have ht0i:(0:Int)<(t.size:Int):=by omega
   have HB0:=hideP (byte0 ht0)
   generalize hx0:(t[0]'ht0).toNat=x0 at HB0
   have HX0:=hideP hx0
   by_cases hz:x0=0
   ·have e0:(((t[0]'ht0).toNat:Int)==0)=true:=by rw[hx0,hz];rfl
    have e1:(((t[0]'ht0).toNat:Int)==1)=false:=by rw[hx0,hz];rfl
    clear hx0
    go_wp2_with fail
    have Rx:Hid ((w1.alloc (.cells #[.string t,.int .i64 0,.int .i64 0] 67)).heap[g]? = some (.cells #[.string ⟨#[]⟩,.int .i64 0,.int .i64 0] 67 (0,0))):=blk_low R1.out ((Below.refl _ _).alloc (Nat.le_refl _) _)
    have Lx:Hid (Below g w (w1.alloc (.cells #[.string t,.int .i64 0,.int .i64 0] 67))):=low2 HBE.out L1.out ((Below.refl _ _).alloc (Nat.le_refl _) _)
    generalize hww:w1.alloc (.cells #[.string t,.int .i64 0,.int .i64 0] 67)=wx at Rx Lx ⊢
    clear hww
    have Rwx:=Rx
    have Lwx:=Lx
    clear Rx Lx
    have hrs:(t.extract 1 t.size).size<=1048576:=(by have:=ext_size t 1;omega)
    refine(pack_spec (t.extract 1 t.size) _ hrs).mono ?_
    rintro e wp ⟨rfl,hbp⟩
    have Rwp:=hideP (blk_low Rwx.out hbp)
    have Lwp:=hideP (low2 HBE.out Lwx.out hbp)
    clear hbp
    obtain⟨kb,hkb⟩:∃ x,x=packB (t.extract 1 t.size):=⟨_,rfl⟩
    obtain⟨ha1,ha2⟩:=ansT_read HSE.out htz h4 (r:=t.extract 1 t.size) (fun b h1 h2=>by
       rcases inner_case h1 h2 with k|k
       ·have q1:=HB0.out;have q2:=k.2.2;omega
       ·exact k.2.2.2)
    rw[<-hkb]at ha1 ha2 ⊢
    clear hkb
    by_cases hk:kb=s
    ·have HQ:=hideP (ha1 hk)
     subst hk
     have cc:=three Rwp.out
     have ff:=fun o=>frozen_of_row wp g o _ _ Rwp.out
     obtain⟨cc0,cc1,cc2⟩:=cc
     have s3:=set3_cells Rwp.out (.string (t.extract 1 t.size)) (.int .i64 0) (.int .i64 0)
     go_wp2_with fail
     refine bodyPost_ret (v:=outV (t.extract 1 t.size) 0 0) (by simp[results,outV,Tryz.results39,go_sem,s3.1,s3.2.1,s3.2.2]) rfl ⟨?_,?_⟩
     ·rw[HAN.out,HQ.out]
     ·rw[HBE.out]
      exact set3_low Lwp.out _ _ _
    ·have HQ:=hideP (ha2 hk)
     have hkl:(kb.toList==s.toList)=false:=by rw[list_eqP];exact decide_eq_false hk
     have cc:=three Rwp.out
     have ff:=fun o=>frozen_of_row wp g o _ _ Rwp.out
     obtain⟨cc0,cc1,cc2⟩:=cc
     have s3:=set3_cells Rwp.out (.string ⟨#[]⟩) (.int .i64 0) (.int .i64 3)
     go_wp2_with fail
     refine bodyPost_ret (v:=outV ⟨#[]⟩ 0 3) (by simp[results,outV,Tryz.results39,go_sem,s3.1,s3.2.1,s3.2.2]) rfl ⟨?_,?_⟩
     ·rw[HAN.out,HQ.out]
     ·rw[HBE.out]
      exact set3_low Lwp.out _ _ _
   ·by_cases hy:x0=1
    ·have e0:(((t[0]'ht0).toNat:Int)==0)=false:=by rw[hx0,hy];rfl
     have e1:(((t[0]'ht0).toNat:Int)==1)=true:=by rw[hx0,hy];rfl
     clear hx0
     go_wp2_with fail
     have Rx:Hid ((w1.alloc (.cells #[.string t,.int .i64 0,.int .i64 0] 67)).heap[g]? = some (.cells #[.string ⟨#[]⟩,.int .i64 0,.int .i64 0] 67 (0,0))):=blk_low R1.out ((Below.refl _ _).alloc (Nat.le_refl _) _)
     have Lx:Hid (Below g w (w1.alloc (.cells #[.string t,.int .i64 0,.int .i64 0] 67))):=low2 HBE.out L1.out ((Below.refl _ _).alloc (Nat.le_refl _) _)
     generalize hww:w1.alloc (.cells #[.string t,.int .i64 0,.int .i64 0] 67)=wx at Rx Lx ⊢
     clear hww
     have Rwx:=Rx
     have Lwx:=Lx
     clear Rx Lx
     refine(openS_any t wx (by omega) (by omega)).mono ?_
     rintro e wo ⟨⟨r,rfl,hrz,hro⟩,hbo⟩
     have Rwo:=hideP (blk_low Rwx.out hbo)
     have Lwo:=hideP (low2 HBE.out Lwx.out hbo)
     have HRO:=hideP hro
     clear hbo hro
     go_wp2_with fail
     have hrs:(r).size<=1048576:=(by omega)
     refine(pack_spec r _ hrs).mono ?_
     rintro e wp ⟨rfl,hbp⟩
     have Rwp:=hideP (blk_low Rwo.out hbp)
     have Lwp:=hideP (low2 HBE.out Lwo.out hbp)
     clear hbp
     obtain⟨kb,hkb⟩:∃ x,x=packB r:=⟨_,rfl⟩
     obtain⟨ha1,ha2⟩:=ansT_read HSE.out htz h4 (r:=r) (fun b h1 h2=>by
        rcases inner_case h1 h2 with k|k
        ·exact HRO.out b k.1
        ·have q1:=HB0.out;have q2:=k.2.2.1;omega)
     rw[<-hkb]at ha1 ha2 ⊢
     clear hkb
     by_cases hk:kb=s
     ·have HQ:=hideP (ha1 hk)
      subst hk
      have cc:=three Rwp.out
      have ff:=fun o=>frozen_of_row wp g o _ _ Rwp.out
      obtain⟨cc0,cc1,cc2⟩:=cc
      have s3:=set3_cells Rwp.out (.string (r)) (.int .i64 0) (.int .i64 0)
      go_wp2_with fail
      refine bodyPost_ret (v:=outV r 0 0) (by simp[results,outV,Tryz.results39,go_sem,s3.1,s3.2.1,s3.2.2]) rfl ⟨?_,?_⟩
      ·rw[HAN.out,HQ.out]
      ·rw[HBE.out]
       exact set3_low Lwp.out _ _ _
     ·have HQ:=hideP (ha2 hk)
      have hkl:(kb.toList==s.toList)=false:=by rw[list_eqP];exact decide_eq_false hk
      have cc:=three Rwp.out
      have ff:=fun o=>frozen_of_row wp g o _ _ Rwp.out
      obtain⟨cc0,cc1,cc2⟩:=cc
      have s3:=set3_cells Rwp.out (.string ⟨#[]⟩) (.int .i64 0) (.int .i64 3)
      go_wp2_with fail
      refine bodyPost_ret (v:=outV ⟨#[]⟩ 0 3) (by simp[results,outV,Tryz.results39,go_sem,s3.1,s3.2.1,s3.2.2]) rfl ⟨?_,?_⟩
      ·rw[HAN.out,HQ.out]
      ·rw[HBE.out]
       exact set3_low Lwp.out _ _ _
    ·have e0:(((t[0]'ht0).toNat:Int)==0)=false:=by rw[hx0,beq_eq_false_iff_ne];omega
     have e1:(((t[0]'ht0).toNat:Int)==1)=false:=by rw[hx0,beq_eq_false_iff_ne];omega
     clear hx0
     go_wp2_with fail
     have Rx:Hid ((w1.alloc (.cells #[.string t,.int .i64 0,.int .i64 0] 67)).heap[g]? = some (.cells #[.string ⟨#[]⟩,.int .i64 0,.int .i64 0] 67 (0,0))):=blk_low R1.out ((Below.refl _ _).alloc (Nat.le_refl _) _)
     have Lx:Hid (Below g w (w1.alloc (.cells #[.string t,.int .i64 0,.int .i64 0] 67))):=low2 HBE.out L1.out ((Below.refl _ _).alloc (Nat.le_refl _) _)
     generalize hww:w1.alloc (.cells #[.string t,.int .i64 0,.int .i64 0] 67)=wx at Rx Lx ⊢
     clear hww
     have Rwx:=Rx
     have Lwx:=Lx
     clear Rx Lx
     have hrs:(⟨#[]⟩:ByteArray).size<=1048576:=(by decide)
     refine(pack_spec ⟨#[]⟩ _ hrs).mono ?_
     rintro e wp ⟨rfl,hbp⟩
     have Rwp:=hideP (blk_low Rwx.out hbp)
     have Lwp:=hideP (low2 HBE.out Lwx.out hbp)
     clear hbp
     obtain⟨kb,hkb⟩:∃ x,x=packB ⟨#[]⟩:=⟨_,rfl⟩
     obtain⟨ha1,ha2⟩:=ansT_read HSE.out htz h4 (r:=⟨#[]⟩) (fun b h1 h2=>by
        rcases inner_case h1 h2 with k|k
        ·have q1:=HB0.out;have q2:=k.2.2;omega
        ·have q1:=HB0.out;have q2:=k.2.2.1;omega)
     rw[<-hkb]at ha1 ha2 ⊢
     clear hkb
     by_cases hk:kb=s
     ·have HQ:=hideP (ha1 hk)
      subst hk
      have cc:=three Rwp.out
      have ff:=fun o=>frozen_of_row wp g o _ _ Rwp.out
      obtain⟨cc0,cc1,cc2⟩:=cc
      have s3:=set3_cells Rwp.out (.string (⟨#[]⟩)) (.int .i64 0) (.int .i64 0)
      go_wp2_with fail
      refine bodyPost_ret (v:=outV ⟨#[]⟩ 0 0) (by simp[results,outV,Tryz.results39,go_sem,s3.1,s3.2.1,s3.2.2]) rfl ⟨?_,?_⟩
      ·rw[HAN.out,HQ.out]
      ·rw[HBE.out]
       exact set3_low Lwp.out _ _ _
     ·have HQ:=hideP (ha2 hk)
      have hkl:(kb.toList==s.toList)=false:=by rw[list_eqP];exact decide_eq_false hk
      have cc:=three Rwp.out
      have ff:=fun o=>frozen_of_row wp g o _ _ Rwp.out
      obtain⟨cc0,cc1,cc2⟩:=cc
      have s3:=set3_cells Rwp.out (.string ⟨#[]⟩) (.int .i64 0) (.int .i64 3)
      go_wp2_with fail
      refine bodyPost_ret (v:=outV ⟨#[]⟩ 0 3) (by simp[results,outV,Tryz.results39,go_sem,s3.1,s3.2.1,s3.2.2]) rfl ⟨?_,?_⟩
      ·rw[HAN.out,HQ.out]
      ·rw[HBE.out]
       exact set3_low Lwp.out _ _ _
  ·have ht0i:¬(0:Int)<(t.size:Int):=by omega
   go_wp2_with fail
   have Rx:Hid ((w1.alloc (.cells #[.string t,.int .i64 0,.int .i64 0] 67)).heap[g]? = some (.cells #[.string ⟨#[]⟩,.int .i64 0,.int .i64 0] 67 (0,0))):=blk_low R1.out ((Below.refl _ _).alloc (Nat.le_refl _) _)
   have Lx:Hid (Below g w (w1.alloc (.cells #[.string t,.int .i64 0,.int .i64 0] 67))):=low2 HBE.out L1.out ((Below.refl _ _).alloc (Nat.le_refl _) _)
   generalize hww:w1.alloc (.cells #[.string t,.int .i64 0,.int .i64 0] 67)=wx at Rx Lx ⊢
   clear hww
   have Rwx:=Rx
   have Lwx:=Lx
   clear Rx Lx
   have hrs:(⟨#[]⟩:ByteArray).size<=1048576:=(by decide)
   refine(pack_spec ⟨#[]⟩ _ hrs).mono ?_
   rintro e wp ⟨rfl,hbp⟩
   have Rwp:=hideP (blk_low Rwx.out hbp)
   have Lwp:=hideP (low2 HBE.out Lwx.out hbp)
   clear hbp
   obtain⟨kb,hkb⟩:∃ x,x=packB ⟨#[]⟩:=⟨_,rfl⟩
   obtain⟨ha1,ha2⟩:=ansT_read HSE.out htz h4 (r:=⟨#[]⟩) (fun b h1 h2=>by
      rcases inner_case h1 h2 with k|k
      ·exact absurd k.2.1 ht0
      ·exact absurd k.2.1 ht0)
   rw[<-hkb]at ha1 ha2 ⊢
   clear hkb
   by_cases hk:kb=s
   ·have HQ:=hideP (ha1 hk)
    subst hk
    have cc:=three Rwp.out
    have ff:=fun o=>frozen_of_row wp g o _ _ Rwp.out
    obtain⟨cc0,cc1,cc2⟩:=cc
    have s3:=set3_cells Rwp.out (.string (⟨#[]⟩)) (.int .i64 0) (.int .i64 0)
    go_wp2_with fail
    refine bodyPost_ret (v:=outV ⟨#[]⟩ 0 0) (by simp[results,outV,Tryz.results39,go_sem,s3.1,s3.2.1,s3.2.2]) rfl ⟨?_,?_⟩
    ·rw[HAN.out,HQ.out]
    ·rw[HBE.out]
     exact set3_low Lwp.out _ _ _
   ·have HQ:=hideP (ha2 hk)
    have hkl:(kb.toList==s.toList)=false:=by rw[list_eqP];exact decide_eq_false hk
    have cc:=three Rwp.out
    have ff:=fun o=>frozen_of_row wp g o _ _ Rwp.out
    obtain⟨cc0,cc1,cc2⟩:=cc
    have s3:=set3_cells Rwp.out (.string ⟨#[]⟩) (.int .i64 0) (.int .i64 3)
    go_wp2_with fail
    refine bodyPost_ret (v:=outV ⟨#[]⟩ 0 3) (by simp[results,outV,Tryz.results39,go_sem,s3.1,s3.2.1,s3.2.2]) rfl ⟨?_,?_⟩
    ·rw[HAN.out,HQ.out]
    ·rw[HBE.out]
     exact set3_low Lwp.out _ _ _
 ·have HAN:=hideP (ansU_no hc0 hu)
  have HU:=hideP hu
  have hc':(c != 0)=true:=by simp;exact hc0
  clear hu hc0
  go_enter Tryz.func39,Tryz.ntmps39
  go_wp2_with fail
  rw[<-hg]
  generalize hww:w.alloc (.cells #[.string ⟨#[]⟩,.int .i64 0,.int .i64 0] 67)=w0 at HR0 HL0 ⊢
  clear hww hg
  refine(unseal_spec s _ (by unfold maxLen;omega)).mono ?_
  rintro e w1 ⟨rfl,hb1⟩
  have R1:=hideP (blk_low HR0.out hb1)
  have L1:=hideP (low2 HBE.out HL0.out hb1)
  clear hb1 HR0 HL0
  rw[HU.out]
  unfold outV
  obtain⟨cc0,cc1,cc2⟩:=three R1.out
  have ff:=fun o=>frozen_of_row w1 g o _ _ R1.out
  have s3:=fun o=>set3_alloc R1.out (.string ⟨#[]⟩) (.int .i64 0) (.int .i64 c) o
  have HGW:Hid (g<w1.heap.size):=(Array.getElem?_eq_some_iff.1 R1.out).1
  have hgw:=HGW.out
  go_wp2_with fail
  refine bodyPost_ret (v:=outV ⟨#[]⟩ 0 c) (by simp[results,outV,Tryz.results39,go_sem,(s3 _).1,(s3 _).2.1,(s3 _).2.2]) rfl ⟨?_,?_⟩
  ·rw[HAN.out]
  ·rw[HBE.out]
   exact set3_lowA HBE.out L1.out _ _ _ _
end Go.Proofs.YtkgjfdanjmnmbaaGreatDoor.Up


namespace Go.Proofs.YtkgjfdanjmnmbaaGreatDoor.Up
open Pk
open Go.RowKit
open Se (sealV unsealV outV unseal_impl)
def ShortOk (ev:Value):Prop:=∀ (s:ByteArray) (w:World),Glob w ev->1<=s.size->s.size<=8000->Calls Tryz.prog 68 #[.string s] w fun e w'=>(∃ r v,e=.returned (.tuple #[.string r,v])/\(v=.nilIface∨v=ev)/\r.size<=8000/\∀ b,Good s b->r=b/\v=.nilIface)/\Below w.heap.size w w'
def IsOk (ev:Value):Prop:=∀ w:World,Calls Tryz.prog 47 #[ev,ev] w fun e w'=>e=.returned (.bool true)/\Below w.heap.size w w'
theorem unpack_impl (tid:TypeId) (pv:Value) (HS:Hid (ShortOk (.iface tid pv))) (HI:Hid (IsOk (.iface tid pv))) (s:ByteArray) (w:World) (hs:s.size<=1048576) (hgl:Glob w (.iface tid pv)) :
  Calls Tryz.prog 31 #[.string s] w fun e w'=>e=.returned (ansU s)/\Below w.heap.size w w':=by
 obtain⟨g,hg⟩:∃ g,g=w.heap.size:=⟨_,rfl⟩
 have HBE:=hideP hg.symm
 have HR0:Hid ((w.alloc (.cells #[.string ⟨#[]⟩,.int .i64 0,.int .i64 0] 67)).heap[g]? = some (.cells #[.string ⟨#[]⟩,.int .i64 0,.int .i64 0] 67 (0,0))):=by rw[hg];exact heap_alloc_new w _
 have HL0:Hid (Below g w (w.alloc (.cells #[.string ⟨#[]⟩,.int .i64 0,.int .i64 0] 67))):=by rw[hg];exact(Below.refl _ _).alloc (Nat.le_refl _) _
 have HG0:Hid (Glob (w.alloc (.cells #[.string ⟨#[]⟩,.int .i64 0,.int .i64 0] 67)) (.iface tid pv)):=glob_keep hgl ((Below.refl _ _).alloc (Nat.le_refl _) _)
 clear hgl
 rcases unseal_case s with⟨t,hu,hse,htz,h4⟩|⟨c,hc0,hu⟩
 ·have HU:=hideP hu
  have HSE:=hideP hse
  have HAN:=hideP (ansU_yes hu)
  clear hu hse
  go_enter Tryz.func31,Tryz.ntmps31
  go_wp2_with fail
  rw[<-hg]
  generalize hww:w.alloc (.cells #[.string ⟨#[]⟩,.int .i64 0,.int .i64 0] 67)=w0 at HR0 HL0 HG0 ⊢
  clear hww hg
  refine(unseal_impl s _ (by unfold maxLen;omega)).mono ?_
  rintro e w1 ⟨rfl,hb1⟩
  have R1:=hideP (blk_low HR0.out hb1)
  have L1:=hideP (low2 HBE.out HL0.out hb1)
  have G1:=hideP (glob_keep HG0.out hb1)
  clear hb1 HR0 HL0 HG0
  rw[HU.out]
  unfold outV
  go_wp2_with fail
  have Rwx:Hid ((w1.alloc (.cells #[.string t,.int .i64 0,.int .i64 0] 67)).heap[g]? = some (.cells #[.string ⟨#[]⟩,.int .i64 0,.int .i64 0] 67 (0,0))):=blk_low R1.out ((Below.refl _ _).alloc (Nat.le_refl _) _)
  have Lwx:Hid (Below g w (w1.alloc (.cells #[.string t,.int .i64 0,.int .i64 0] 67))):=low2 HBE.out L1.out ((Below.refl _ _).alloc (Nat.le_refl _) _)
  have Gwx:Hid (Glob (w1.alloc (.cells #[.string t,.int .i64 0,.int .i64 0] 67)) (.iface tid pv)):=glob_keep G1.out ((Below.refl _ _).alloc (Nat.le_refl _) _)
  generalize hww:w1.alloc (.cells #[.string t,.int .i64 0,.int .i64 0] 67)=wx at Rwx Lwx Gwx ⊢
  clear hww R1 L1 G1
  refine(read_block (.iface tid pv) HS t wx (by omega) Gwx.out).mono ?_
  rintro e w2 ⟨⟨r,v,rfl,hv,hrz,hr⟩,hb2⟩
  have R2:=hideP (blk_low Rwx.out hb2)
  have L2:=hideP (low2 HBE.out Lwx.out hb2)
  have G2:=hideP (glob_keep Gwx.out hb2)
  have HR:=hideP hr
  have g2:=G2.out.2
  clear hb2 hr Rwx Lwx Gwx
  rcases hv with rfl|rfl
  ·go_wp2_with fail
   refine(is_nil tid pv w2).mono ?_
   rintro e w3 ⟨rfl,rfl⟩
   go_wp2_with fail
   refine(pack_impl r _ (by omega)).mono ?_
   rintro e wp ⟨rfl,hbp⟩
   have Rwp:=hideP (blk_low R2.out hbp)
   have Lwp:=hideP (low2 HBE.out L2.out hbp)
   clear hbp g2 G2 R2 L2
   obtain⟨kb,hkb⟩:∃ x,x=packB r:=⟨_,rfl⟩
   obtain⟨ha1,ha2⟩:=ansT_read HSE.out htz h4 (r:=r) (fun b h1 h2=>(HR.out b h1 h2).1)
   rw[<-hkb]at ha1 ha2 ⊢
   clear hkb
   by_cases hk:kb=s
   ·have HQ:=hideP (ha1 hk)
    subst hk
    obtain⟨cc0,cc1,cc2⟩:=three Rwp.out
    have ff:=fun o=>frozen_of_row wp g o _ _ Rwp.out
    have s3:=set3_cells Rwp.out (.string r) (.int .i64 0) (.int .i64 0)
    go_wp2_with fail
    refine bodyPost_ret (v:=outV r 0 0) (by simp[results,outV,Tryz.results31,go_sem,s3.1,s3.2.1,s3.2.2]) rfl ⟨?_,?_⟩
    ·rw[HAN.out,HQ.out]
    ·rw[HBE.out]
     exact set3_low Lwp.out _ _ _
   ·have HQ:=hideP (ha2 hk)
    have hkl:(kb.toList==s.toList)=false:=by rw[list_eqP];exact decide_eq_false hk
    obtain⟨cc0,cc1,cc2⟩:=three Rwp.out
    have ff:=fun o=>frozen_of_row wp g o _ _ Rwp.out
    have s3:=set3_cells Rwp.out (.string ⟨#[]⟩) (.int .i64 0) (.int .i64 3)
    go_wp2_with fail
    refine bodyPost_ret (v:=outV ⟨#[]⟩ 0 3) (by simp[results,outV,Tryz.results31,go_sem,s3.1,s3.2.1,s3.2.2]) rfl ⟨?_,?_⟩
    ·rw[HAN.out,HQ.out]
    ·rw[HBE.out]
     exact set3_low Lwp.out _ _ _
  ·have HQ:=hideP (ansT_none (t:=t) fun b h1 h2=>by have:=(HR.out b h1 h2).2;cases this)
   go_wp2_with fail
   refine(HI.out w2).mono ?_
   rintro e wp ⟨rfl,hbp⟩
   have Rwp:=hideP (blk_low R2.out hbp)
   have Lwp:=hideP (low2 HBE.out L2.out hbp)
   clear hbp g2 G2 R2 L2
   obtain⟨cc0,cc1,cc2⟩:=three Rwp.out
   have ff:=fun o=>frozen_of_row wp g o _ _ Rwp.out
   have s3:=set3_cells Rwp.out (.string ⟨#[]⟩) (.int .i64 0) (.int .i64 3)
   go_wp2_with fail
   refine bodyPost_ret (v:=outV ⟨#[]⟩ 0 3) (by simp[results,outV,Tryz.results31,go_sem,s3.1,s3.2.1,s3.2.2]) rfl ⟨?_,?_⟩
   ·rw[HAN.out,HQ.out]
   ·rw[HBE.out]
    exact set3_low Lwp.out _ _ _
 ·have HAN:=hideP (ansU_no hc0 hu)
  have HU:=hideP hu
  have hc':(c != 0)=true:=by simp;exact hc0
  clear hu hc0
  go_enter Tryz.func31,Tryz.ntmps31
  go_wp2_with fail
  rw[<-hg]
  generalize hww:w.alloc (.cells #[.string ⟨#[]⟩,.int .i64 0,.int .i64 0] 67)=w0 at HR0 HL0 HG0 ⊢
  clear hww hg
  refine(unseal_impl s _ (by unfold maxLen;omega)).mono ?_
  rintro e w1 ⟨rfl,hb1⟩
  have R1:=hideP (blk_low HR0.out hb1)
  have L1:=hideP (low2 HBE.out HL0.out hb1)
  clear hb1 HR0 HL0 HG0
  rw[HU.out]
  unfold outV
  obtain⟨cc0,cc1,cc2⟩:=three R1.out
  have ff:=fun o=>frozen_of_row w1 g o _ _ R1.out
  have s3:=fun o=>set3_alloc R1.out (.string ⟨#[]⟩) (.int .i64 0) (.int .i64 c) o
  have HGW:Hid (g<w1.heap.size):=(Array.getElem?_eq_some_iff.1 R1.out).1
  have hgw:=HGW.out
  go_wp2_with fail
  refine bodyPost_ret (v:=outV ⟨#[]⟩ 0 c) (by simp[results,outV,Tryz.results31,go_sem,(s3 _).1,(s3 _).2.1,(s3 _).2.2]) rfl ⟨?_,?_⟩
  ·rw[HAN.out]
  ·rw[HBE.out]
   exact set3_lowA HBE.out L1.out _ _ _ _
end Go.Proofs.YtkgjfdanjmnmbaaGreatDoor.Up


/- Plain facts for impl's readShort. -/
namespace Go.Proofs.YtkgjfdanjmnmbaaGreatDoor.Up
open Pk
open Go.RowKit
open Gn (rd run numR)
open Hf (up up_length up_set)
open Bi (above)
theorem run_on (s:ByteArray):∀ f k p u,(run s f k p u).2.2=0->p<(run s f k p u).2.1:=by
 intro f
 induction f with
 |zero=>intro k p u h;exact absurd (show (3:Int)=0 from h) (by decide)
 |succ f ih =>
  intro k p u h
  rw[run]at h ⊢
  split at h
  ·exact absurd h (by decide)
  ·rename_i h1
   rw[if_neg h1]
   split at h
   ·exact absurd h (by decide)
   ·rename_i h2
    rw[if_neg h2]
    split at h
    ·rename_i h3
     rw[if_pos h3]
     split at h
     ·exact absurd h (by decide)
     ·rename_i h4
      rw[if_neg h4]
      show p<p+1
      omega
    ·rename_i h3
     rw[if_neg h3]
     have:=ih _ _ _ h
     omega
theorem rd_on {s:ByteArray} {a:Nat} (h:(rd s (a:Int)).2.2=0):a<(rd s (a:Int)).2.1:=by
 unfold rd at h ⊢
 split at h
 ·exact absurd h (by decide)
 ·rename_i h1
  rw[if_neg h1]
  split at h
  ·exact absurd h (by decide)
  ·rename_i h2
   rw[if_neg h2]
   exact run_on s _ _ _ _ h
def RdI (t:ByteArray) (k:Nat) (p:Nat):Prop:=p<=t.size/\∀ b,Good t b->p=posK b k
theorem rdI_step {t:ByteArray} {k p:Nat} (h:RdI t k p) (hk:∀ b,Good t b->k<(numsAll b).length) :
  ((rd t (p:Int)).2.2=0->RdI t (k+1) (rd t (p:Int)).2.1/\∀ b,Good t b->(numsAll b)[k]? = some (rd t (p:Int)).1)/\(¬(rd t (p:Int)).2.2=0->∀ b,¬Good t b):=by
 have key:∀ b,Good t b->∃ v,(numsAll b)[k]? = some v/\rd t (p:Int)=(v,posK b (k+1),0):=by
  intro b hb
  have hl:=hk b hb
  have:=rd_good hb k hl
  rw[<-h.2 b hb]at this
  exact⟨_,List.getElem?_eq_getElem hl,this⟩
 refine⟨fun _=>⟨⟨rd_end t _,fun b hb=>?_⟩,fun b hb=>?_⟩,fun hn b hb=>?_⟩
 ·obtain⟨v,_,e⟩:=key b hb
  rw[e]
 ·obtain⟨v,h1,e⟩:=key b hb
  rw[e]
  exact h1
 ·obtain⟨v,_,e⟩:=key b hb
  exact hn (by rw[e])
theorem rdI_first {t:ByteArray} (h:1<=t.size):RdI t 0 1:=⟨h,fun b _=>by unfold posK;simp[numsL]⟩
theorem four_le (b:ByteArray) (k:Nat) (h:k<4):k<(numsAll b).length:=by rw[numsAll_len];omega
end Go.Proofs.YtkgjfdanjmnmbaaGreatDoor.Up


/- More plain facts for impl's readShort: the states of its reading. -/
namespace Go.Proofs.YtkgjfdanjmnmbaaGreatDoor.Up
open Pk
open Go.RowKit
open Gn (rd errV)
open Hf (up up_length up_set)
open Bi (above)
open Go.Proofs.YtkgjfdanjmnmbaaGreatDoor.So (bwtA)
theorem errV_yes {c:Int} (h:c=0):errV c=.nilIface:=if_pos h
theorem errV_no {c:Int} (h:¬c=0):errV c=.iface 131 (.agg #[.int .i64 c]):=if_neg h
def HeadF (s:ByteArray) (k:Nat) (l:List Int):Prop:=∀ b,Good s b->∀ j,j<k->(numsAll b)[j]? = l[j]?
theorem head_none (s:ByteArray) (l:List Int):HeadF s 0 l:=fun _ _ j h=>absurd h (by omega)
theorem head_next {s:ByteArray} {k:Nat} {l:List Int} {x:Int} (h:HeadF s k l) (hk:k<l.length) (hx:∀ b,Good s b->(numsAll b)[k]? = some x):HeadF s (k+1) (l.set k x):=by
 intro b hb j hj
 by_cases e:j=k
 ·subst e
  rw[hx b hb,List.getElem?_set_self hk]
 ·rw[List.getElem?_set_ne (by omega)]
  exact h b hb j (by omega)
def TabF (s:ByteArray) (m:Nat) (l:List Int):Prop:=∀ b,Good s b->m<=above (up (lenS b))/\l=up (tabL (lenS b) (Hf.zeros 257) ((syL (lenS b) 257).take m))
theorem tab_none (s:ByteArray):TabF s 0 (List.replicate 257 0):=fun b _=>⟨Nat.zero_le _,by rw[List.take_zero];exact zeros_up.symm⟩
theorem tab_lt {s:ByteArray} {m:Nat} {l:List Int} {x3:Int} (hh:HeadF s 4 l) (h3:l[3]? = some x3) (hlt:(m:Int)<x3):∀ b,Good s b->m<above (up (lenS b)):=by
 intro b hb
 have:=hh b hb 3 (by omega)
 rw[(numsAll_head b).2.2.2,h3]at this
 have:=Option.some.inj this
 omega
theorem tab_len {s:ByteArray} {m:Nat} (h:∀ b,Good s b->m<above (up (lenS b))):(∀ b,Good s b->4+2*m<(numsAll b).length)/\(∀ b,Good s b->4+2*m+1<(numsAll b).length) :=
 ⟨fun b hb=>by rw[numsAll_len];have:=h b hb;omega,fun b hb=>by rw[numsAll_len];have:=h b hb;omega⟩
theorem tab_sym {s:ByteArray} {m:Nat} {y:Int} (h:∀ b,Good s b->m<above (up (lenS b))) (hy:∀ b,Good s b->(numsAll b)[4+2*m]? = some y) (hw:y<0∨257<=y):∀ b,¬Good s b:=by
 intro b hb
 have hj:m<(syL (lenS b) 257).length:=by rw[syL_len];exact h b hb
 have h1:=(numsAll_pair b m hj).1
 rw[hy b hb]at h1
 have h2:=Option.some.inj h1
 have h3:=syL_lt _ (List.getElem_mem hj)
 omega
theorem tab_next {s:ByteArray} {m y:Nat} {z:Int} {l:List Int} (h:TabF s m l) (hlt:∀ b,Good s b->m<above (up (lenS b)))
  (h1:∀ b,Good s b->(numsAll b)[4+2*m]? = some (y:Int)) (h2:∀ b,Good s b->(numsAll b)[4+2*m+1]? = some z):TabF s (m+1) (l.set y z):=by
 intro b hb
 obtain⟨h3,h4⟩:=h b hb
 have h5:=hlt b hb
 have hj:m<(syL (lenS b) 257).length:=by rw[syL_len];omega
 obtain⟨k1,k2⟩:=numsAll_pair b m hj
 rw[h1 b hb]at k1
 rw[h2 b hb]at k2
 have e1:y=(syL (lenS b) 257)[m]:=by have:=Option.some.inj k1;omega
 have e2:=Option.some.inj k2
 refine⟨by omega,?_⟩
 rw[tabL_next _ _ _ _ hj,h4,e2,e1,<-up_set]
def AllF (s:ByteArray) (p:Nat) (l l':List Int):Prop:=∀ b,Good s b->l'=up (lenS b)/\l[1]? = some ((bwtA b:Nat):Int)/\l[2]? = some ((symS b).length:Int)/\s.extract p s.size=bitsS b
theorem tab_end {s:ByteArray} {m p:Nat} {l l':List Int} {x3:Int} (h:TabF s m l') (hh:HeadF s 4 l) (hr:RdI s (4+2*m) p) (h3:l[3]? = some x3) (hge:x3<=(m:Int)):AllF s p l l':=by
 intro b hb
 have h4:=hh b hb 3 (by omega)
 rw[(numsAll_head b).2.2.2,h3]at h4
 have h5:=Option.some.inj h4
 obtain⟨h6,h7⟩:=h b hb
 have e:m=above (up (lenS b)):=by omega
 refine⟨?_,?_,?_,?_⟩
 ·rw[h7,List.take_of_length_le (by rw[syL_len];omega),tabL_all _ (lenS_facts b).1]
 ·rw[<-hh b hb 1 (by omega),(numsAll_head b).2.1]
 ·rw[<-hh b hb 2 (by omega),(numsAll_head b).2.2.1]
 ·have e2:p=posK b (numsAll b).length:=by
   rw[numsAll_len,<-e]
   exact hr.2 b hb
  rw[e2]
  exact(posK_all hb).2
theorem list4 {l:List Int} (h:l.length=4):∃ a b c d,l=[a,b,c,d]:=by
 match l,h with
 |[a,b,c,d],_=>exact⟨a,b,c,d,rfl⟩
end Go.Proofs.YtkgjfdanjmnmbaaGreatDoor.Up


namespace Go.Proofs.YtkgjfdanjmnmbaaGreatDoor.Up
open Pk
open Go.RowKit Go.Proofs.YtkgjfdanjmnmbaaGreatDoor.Jump
open Gn (rd errV read_any)
open In (Ints IsI made_ints)
open Hf (up)
open Go.Proofs.YtkgjfdanjmnmbaaGreatDoor.So (bwtA)
structure Mem (g:Nat) (ev:Value) (w0 w:World) (l l':List Int):Prop where
 told:IsI w g 138 l
 four:l.length=4
 lens:IsI w (g+1) 2 l'
 many:l'.length=257
 low:Below g w0 w
 glob:Glob w ev
theorem Mem.setT {g : Nat} {ev : Value} {w0 w : World} {l l' : List Int} (h : Mem g ev w0 w l l') (hg : 0 < g) (k : Nat) (x : Int) : Mem g ev w0 (w.setCell ⟨g, k, none⟩ (.int .i64 x)) (l.set k x) l' :=
  ⟨h.told.set k x, by rw [List.length_set]; exact h.four, h.lens.set_other ⟨g, k, none⟩ _ (by show g + 1 ≠ g; omega), h.many, h.low.setCell (p := ⟨g, k, none⟩) (Nat.le_refl _) _,
   ⟨Nat.lt_of_lt_of_le h.glob.1 (Nat.le_of_eq (by simp [World.setCell])), (Below.cell (((Below.refl g w).setCell (p := ⟨g, k, none⟩) (Nat.le_refl _) _)) (p := ⟨0, 0, none⟩) hg).trans h.glob.2⟩⟩
theorem Mem.setL {g : Nat} {ev : Value} {w0 w : World} {l l' : List Int} (h : Mem g ev w0 w l l') (hg : 0 < g) (k : Nat) (x : Int) : Mem g ev w0 (w.setCell ⟨g + 1, k, none⟩ (.int .i64 x)) l (l'.set k x) :=
  ⟨h.told.set_other ⟨g + 1, k, none⟩ _ (by show g ≠ g + 1; omega), h.four, h.lens.set k x, by rw [List.length_set]; exact h.many, h.low.setCell (p := ⟨g + 1, k, none⟩) (by show g ≤ g + 1; omega) _,
   ⟨Nat.lt_of_lt_of_le h.glob.1 (Nat.le_of_eq (by simp [World.setCell])), (Below.cell (((Below.refl g w).setCell (p := ⟨g + 1, k, none⟩) (by show g ≤ g + 1; omega) _)) (p := ⟨0, 0, none⟩) hg).trans h.glob.2⟩⟩
def JS (s:ByteArray) (g:Nat) (ev:Value) (w0:World) (lab:Nat) (a:Act) (w:World):Prop :=
 (lab=0/\∃ (k p:Nat) (l l':List Int) (x5 x6 x10 x11 x12 x13 x14 x15 x16 x17 x18 x19 x20 x21 x22 x23 x24 x25 x26 x27 x28 x29 x30 x31 x32 x33 x34 x35 x36 x37 x38 x39 x40 x41 x42 x43 x44 x45 x46 x47 x48 x49 x50 x51 x52 x53 x54 x55 x56 x57 x58 x59 x60 x61 x62 x63 x64 x65 x66 x67 x68 x69:Value),a={ tmps:=#[.string s,undef,.string ⟨#[]⟩,.nilIface,.pointer (some ⟨g,0,none⟩),x5,x6,.slice (some ⟨g+1,0,none⟩) 257 257,.int .i64 (p:Nat),.int .i64 (k:Nat),x10,x11,x12,x13,x14,x15,x16,x17,x18,x19,x20,x21,x22,x23,x24,x25,x26,x27,x28,x29,x30,x31,x32,x33,x34,x35,x36,x37,x38,x39,x40,x41,x42,x43,x44,x45,x46,x47,x48,x49,x50,x51,x52,x53,x54,x55,x56,x57,x58,x59,x60,x61,x62,x63,x64,x65,x66,x67,x68,x69],defers:=[] }/\1<=k/\k<=3/\RdI s k p/\HeadF s k l/\l'=List.replicate 257 0/\Mem g ev w0 w l l') ∨
 (lab=3/\∃ (k p:Nat) (l l':List Int) (x5 x6 x10 x11 x12 x13 x14 x15 x16 x17 x18 x19 x20 x21 x22 x23 x24 x25 x26 x27 x28 x29 x30 x31 x32 x33 x34 x35 x36 x37 x38 x39 x40 x41 x42 x43 x44 x45 x46 x47 x48 x49 x50 x51 x52 x53 x54 x55 x56 x57 x58 x59 x60 x61 x62 x63 x64 x65 x66 x67 x68 x69:Value),a={ tmps:=#[.string s,undef,.string ⟨#[]⟩,.nilIface,.pointer (some ⟨g,0,none⟩),x5,x6,.slice (some ⟨g+1,0,none⟩) 257 257,.int .i64 (p:Nat),.int .i64 (k:Nat),x10,x11,x12,x13,x14,x15,x16,x17,x18,x19,x20,x21,x22,x23,x24,x25,x26,x27,x28,x29,x30,x31,x32,x33,x34,x35,x36,x37,x38,x39,x40,x41,x42,x43,x44,x45,x46,x47,x48,x49,x50,x51,x52,x53,x54,x55,x56,x57,x58,x59,x60,x61,x62,x63,x64,x65,x66,x67,x68,x69],defers:=[] }/\RdI s (4+2*k) p/\k<=p/\HeadF s 4 l/\TabF s k l'/\Mem g ev w0 w l l') ∨
 (lab=2/\∃ (k p:Nat) (l l':List Int) (x5 x6 x10 x11 x12 x13 x14 x15 x16 x17 x18 x19 x20 x21 x22 x23 x24 x25 x26 x27 x28 x29 x30 x31 x32 x33 x34 x35 x36 x37 x38 x39 x40 x41 x42 x43 x44 x45 x46 x47 x48 x49 x50 x51 x52 x53 x54 x55 x56 x57 x58 x59 x60 x61 x62 x63 x64 x65 x66 x67 x68 x69:Value),a={ tmps:=#[.string s,undef,.string ⟨#[]⟩,.nilIface,.pointer (some ⟨g,0,none⟩),x5,x6,.slice (some ⟨g+1,0,none⟩) 257 257,.int .i64 (p:Nat),.int .i64 (k:Nat),x10,x11,x12,x13,x14,x15,x16,x17,x18,x19,x20,x21,x22,x23,x24,x25,x26,x27,x28,x29,x30,x31,x32,x33,x34,x35,x36,x37,x38,x39,x40,x41,x42,x43,x44,x45,x46,x47,x48,x49,x50,x51,x52,x53,x54,x55,x56,x57,x58,x59,x60,x61,x62,x63,x64,x65,x66,x67,x68,x69],defers:=[] }/\p<=s.size/\AllF s p l l'/\Mem g ev w0 w l l') ∨
 (lab=1/\∃ (k p:Int) (l l':List Int) (x5 x6 x10 x11 x12 x13 x14 x15 x16 x17 x18 x19 x20 x21 x22 x23 x24 x25 x26 x27 x28 x29 x30 x31 x32 x33 x34 x35 x36 x37 x38 x39 x40 x41 x42 x43 x44 x45 x46 x47 x48 x49 x50 x51 x52 x53 x54 x55 x56 x57 x58 x59 x60 x61 x62 x63 x64 x65 x66 x67 x68 x69:Value),a={ tmps:=#[.string s,undef,.string ⟨#[]⟩,.nilIface,.pointer (some ⟨g,0,none⟩),x5,x6,.slice (some ⟨g+1,0,none⟩) 257 257,.int .i64 p,.int .i64 k,x10,x11,x12,x13,x14,x15,x16,x17,x18,x19,x20,x21,x22,x23,x24,x25,x26,x27,x28,x29,x30,x31,x32,x33,x34,x35,x36,x37,x38,x39,x40,x41,x42,x43,x44,x45,x46,x47,x48,x49,x50,x51,x52,x53,x54,x55,x56,x57,x58,x59,x60,x61,x62,x63,x64,x65,x66,x67,x68,x69],defers:=[] }/\(∀ b,¬Good s b)/\Mem g ev w0 w l l')
theorem JS0 (s:ByteArray) (g:Nat) (ev:Value) (w0:World) (w:World) (k p:Nat) (l l':List Int) (x5 x6 x10 x11 x12 x13 x14 x15 x16 x17 x18 x19 x20 x21 x22 x23 x24 x25 x26 x27 x28 x29 x30 x31 x32 x33 x34 x35 x36 x37 x38 x39 x40 x41 x42 x43 x44 x45 x46 x47 x48 x49 x50 x51 x52 x53 x54 x55 x56 x57 x58 x59 x60 x61 x62 x63 x64 x65 x66 x67 x68 x69:Value) (h0:1<=k) (h1:k<=3) (h2:RdI s k p) (h3:HeadF s k l) (h4:l'=List.replicate 257 0) (h5:Mem g ev w0 w l l'):JS s g ev w0 0 { tmps:=#[.string s,undef,.string ⟨#[]⟩,.nilIface,.pointer (some ⟨g,0,none⟩),x5,x6,.slice (some ⟨g+1,0,none⟩) 257 257,.int .i64 (p:Nat),.int .i64 (k:Nat),x10,x11,x12,x13,x14,x15,x16,x17,x18,x19,x20,x21,x22,x23,x24,x25,x26,x27,x28,x29,x30,x31,x32,x33,x34,x35,x36,x37,x38,x39,x40,x41,x42,x43,x44,x45,x46,x47,x48,x49,x50,x51,x52,x53,x54,x55,x56,x57,x58,x59,x60,x61,x62,x63,x64,x65,x66,x67,x68,x69],defers:=[] } w :=
 .inl ⟨rfl,k,p,l,l',x5,x6,x10,x11,x12,x13,x14,x15,x16,x17,x18,x19,x20,x21,x22,x23,x24,x25,x26,x27,x28,x29,x30,x31,x32,x33,x34,x35,x36,x37,x38,x39,x40,x41,x42,x43,x44,x45,x46,x47,x48,x49,x50,x51,x52,x53,x54,x55,x56,x57,x58,x59,x60,x61,x62,x63,x64,x65,x66,x67,x68,x69,rfl,h0,h1,h2,h3,h4,h5⟩
theorem JS3 (s:ByteArray) (g:Nat) (ev:Value) (w0:World) (w:World) (k p:Nat) (l l':List Int) (x5 x6 x10 x11 x12 x13 x14 x15 x16 x17 x18 x19 x20 x21 x22 x23 x24 x25 x26 x27 x28 x29 x30 x31 x32 x33 x34 x35 x36 x37 x38 x39 x40 x41 x42 x43 x44 x45 x46 x47 x48 x49 x50 x51 x52 x53 x54 x55 x56 x57 x58 x59 x60 x61 x62 x63 x64 x65 x66 x67 x68 x69:Value) (h0:RdI s (4+2*k) p) (h1:k<=p) (h2:HeadF s 4 l) (h3:TabF s k l') (h4:Mem g ev w0 w l l'):JS s g ev w0 3 { tmps:=#[.string s,undef,.string ⟨#[]⟩,.nilIface,.pointer (some ⟨g,0,none⟩),x5,x6,.slice (some ⟨g+1,0,none⟩) 257 257,.int .i64 (p:Nat),.int .i64 (k:Nat),x10,x11,x12,x13,x14,x15,x16,x17,x18,x19,x20,x21,x22,x23,x24,x25,x26,x27,x28,x29,x30,x31,x32,x33,x34,x35,x36,x37,x38,x39,x40,x41,x42,x43,x44,x45,x46,x47,x48,x49,x50,x51,x52,x53,x54,x55,x56,x57,x58,x59,x60,x61,x62,x63,x64,x65,x66,x67,x68,x69],defers:=[] } w :=
 .inr <| .inl ⟨rfl,k,p,l,l',x5,x6,x10,x11,x12,x13,x14,x15,x16,x17,x18,x19,x20,x21,x22,x23,x24,x25,x26,x27,x28,x29,x30,x31,x32,x33,x34,x35,x36,x37,x38,x39,x40,x41,x42,x43,x44,x45,x46,x47,x48,x49,x50,x51,x52,x53,x54,x55,x56,x57,x58,x59,x60,x61,x62,x63,x64,x65,x66,x67,x68,x69,rfl,h0,h1,h2,h3,h4⟩
theorem JS2 (s:ByteArray) (g:Nat) (ev:Value) (w0:World) (w:World) (k p:Nat) (l l':List Int) (x5 x6 x10 x11 x12 x13 x14 x15 x16 x17 x18 x19 x20 x21 x22 x23 x24 x25 x26 x27 x28 x29 x30 x31 x32 x33 x34 x35 x36 x37 x38 x39 x40 x41 x42 x43 x44 x45 x46 x47 x48 x49 x50 x51 x52 x53 x54 x55 x56 x57 x58 x59 x60 x61 x62 x63 x64 x65 x66 x67 x68 x69:Value) (h0:p<=s.size) (h1:AllF s p l l') (h2:Mem g ev w0 w l l'):JS s g ev w0 2 { tmps:=#[.string s,undef,.string ⟨#[]⟩,.nilIface,.pointer (some ⟨g,0,none⟩),x5,x6,.slice (some ⟨g+1,0,none⟩) 257 257,.int .i64 (p:Nat),.int .i64 (k:Nat),x10,x11,x12,x13,x14,x15,x16,x17,x18,x19,x20,x21,x22,x23,x24,x25,x26,x27,x28,x29,x30,x31,x32,x33,x34,x35,x36,x37,x38,x39,x40,x41,x42,x43,x44,x45,x46,x47,x48,x49,x50,x51,x52,x53,x54,x55,x56,x57,x58,x59,x60,x61,x62,x63,x64,x65,x66,x67,x68,x69],defers:=[] } w :=
 .inr <| .inr <| .inl ⟨rfl,k,p,l,l',x5,x6,x10,x11,x12,x13,x14,x15,x16,x17,x18,x19,x20,x21,x22,x23,x24,x25,x26,x27,x28,x29,x30,x31,x32,x33,x34,x35,x36,x37,x38,x39,x40,x41,x42,x43,x44,x45,x46,x47,x48,x49,x50,x51,x52,x53,x54,x55,x56,x57,x58,x59,x60,x61,x62,x63,x64,x65,x66,x67,x68,x69,rfl,h0,h1,h2⟩
theorem JS1 (s:ByteArray) (g:Nat) (ev:Value) (w0:World) (w:World) (k p:Int) (l l':List Int) (x5 x6 x10 x11 x12 x13 x14 x15 x16 x17 x18 x19 x20 x21 x22 x23 x24 x25 x26 x27 x28 x29 x30 x31 x32 x33 x34 x35 x36 x37 x38 x39 x40 x41 x42 x43 x44 x45 x46 x47 x48 x49 x50 x51 x52 x53 x54 x55 x56 x57 x58 x59 x60 x61 x62 x63 x64 x65 x66 x67 x68 x69:Value) (h0:(∀ b,¬Good s b)) (h1:Mem g ev w0 w l l'):JS s g ev w0 1 { tmps:=#[.string s,undef,.string ⟨#[]⟩,.nilIface,.pointer (some ⟨g,0,none⟩),x5,x6,.slice (some ⟨g+1,0,none⟩) 257 257,.int .i64 p,.int .i64 k,x10,x11,x12,x13,x14,x15,x16,x17,x18,x19,x20,x21,x22,x23,x24,x25,x26,x27,x28,x29,x30,x31,x32,x33,x34,x35,x36,x37,x38,x39,x40,x41,x42,x43,x44,x45,x46,x47,x48,x49,x50,x51,x52,x53,x54,x55,x56,x57,x58,x59,x60,x61,x62,x63,x64,x65,x66,x67,x68,x69],defers:=[] } w :=
 .inr <| .inr <| .inr ⟨rfl,k,p,l,l',x5,x6,x10,x11,x12,x13,x14,x15,x16,x17,x18,x19,x20,x21,x22,x23,x24,x25,x26,x27,x28,x29,x30,x31,x32,x33,x34,x35,x36,x37,x38,x39,x40,x41,x42,x43,x44,x45,x46,x47,x48,x49,x50,x51,x52,x53,x54,x55,x56,x57,x58,x59,x60,x61,x62,x63,x64,x65,x66,x67,x68,x69,rfl,h0,h1⟩
def muS (lab:Nat) (a:Act) (_:World):Nat:=if lab=0 then 30000-(intOf (a.tmps.getD 9 undef)).toNat else if lab=3 then 20000-(intOf (a.tmps.getD 8 undef)).toNat else if lab=2 then 1 else 0
theorem ev_cell {g:Nat} {ev:Value} {w0 w:World} {l l':List Int} (h:Mem g ev w0 w l l'):w.cell? ⟨0,0,none⟩=some ev:=h.glob.2
theorem short_any (ev:Value) (s:ByteArray) (w:World) (hgl:Glob w ev) (h1:1<=s.size) (hs:s.size<=8000) :
  Calls Tryz.prog 68 #[.string s] w fun e w'=>(∃ r v,e=.returned (.tuple #[.string r,v])/\(v=.nilIface∨v=ev)/\r.size<=8000/\∀ b,Good s b->r=b/\v=.nilIface)/\Below w.heap.size w w':=by
 obtain⟨i0,hi,hz0,hz1,hz2⟩:=info_parts In.Tryz.infoI2
 obtain⟨g,hg⟩:∃ g,g=w.heap.size:=⟨_,rfl⟩
 have HBE:=hideP hg.symm
 have HVG:Hid (0 < g):=by rw[hg];exact hgl.1
 have HI0:Hid (IsI (w.alloc (.cells #[.int .i64 0,.int .i64 0,.int .i64 0,.int .i64 0] 138)) g 138 [0,0,0,0]):=by rw[hg];exact heap_alloc_new w _
 have HL0:Hid (Below g w (w.alloc (.cells #[.int .i64 0,.int .i64 0,.int .i64 0,.int .i64 0] 138))):=by rw[hg];exact(Below.refl _ _).alloc (Nat.le_refl _) _
 have HG0:Hid (Glob (w.alloc (.cells #[.int .i64 0,.int .i64 0,.int .i64 0,.int .i64 0] 138)) ev):=glob_keep hgl ((Below.refl _ _).alloc (Nat.le_refl _) _)
 have HZ0:Hid ((w.alloc (.cells #[.int .i64 0,.int .i64 0,.int .i64 0,.int .i64 0] 138)).heap.size=g+1):=by unfold Hid;rw[hg];simp
 have HRD:=hideP (fun (p:Int) (W:World)=>read_any s p W (by unfold maxLen;omega))
 have HR1:=hideP (rdI_first h1)
 clear hgl h1 hg
 rw[HBE.out]
 go_enter Tryz.func68,Tryz.ntmps68
 go_wp2_with fail
 refine wp_scope_labels (JS s g ev w) muS ?_ ?_
 ·go_wp2_with (at_make;generalize hww:w.alloc (.cells #[.int .i64 0,.int .i64 0,.int .i64 0,.int .i64 0] 138)=wa at HI0 HL0 HG0 HZ0 ⊢;clear hww;refine wpList_make_full _ rfl (.const (.int .i64 257)) (.const (.int .i64 257)) 114 rfl wa.heap.size 2 i0 (.int .i64 0) 1 Tryz.underlying114 hi hz0 hz1 .i64 .i64 _ _ 257 rfl rfl (by omega) (by omega) (by rw[hz2];omega) (by unfold maxLen;omega) (Nat.le_refl _) ?_;intro wm hown hgrow;have I0:=hideP (made_ints hown);have HBm:=hideP ((Below.refl wa.heap.size wa).grown hgrow (Nat.le_refl _) (by simp));clear hown hgrow)
  rw[HZ0.out]at I0 ⊢
  rw[HBE.out]
  have MT:Hid (Mem g ev w wm [0,0,0,0] (List.replicate 257 0)):=⟨HI0.out.below HBm.out (by rw[HZ0.out];omega),rfl,I0.out,List.length_replicate ..,HL0.out.trans (HBm.out.mono (by rw[HZ0.out];omega)),glob_keep HG0.out HBm.out⟩
  have HST:=hideP (rdI_step HR1.out (fun b _=>four_le b 0 (by omega)))
  go_step3
  go_wp2_with fail
  refine(HRD.out 1 _).mono ?_
  rintro e w2 ⟨rfl,hw⟩
  subst w2
  obtain⟨⟨y,q,c⟩,hrd⟩:∃ x,x=rd s 1:=⟨_,rfl⟩
  rw[show rd s ((1:Nat):Int)=rd s 1 from rfl,<-hrd]at HST
  rw[<-hrd]
  clear hrd HI0 HL0 HG0 I0 HBm HR1
  dsimp only at HST ⊢
  have cy:=MT.out.told.cell (j:=0) (by decide)
  have fy:=MT.out.told.frozen 0
  have MS:=hideP (MT.out.setT HVG.out 0 y)
  by_cases hc:c=0
  ·rw[errV_yes hc]
   have R2:=hideP ((HST.out.1 hc).1)
   have Y2:=hideP (head_next (head_none s [0,0,0,0]) (by decide) (HST.out.1 hc).2)
   clear HST hc
   go_wp2_with fail
   go_step3
   exact JS0 s g ev w _ 1 q _ _ _ _ _ _ _ _ _ _ _ _ _ _ _ _ _ _ _ _ _ _ _ _ _ _ _ _ _ _ _ _ _ _ _ _ _ _ _ _ _ _ _ _ _ _ _ _ _ _ _ _ _ _ _ _ _ _ _ _ _ _ _ _ (by omega) (by omega) R2.out Y2.out rfl MS.out
  ·rw[errV_no hc]
   have HNO:=hideP (HST.out.2 hc)
   clear HST
   go_wp2_with fail
   go_step3
   exact JS1 s g ev w _ _ _ _ _ _ _ _ _ _ _ _ _ _ _ _ _ _ _ _ _ _ _ _ _ _ _ _ _ _ _ _ _ _ _ _ _ _ _ _ _ _ _ _ _ _ _ _ _ _ _ _ _ _ _ _ _ _ _ _ _ _ _ _ _ _ _ HNO.out MS.out
 ·intro lab a' w' hJ
  rcases hJ with⟨rfl,k,p,l,l',x5,x6,x10,x11,x12,x13,x14,x15,x16,x17,x18,x19,x20,x21,x22,x23,x24,x25,x26,x27,x28,x29,x30,x31,x32,x33,x34,x35,x36,x37,x38,x39,x40,x41,x42,x43,x44,x45,x46,x47,x48,x49,x50,x51,x52,x53,x54,x55,x56,x57,x58,x59,x60,x61,x62,x63,x64,x65,x66,x67,x68,x69,rfl,h0,h1,h2,h3,h4,h5⟩|⟨rfl,k,p,l,l',x5,x6,x10,x11,x12,x13,x14,x15,x16,x17,x18,x19,x20,x21,x22,x23,x24,x25,x26,x27,x28,x29,x30,x31,x32,x33,x34,x35,x36,x37,x38,x39,x40,x41,x42,x43,x44,x45,x46,x47,x48,x49,x50,x51,x52,x53,x54,x55,x56,x57,x58,x59,x60,x61,x62,x63,x64,x65,x66,x67,x68,x69,rfl,h0,hkp,h1,h2,h3⟩|⟨rfl,k,p,l,l',x5,x6,x10,x11,x12,x13,x14,x15,x16,x17,x18,x19,x20,x21,x22,x23,x24,x25,x26,x27,x28,x29,x30,x31,x32,x33,x34,x35,x36,x37,x38,x39,x40,x41,x42,x43,x44,x45,x46,x47,x48,x49,x50,x51,x52,x53,x54,x55,x56,x57,x58,x59,x60,x61,x62,x63,x64,x65,x66,x67,x68,x69,rfl,h0,h1,h2⟩|⟨rfl,k,p,l,l',x5,x6,x10,x11,x12,x13,x14,x15,x16,x17,x18,x19,x20,x21,x22,x23,x24,x25,x26,x27,x28,x29,x30,x31,x32,x33,x34,x35,x36,x37,x38,x39,x40,x41,x42,x43,x44,x45,x46,x47,x48,x49,x50,x51,x52,x53,x54,x55,x56,x57,x58,x59,x60,x61,x62,x63,x64,x65,x66,x67,x68,x69,rfl,h0,h1⟩
  ·refine⟨_,rfl,?_⟩
   have M0:=hideP h5
   have HST:=hideP (rdI_step h2 (fun b _=>four_le b k (by omega)))
   have H3:=hideP h3
   have H4:=hideP h4
   have hk4:(k:Int)<4:=by omega
   clear h2 h3 h4 h5 HI0 HL0 HG0 HR1
   go_wp2_with fail
   refine(HRD.out ((p:Nat):Int) _).mono ?_
   rintro e w2 ⟨rfl,hw⟩
   subst w2
   obtain⟨⟨x,q,c⟩,hrd⟩:∃ x,x=rd s ((p:Nat):Int):=⟨_,rfl⟩
   rw[<-hrd]at HST ⊢
   clear hrd
   dsimp only at HST ⊢
   have cy:=M0.out.told.cell (j:=k) (by have:=M0.out.four;omega)
   have fy:=M0.out.told.frozen k
   obtain⟨old,hold⟩:∃ x:Int,x=l[k]'(by have:=M0.out.four;omega):=⟨_,rfl⟩
   rw[<-hold]at cy
   clear hold
   have MT:=hideP (M0.out.setT HVG.out k x)
   by_cases hc:c=0
   ·rw[errV_yes hc]
    have R2:=hideP ((HST.out.1 hc).1)
    have Y2:=hideP (head_next H3.out (by have:=M0.out.four;omega) (HST.out.1 hc).2)
    clear HST hc
    by_cases hk:k+1<4
    ·have hk':(k:Int)+1<4:=by omega
     go_wp2_with fail
     go_step3
     exact⟨JS0 s g ev w _ (k+1) q _ _ _ _ _ _ _ _ _ _ _ _ _ _ _ _ _ _ _ _ _ _ _ _ _ _ _ _ _ _ _ _ _ _ _ _ _ _ _ _ _ _ _ _ _ _ _ _ _ _ _ _ _ _ _ _ _ _ _ _ _ _ _ _ (by omega) (by omega) R2.out Y2.out H4.out MT.out,by simp[muS,intOf]<;>omega⟩
    ·obtain rfl:k=3:=by omega
     have HHF:=Y2
     have HTF:Hid (TabF s 0 l'):=by rw[H4.out];exact tab_none s
     have HRI:Hid (RdI s (4+2*0) q):=R2.out
     have h3x:(l.set 3 x)[3]? = some x:=List.getElem?_set_self (by have:=M0.out.four;omega)
     have H3X:=hideP h3x
     clear h3x
     by_cases hle:x<=0
     ·have HAL:=hideP (tab_end HTF.out HHF.out HRI.out H3X.out (by omega))
      go_wp2_with fail
      go_step3
      go_wp2_with fail
      go_step3
      exact⟨JS2 s g ev w _ 0 q _ _ _ _ _ _ _ _ _ _ _ _ _ _ _ _ _ _ _ _ _ _ _ _ _ _ _ _ _ _ _ _ _ _ _ _ _ _ _ _ _ _ _ _ _ _ _ _ _ _ _ _ _ _ _ _ _ _ _ _ _ _ _ _ HRI.out.1 HAL.out MT.out,by simp[muS,intOf]<;>omega⟩
     ·have hle':decide (x<=0)=false:=by simp;omega
      have HLT:=hideP (tab_lt (m:=0) HHF.out H3X.out (by omega))
      have hqz:=HRI.out.1
      go_wp2_with fail
      go_step3
      go_wp2_with fail
      generalize hww:w'.setCell ⟨g,3,none⟩ (.int .i64 x)=wt at MT ⊢
      clear hww cy fy M0
      have HST:=hideP (rdI_step HRI.out (tab_len HLT.out).1)
      have HON:=hideP (fun h=>rd_on (s:=s) (a:=q) h)
      refine(HRD.out ((q:Nat):Int) _).mono ?_
      rintro e w2 ⟨rfl,hw⟩
      subst w2
      obtain⟨⟨y,q2,c⟩,hrd⟩:∃ x,x=rd s ((q:Nat):Int):=⟨_,rfl⟩
      rw[<-hrd]at HST HON ⊢
      clear hrd
      dsimp only at HST HON ⊢
      by_cases hc:c=0
      ·rw[errV_yes hc]
       have R2:=hideP ((HST.out.1 hc).1)
       have Y2:=hideP ((HST.out.1 hc).2)
       have O2:=HON.out hc
       have hq2:=R2.out.1
       clear HST HON hc
       by_cases hy0:y<0
       ·have HNO:=hideP (tab_sym HLT.out Y2.out (.inl hy0))
        go_wp2_with fail
        go_step3
        exact⟨JS1 s g ev w _ _ _ _ _ _ _ _ _ _ _ _ _ _ _ _ _ _ _ _ _ _ _ _ _ _ _ _ _ _ _ _ _ _ _ _ _ _ _ _ _ _ _ _ _ _ _ _ _ _ _ _ _ _ _ _ _ _ _ _ _ _ _ _ _ _ _ HNO.out MT.out,by simp[muS,intOf]<;>omega⟩
       ·have hy0':decide (y<0)=false:=by simp;omega
        by_cases hy1:257<=y
        ·have HNO:=hideP (tab_sym HLT.out Y2.out (.inr hy1))
         go_wp2_with fail
         go_step3
         exact⟨JS1 s g ev w _ _ _ _ _ _ _ _ _ _ _ _ _ _ _ _ _ _ _ _ _ _ _ _ _ _ _ _ _ _ _ _ _ _ _ _ _ _ _ _ _ _ _ _ _ _ _ _ _ _ _ _ _ _ _ _ _ _ _ _ _ _ _ _ _ _ _ HNO.out MT.out,by simp[muS,intOf]<;>omega⟩
        ·have hy1':decide (257<=y)=false:=by simp;omega
         obtain⟨yn,rfl⟩:=Int.eq_ofNat_of_zero_le (show 0<=y by omega)
         have hyn:yn<257:=by omega
         have hyi:(yn:Int)<257:=by omega
         go_wp2_with fail
         have HST:=hideP (rdI_step R2.out (tab_len HLT.out).2)
         have HON:=hideP (fun h=>rd_on (s:=s) (a:=q2) h)
         refine(HRD.out ((q2:Nat):Int) _).mono ?_
         rintro e w3 ⟨rfl,hw⟩
         subst w3
         obtain⟨⟨z,q3,c3⟩,hrd⟩:∃ x,x=rd s ((q2:Nat):Int):=⟨_,rfl⟩
         rw[<-hrd]at HST HON ⊢
         clear hrd
         dsimp only at HST HON ⊢
         have cy:=MT.out.lens.cell (j:=yn) (by have:=MT.out.many;omega)
         have fy:=MT.out.lens.frozen yn
         have MS:=hideP (MT.out.setL HVG.out yn z)
         obtain⟨old,hold⟩:∃ x:Int,x=l'[yn]'(by have:=MT.out.many;omega):=⟨_,rfl⟩
         rw[<-hold]at cy
         clear hold
         by_cases hc:c3=0
         ·rw[errV_yes hc]
          have R3:=hideP ((HST.out.1 hc).1)
          have Y3:=hideP ((HST.out.1 hc).2)
          have O3:=HON.out hc
          have hq3:=R3.out.1
          have TN:=hideP (tab_next HTF.out HLT.out Y2.out Y3.out)
          clear HST HON hc
          go_wp2_with fail
          go_step3
          exact⟨JS3 s g ev w _ (0+1) q3 _ _ _ _ _ _ _ _ _ _ _ _ _ _ _ _ _ _ _ _ _ _ _ _ _ _ _ _ _ _ _ _ _ _ _ _ _ _ _ _ _ _ _ _ _ _ _ _ _ _ _ _ _ _ _ _ _ _ _ _ _ _ _ _ (by rw[show 4+2*(0+1)=4+2*0+1+1 by omega];exact R3.out) (by omega) HHF.out TN.out MS.out,by simp[muS,intOf]<;>omega⟩
         ·rw[errV_no hc]
          have HNO:=hideP (HST.out.2 hc)
          clear HST HON
          go_wp2_with fail
          go_step3
          exact⟨JS1 s g ev w _ _ _ _ _ _ _ _ _ _ _ _ _ _ _ _ _ _ _ _ _ _ _ _ _ _ _ _ _ _ _ _ _ _ _ _ _ _ _ _ _ _ _ _ _ _ _ _ _ _ _ _ _ _ _ _ _ _ _ _ _ _ _ _ _ _ _ HNO.out MS.out,by simp[muS,intOf]<;>omega⟩
      ·rw[errV_no hc]
       have HNO:=hideP (HST.out.2 hc)
       clear HST HON
       go_wp2_with fail
       go_step3
       exact⟨JS1 s g ev w _ _ _ _ _ _ _ _ _ _ _ _ _ _ _ _ _ _ _ _ _ _ _ _ _ _ _ _ _ _ _ _ _ _ _ _ _ _ _ _ _ _ _ _ _ _ _ _ _ _ _ _ _ _ _ _ _ _ _ _ _ _ _ _ _ _ _ HNO.out MT.out,by simp[muS,intOf]<;>omega⟩
   ·rw[errV_no hc]
    have HNO:=hideP (HST.out.2 hc)
    clear HST
    go_wp2_with fail
    go_step3
    exact⟨JS1 s g ev w _ _ _ _ _ _ _ _ _ _ _ _ _ _ _ _ _ _ _ _ _ _ _ _ _ _ _ _ _ _ _ _ _ _ _ _ _ _ _ _ _ _ _ _ _ _ _ _ _ _ _ _ _ _ _ _ _ _ _ _ _ _ _ _ _ _ _ HNO.out MT.out,by simp[muS,intOf]<;>omega⟩
  ·refine⟨_,rfl,?_⟩
   have HRI:=hideP h0
   have HHF:=hideP h1
   have HTF:=hideP h2
   have MT:=hideP h3
   clear h0 h1 h2 h3 HI0 HL0 HG0 HR1
   have hqz:=HRI.out.1
   have cy3:=MT.out.told.cell (j:=3) (by have:=MT.out.four;omega)
   obtain⟨x3,hx3⟩:∃ x:Int,x=l[3]'(by have:=MT.out.four;omega):=⟨_,rfl⟩
   rw[<-hx3]at cy3
   have H3X:Hid (l[3]? = some x3):=by rw[hx3];exact List.getElem?_eq_getElem _
   clear hx3
   by_cases hle:x3<=(k:Int)
   ·have HAL:=hideP (tab_end HTF.out HHF.out HRI.out H3X.out hle)
    go_wp2_with fail
    go_step3
    exact⟨JS2 s g ev w _ k p _ _ _ _ _ _ _ _ _ _ _ _ _ _ _ _ _ _ _ _ _ _ _ _ _ _ _ _ _ _ _ _ _ _ _ _ _ _ _ _ _ _ _ _ _ _ _ _ _ _ _ _ _ _ _ _ _ _ _ _ _ _ _ _ HRI.out.1 HAL.out MT.out,by simp[muS,intOf]<;>omega⟩
   ·have hle':decide (x3<=(k:Int))=false:=by simp;omega
    have HLT:=hideP (tab_lt (m:=k) HHF.out H3X.out (by omega))
    go_wp2_with fail
    clear cy3
    have HST:=hideP (rdI_step HRI.out (tab_len HLT.out).1)
    have HON:=hideP (fun h=>rd_on (s:=s) (a:=p) h)
    refine(HRD.out ((p:Nat):Int) _).mono ?_
    rintro e w2 ⟨rfl,hw⟩
    subst w2
    obtain⟨⟨y,q2,c⟩,hrd⟩:∃ x,x=rd s ((p:Nat):Int):=⟨_,rfl⟩
    rw[<-hrd]at HST HON ⊢
    clear hrd
    dsimp only at HST HON ⊢
    by_cases hc:c=0
    ·rw[errV_yes hc]
     have R2:=hideP ((HST.out.1 hc).1)
     have Y2:=hideP ((HST.out.1 hc).2)
     have O2:=HON.out hc
     have hq2:=R2.out.1
     clear HST HON hc
     by_cases hy0:y<0
     ·have HNO:=hideP (tab_sym HLT.out Y2.out (.inl hy0))
      go_wp2_with fail
      go_step3
      exact⟨JS1 s g ev w _ _ _ _ _ _ _ _ _ _ _ _ _ _ _ _ _ _ _ _ _ _ _ _ _ _ _ _ _ _ _ _ _ _ _ _ _ _ _ _ _ _ _ _ _ _ _ _ _ _ _ _ _ _ _ _ _ _ _ _ _ _ _ _ _ _ _ HNO.out MT.out,by simp[muS,intOf]<;>omega⟩
     ·have hy0':decide (y<0)=false:=by simp;omega
      by_cases hy1:257<=y
      ·have HNO:=hideP (tab_sym HLT.out Y2.out (.inr hy1))
       go_wp2_with fail
       go_step3
       exact⟨JS1 s g ev w _ _ _ _ _ _ _ _ _ _ _ _ _ _ _ _ _ _ _ _ _ _ _ _ _ _ _ _ _ _ _ _ _ _ _ _ _ _ _ _ _ _ _ _ _ _ _ _ _ _ _ _ _ _ _ _ _ _ _ _ _ _ _ _ _ _ _ HNO.out MT.out,by simp[muS,intOf]<;>omega⟩
      ·have hy1':decide (257<=y)=false:=by simp;omega
       obtain⟨yn,rfl⟩:=Int.eq_ofNat_of_zero_le (show 0<=y by omega)
       have hyn:yn<257:=by omega
       have hyi:(yn:Int)<257:=by omega
       go_wp2_with fail
       have HST:=hideP (rdI_step R2.out (tab_len HLT.out).2)
       have HON:=hideP (fun h=>rd_on (s:=s) (a:=q2) h)
       refine(HRD.out ((q2:Nat):Int) _).mono ?_
       rintro e w3 ⟨rfl,hw⟩
       subst w3
       obtain⟨⟨z,q3,c3⟩,hrd⟩:∃ x,x=rd s ((q2:Nat):Int):=⟨_,rfl⟩
       rw[<-hrd]at HST HON ⊢
       clear hrd
       dsimp only at HST HON ⊢
       have cy:=MT.out.lens.cell (j:=yn) (by have:=MT.out.many;omega)
       have fy:=MT.out.lens.frozen yn
       have MS:=hideP (MT.out.setL HVG.out yn z)
       obtain⟨old,hold⟩:∃ x:Int,x=l'[yn]'(by have:=MT.out.many;omega):=⟨_,rfl⟩
       rw[<-hold]at cy
       clear hold
       by_cases hc:c3=0
       ·rw[errV_yes hc]
        have R3:=hideP ((HST.out.1 hc).1)
        have Y3:=hideP ((HST.out.1 hc).2)
        have O3:=HON.out hc
        have hq3:=R3.out.1
        have TN:=hideP (tab_next HTF.out HLT.out Y2.out Y3.out)
        clear HST HON hc
        go_wp2_with fail
        go_step3
        exact⟨JS3 s g ev w _ (k+1) q3 _ _ _ _ _ _ _ _ _ _ _ _ _ _ _ _ _ _ _ _ _ _ _ _ _ _ _ _ _ _ _ _ _ _ _ _ _ _ _ _ _ _ _ _ _ _ _ _ _ _ _ _ _ _ _ _ _ _ _ _ _ _ _ _ (by rw[show 4+2*(k+1)=4+2*k+1+1 by omega];exact R3.out) (by omega) HHF.out TN.out MS.out,by simp[muS,intOf]<;>omega⟩
       ·rw[errV_no hc]
        have HNO:=hideP (HST.out.2 hc)
        clear HST HON
        go_wp2_with fail
        go_step3
        exact⟨JS1 s g ev w _ _ _ _ _ _ _ _ _ _ _ _ _ _ _ _ _ _ _ _ _ _ _ _ _ _ _ _ _ _ _ _ _ _ _ _ _ _ _ _ _ _ _ _ _ _ _ _ _ _ _ _ _ _ _ _ _ _ _ _ _ _ _ _ _ _ _ HNO.out MS.out,by simp[muS,intOf]<;>omega⟩
    ·rw[errV_no hc]
     have HNO:=hideP (HST.out.2 hc)
     clear HST HON
     go_wp2_with fail
     go_step3
     exact⟨JS1 s g ev w _ _ _ _ _ _ _ _ _ _ _ _ _ _ _ _ _ _ _ _ _ _ _ _ _ _ _ _ _ _ _ _ _ _ _ _ _ _ _ _ _ _ _ _ _ _ _ _ _ _ _ _ _ _ _ _ _ _ _ _ _ _ _ _ _ _ _ HNO.out MT.out,by simp[muS,intOf]<;>omega⟩
  ·refine⟨_,rfl,?_⟩
   have MT:=hideP h2
   have HAL:=hideP h1
   obtain⟨x0,x1,x2,x3,hl⟩:=list4 h2.four
   subst hl
   have hpz:=h0
   have hpi:(p:Int)<=(s.size:Int):=by omega
   clear h0 h1 h2 HI0 HL0 HG0 HR1
   have CB:Hid (∀ W,Below w'.heap.size w' W->W.cell? ⟨g,0,none⟩=some (.int .i64 x0)/\W.cell? ⟨g,1,none⟩=some (.int .i64 x1)/\W.cell? ⟨g,2,none⟩=some (.int .i64 x2)/\W.cell? ⟨g,3,none⟩=some (.int .i64 x3)):=fun W h =>
    four ((h.block g MT.out.told.lt).trans MT.out.told)
   have HBK:Hid (∀ W,Below w'.heap.size w' W->Calls Tryz.prog 92 #[.agg #[.int .i64 x0,.int .i64 x1,.int .i64 x2,.int .i64 x3],.slice (some ⟨g+1,0,none⟩) 257 257,.string (s.extract p s.size)] W fun e w''=>(∃ r v,e=.returned (.tuple #[.string r,v])/\(v=.nilIface∨v=ev)/\r.size<=8000/\∀ t b,Good t b->l'=up (lenS b)->x1=((bwtA b:Nat):Int)->x2=((symS b).length:Int)->s.extract p s.size=bitsS b->r=b/\v=.nilIface)/\Below W.heap.size W w''):=fun W h =>
    back_any x0 x1 x2 x3 l' (some ⟨g+1,0,none⟩) 257 257 (s.extract p s.size) ev W ((MT.out.lens.below h MT.out.lens.lt).ints (Nat.lt_of_lt_of_le MT.out.lens.lt h.size)) MT.out.many.symm (by decide) (by have:=ext_size s p;omega) (glob_keep MT.out.glob h).1 (glob_keep MT.out.glob h).2
   have KW:=hideP (Below.refl w'.heap.size w')
   go_upto_region 17 with fail
   have hS0:=CB.out _ (KW.out.drew)
   go_region_held3 (fun W=>W.cell? ⟨g,0,none⟩=some (.int .i64 x0)/\W.cell? ⟨g,1,none⟩=some (.int .i64 x1)/\W.cell? ⟨g,2,none⟩=some (.int .i64 x2)/\W.cell? ⟨g,3,none⟩=some (.int .i64 x3))
    (first|assumption|exact CB.out _ (low_keep KW.out.drew LB.out))
    (first|(go_at_call 92;(with_reducible refine(HBK.out _ ?_).mono ?_);(· exact KW.out.drew);rintro e wb ⟨⟨r,v,rfl,hv,hrz,hr⟩,hbb⟩;have LB:=hideP hbb;have HV:=hideP hv;have HR:=hideP hr;clear hbb hv hr))
   all_goals (try go_wp2_with fail)
   all_goals (rw[toLabel_ret])
   all_goals go_ret2
   all_goals (refine⟨⟨r,v,rfl,HV.out,hrz,fun b hb=>?_⟩,MT.out.low.trans ((low_keep KW.out.drew LB.out).mono (by rw[<-HBE.out];exact MT.out.low.size))⟩)
   all_goals (obtain⟨q1,q2,q3,q4⟩:=HAL.out b hb)
   all_goals (exact HR.out s b hb q1 (Option.some.inj q2) (Option.some.inj q3) q4)
  ·refine⟨_,rfl,?_⟩
   have HNO:=hideP h0
   have MT:=hideP h1
   have gcell:=ev_cell h1
   clear h0 h1 HI0 HL0 HG0 HR1
   go_wp2_with fail
   go_quiet (fail)
   go_wp2_with fail
   rw[toLabel_ret]
   go_ret2
   exact⟨⟨_,_,rfl,.inr rfl,by decide,fun b hb=>absurd hb (HNO.out b)⟩,below_drewN MT.out.low _⟩
end Go.Proofs.YtkgjfdanjmnmbaaGreatDoor.Up

