/- Texts put together: HrPieS. -/
import Derived.Test.YtpddanmnlkcdpaaGreatDoorHz41
import Derived.Test.YtpddanmnlkcdpaaGreatDoorHz49
import Derived.Deep.RegionLaw
set_option maxRecDepth 100000
set_option maxHeartbeats 8000000
namespace Go.Proofs.YtpddanmnlkcdpaaGreatDoor.Tk
open Go.RowKit
open Kp
open Pe
open Pl
open Hr
open In (Ints OwnI)
open Ap (Own0)
open Ls (lowL blk_alloc lV lm_alloc lm_drew cells3 set_j3)
open St (Strs)
open Tr (step_append_opt map_one1)
theorem newsS {W:World} {B:Nat} {a:Option Addr} {l:List ByteArray} (h:Strs W B a l):∀ d,a=some d->∀ j u,(l.map Value.string)[j]? = some u->W.cell? (d.add j)=some u:=by
 intro d hd j u hu
 have hj:j<l.length:=by
  have:=(List.getElem?_eq_some_iff.1 hu).1
  rwa[List.length_map]at this
 rcases h with rfl|⟨b,off,rfl,_,hc⟩
 ·cases hj
 ·cases hd
  rw[List.getElem?_map,List.getElem?_eq_getElem hj]at hu
  rw[Addr.add_lit,hc j hj]
  exact hu
theorem lit_own {X:World} {g base:Nat} (h:X.heap[g]? = some (.cells #[] 9 (0,0))) (hb:base<=g):X.ownsRow base 9 1 (.slice (some ⟨g,0,none⟩) 0 0) 0 []:=⟨rfl,.inr ⟨g,0,#[],rfl,hb,h,Nat.le_refl _,by decide,rfl,rfl⟩⟩
theorem emptyAtD {W:World} {g base:Nat} (hg:W.heap[g]? = some (.cells #[] 9 (0,0))) (h:base<=g):W.drew.ownsRow base 9 1 (.slice (some ⟨g,0,none⟩) 0 0) 0 []:=lit_own (X:=W.drew) hg h
theorem lit_new2 (W:World) (cs ds:Array Value) {T U:TypeId}:((W.alloc (.cells cs T)).alloc (.cells ds U)).heap[W.heap.size]? = some (.cells cs T (0,0)):=blk_alloc (heap_alloc_new W _) _
theorem rec_new2 (W:World) (cs ds:Array Value) {T U:TypeId}:((W.alloc (.cells cs T)).alloc (.cells ds U)).heap[W.heap.size+1]? = some (.cells ds U (0,0)):=by
 have:=heap_alloc_new (W.alloc (.cells cs T)) (.cells ds U)
 rwa[World.size_alloc]at this
theorem path_app {W X W8:World} {lit:Nat} {v8:Value} {p:List ByteArray} (hb:Below W.heap.size W X) (hlit:W.heap.size<=lit) (hown:W8.ownsRow W.heap.size 9 1 v8 (0+p.length) ([]++p.map Value.string)) (hg:X.grownBy W8 (Value.slice (some ⟨lit,0,none⟩) 0 0).ownBlock):(∃ a c,v8=.slice a p.length c)/\PathO W.heap.size W8 v8 p/\Below W.heap.size W W8:=by
 rw[Nat.zero_add,List.nil_append]at hown
 have ho:St.OwnS W8 W.heap.size v8 p:=hown
 obtain⟨a,c,hv,_⟩:=ho.strs
 exact⟨⟨a,c,hv⟩,ho,hb.grown hg hb.size (fun k hk=>by simp[Value.ownBlock]at hk;omega)⟩
theorem pieceG_spec (fit fb:Rec->Bool) (w W:World) (gg:Nat) (z b:Int) (r s:ByteArray) (y:Int) (go n co j:Nat) (va:Value) (mo:List MO) (mr:List MR) (hg:Game w W gg z b r s y (some ⟨go,0,none⟩) n co va mo mr) (hj:j<mo.length) (hrs:recs mr=(allR fit s).1) (hm:mr.length<=1048575) (hn:n<=1048576) (hs0:0<=mo[j].1.strikes) (hs1:mo[j].1.strikes<=2) (hst:∀ o∈Pe.oths mo,o.strikes<=3) (k i:Int) (t:ByteArray) (p:List ByteArray) (ap:Option Addr) (cp:Nat) (hcp:p.length<=cp) (hap:ap=none->cp=0) (hp:Strs w w.heap.size ap p) (hi:0<=i/\i<=1048576)
  (hs8:s.size<=8000) (hf:FitS fit z b r w) (hff:FitF fit)
  (hft:∀ V,Below w.heap.size w V->Calls Tryz.prog 104 #[lV z b r,.int .i64 i,.string t,.slice ap p.length cp] V fun q v'=>q=.returned (.bool (fb (i,t,p)))/\Below V.heap.size V v') (hsm:fb (i,t,p)=true->t.size<=8000/\p.length<=400) :
  Calls Tryz.prog 87 #[.pointer (some ⟨gg,0,none⟩),.int .i64 j,sayV k i t (.slice ap p.length cp)] W fun q w'=>GEnd w gg z b r (pieceH fit fb s y (Pe.oths mo) j mo[j].1 (i,t,p)) q w':=by
 have hmx:=mixedK
 have hml:=game_len hg
 have hjn:j<n:=by rw[<-hml];exact hj
 have hjI:(j:Int)<(n:Int):=by omega
 have B1:=(Below.refl W.heap.size W).alloc (Nat.le_refl _) (sayO k i t (.slice ap p.length cp))
 have G1:=hideK (hg.call B1)
 have XB:=hideK (heap_alloc_new W (sayO k i t (.slice ap p.length cp)))
 have HFT:=hideK hft
 have HPH:Hid (pieceH fit fb s y (Pe.oths mo) j mo[j].1 (i,t,p)=if fb (i,t,p)=false then ⟨s,y,(Pe.oths mo).set j (strikeO (dropO mo[j].1 i)),[]⟩ else if ¬mo[j].1.asked=i+1 then ⟨s,y,Pe.oths mo,[]⟩ else takeH fit s y ((Pe.oths mo).set j (dropO mo[j].1 i)) (i,t,p)):=rfl
 have HSAME:=hideK (oths_same hj)
 have HDF:=hideK (drop_has mo[j].1 i)
 have HDN:=hideK (fun (h:¬mo[j].1.asked=i+1)=>drop_not h)
 have HDR:=hideK (fun (a:Option Addr) (n c:Nat) V=>drop_spec mo[j].1 a n c i V hi)
 have HPST:=hideK hp
 have hwr:IntKind.i64.wrap (i+1)=i+1:=by rw[IntKind.wrap_i64];omega
 clear hg hft B1 hp
 unfold sayV
 unfold sayO at XB G1
 unfold lV at HFT
 go_enter Tryz.func87,Tryz.ntmps87
 go_upto_region 1 with fail
 generalize W.alloc (.cells #[.int .i64 k,.int .i64 i,.string t,.slice ap p.length cp] 51)=W1 at G1 XB ⊢
 generalize W.heap.size=gm at XB ⊢
 obtain⟨x0,x1,x2,x3⟩:=cells4 XB.out
 obtain⟨c5,d0,d1,d2,d3,d4,ff,hgoz,ax,cx,hxv⟩:=game_five G1.out hj
 have HV2:=hideK hxv
 rw[hxv]at d1
 clear hxv
 have O7:=hideK (heap_alloc_new W1 (.cells #[.string mo[j].1.name,.slice ax mo[j].1.has.length cx,.int .i64 mo[j].1.asked,.int .i64 mo[j].1.age,.int .i64 mo[j].1.strikes] 86))
 have B2:=(Below.refl W1.heap.size W1).alloc (Nat.le_refl _) (.cells #[.string mo[j].1.name,.slice ax mo[j].1.has.length cx,.int .i64 mo[j].1.asked,.int .i64 mo[j].1.age,.int .i64 mo[j].1.strikes] 86)
 have G2:=hideK (G1.out.call B2)
 have X2:=hideK ((B2.block gm (lt_rowK XB.out)).trans XB.out)
 have HNE7:Hid (W1.heap.size≠go):=by unfold Hid;omega
 have HNEM:=hideK (game_ne G1.out XB.out (by decide))
 clear B2 G1 XB
 go_upto_region 2 with fail
 generalize W1.alloc (.cells #[.string mo[j].1.name,.slice ax mo[j].1.has.length cx,.int .i64 mo[j].1.asked,.int .i64 mo[j].1.age,.int .i64 mo[j].1.strikes] 86)=W2 at O7 G2 X2 ⊢
 generalize W1.heap.size=g7 at O7 HNE7 ⊢
 clear c5 d0 d1 d2 d3 d4 ff hgoz x0 x1 x2 x3
 obtain⟨x0,x1,x2,x3⟩:=cells4 X2.out
 obtain⟨f0,f1,f2,f3,f4⟩:=cells5 O7.out
 go_upto_region 3 with fail
 clear x0 x1 x2 x3 f0 f1 f2 f3 f4
 have HC:Hid (∀ V,Below W2.heap.size W2 V->V.cell? ⟨gg,5,none⟩=some (.slice (some ⟨go,0,none⟩) n co)/\V.cell? ⟨go,j*5,none⟩=some (.string mo[j].1.name)/\V.cell? ⟨go,j*5+1,none⟩=some (.slice ax mo[j].1.has.length cx)/\V.cell? ⟨go,j*5+2,none⟩=some (.int .i64 mo[j].1.asked)/\V.cell? ⟨go,j*5+3,none⟩=some (.int .i64 mo[j].1.age)/\V.cell? ⟨go,j*5+4,none⟩=some (.int .i64 mo[j].1.strikes)/\(∀ t,V.frozen? ⟨go,t,none⟩=false)):=fun V hV=>by
  obtain⟨e5,e0,e1,e2,e3,e4,ef,_,_⟩:=game_five (G2.out.call hV) hj
  rw[HV2.out]at e1
  exact⟨e5,e0,e1,e2,e3,e4,ef⟩
 have HX:Hid (∀ V,Below W2.heap.size W2 V->V.cell? ⟨gm,1,none⟩=some (.int .i64 i)/\V.cell? ⟨g7,0,none⟩=some (.string mo[j].1.name)/\V.cell? ⟨g7,1,none⟩=some (.slice ax mo[j].1.has.length cx)/\V.cell? ⟨g7,2,none⟩=some (.int .i64 mo[j].1.asked)/\V.cell? ⟨g7,3,none⟩=some (.int .i64 mo[j].1.age)/\V.cell? ⟨g7,4,none⟩=some (.int .i64 mo[j].1.strikes)):=fun V hV=>by
  obtain⟨_,q1,_,_⟩:=cells4 ((hV.block gm (lt_rowK X2.out)).trans X2.out)
  obtain⟨f0,f1,f2,f3,f4⟩:=cells5 ((hV.block g7 (lt_rowK O7.out)).trans O7.out)
  exact⟨q1,f0,f1,f2,f3,f4⟩
 have HPUT:Hid (∀ V,Below W2.heap.size W2 V->∀ x:Oth,x.has=mo[j].1.has->Game w (put5 V go (j*5) x (.slice ax mo[j].1.has.length cx)) gg z b r s y (some ⟨go,0,none⟩) n co va (mo.set j (x,mo[j].2)) mr/\(put5 V go (j*5) x (.slice ax mo[j].1.has.length cx)).heap[gm]? = some (.cells #[.int .i64 k,.int .i64 i,.string t,.slice ap p.length cp] 51 (0,0))/\(put5 V go (j*5) x (.slice ax mo[j].1.has.length cx)).heap[g7]? = some (.cells #[.string mo[j].1.name,.slice ax mo[j].1.has.length cx,.int .i64 mo[j].1.asked,.int .i64 mo[j].1.age,.int .i64 mo[j].1.strikes] 86 (0,0))):=fun V hV x hx=>by
  refine⟨?_,put5_keep ((hV.block gm (lt_rowK X2.out)).trans X2.out) HNEM.out,put5_keep ((hV.block g7 (lt_rowK O7.out)).trans O7.out) HNE7.out⟩
  have:=game_putS (G2.out.call hV) hj x hx
  rwa[HV2.out]at this ⊢
 generalize hD:dropO mo[j].1 i=D at HDR HDF HDN HPH
 clear hD
 obtain⟨Dn,Dh,Da,Dg,Ds⟩:=D
 obtain⟨hd1,hd2,hd3⟩:=HDF.out
 dsimp only at hd1 hd2 hd3
 subst hd1 hd2 hd3
 unfold othV at HDR
 dsimp only at HDR
 have HDR1:=hideK (HDR.out ax mo[j].1.has.length cx)
 go_cut [8] from 25 to 35 (fun s8 wx=>s8=.bool (mo[j].1.asked==i+1)/\Game w wx gg z b r s y (some ⟨go,0,none⟩) n co va (mo.set j (⟨mo[j].1.name,mo[j].1.has,Da,Dg,mo[j].1.strikes⟩,mo[j].2)) mr/\wx.heap[gm]? = some (.cells #[.int .i64 k,.int .i64 i,.string t,.slice ap p.length cp] 51 (0,0))/\wx.heap[g7]? = some (.cells #[.string mo[j].1.name,.slice ax mo[j].1.has.length cx,.int .i64 mo[j].1.asked,.int .i64 mo[j].1.age,.int .i64 mo[j].1.strikes] 86 (0,0)))
 case first =>
  clear HFT HPH HSAME HDF HDN HPST G2 O7 X2 HDR
  obtain⟨c5,d0,d1,d2,d3,d4,ff⟩:=HC.out W2 (Below.refl _ _)
  obtain⟨x1,f0,f1,f2,f3,f4⟩:=HX.out W2 (Below.refl _ _)
  go_region_law (go_simp;go_at_call 89;(with_reducible refine(HDR1.out _).mono ?_);rintro q v1 ⟨rfl,hb⟩;obtain⟨c5,d0,d1,d2,d3,d4,ff⟩:=HC.out v1 (lowL (lm_drew (Below.refl W2.heap.size W2)) hb);have HG:=hideK (HPUT.out v1 (lowL (lm_drew (Below.refl W2.heap.size W2)) hb) ⟨mo[j].1.name,mo[j].1.has,Da,Dg,mo[j].1.strikes⟩ rfl);clear hb)
  all_goals (try go_wp2_with fail)
  all_goals (go_meet;exact⟨rfl,HG.out⟩)
 case rest =>
  obtain⟨rfl,hG3,hX3,hO3⟩:=hcut
  have HL3:Hid (Below w.heap.size w wc):=hG3.low
  generalize hm3:mo.set j (⟨mo[j].1.name,mo[j].1.has,Da,Dg,mo[j].1.strikes⟩,mo[j].2)=m3 at hG3
  have HG3J:Hid (∃ hj3:j<m3.length,m3[j]=(⟨mo[j].1.name,mo[j].1.has,Da,Dg,mo[j].1.strikes⟩,mo[j].2)):=by
   subst hm3
   exact⟨by rw[List.length_set];exact hj,by simp⟩
  have OS3:Hid (Pe.oths m3=(Pe.oths mo).set j ⟨mo[j].1.name,mo[j].1.has,Da,Dg,mo[j].1.strikes⟩):=by
   subst hm3
   exact oths_set _ _ _
  clear hm3
  have G3:=hideK hG3
  have X3:=hideK hX3
  have O3:=hideK hO3
  clear hG3 hX3 hO3 G2 O7 X2 HC HX HPUT HDR HDR1
  obtain⟨hj3,hg3j⟩:=HG3J.out
  clear HG3J
  have HG3J:=hideK hg3j
  clear hg3j
  have HC3:Hid (∀ V,Game w V gg z b r s y (some ⟨go,0,none⟩) n co va m3 mr->V.cell? ⟨gg,5,none⟩=some (.slice (some ⟨go,0,none⟩) n co)/\V.cell? ⟨go,j*5,none⟩=some (.string mo[j].1.name)/\V.cell? ⟨go,j*5+1,none⟩=some (.slice ax mo[j].1.has.length cx)/\V.cell? ⟨go,j*5+2,none⟩=some (.int .i64 Da)/\V.cell? ⟨go,j*5+3,none⟩=some (.int .i64 Dg)/\V.cell? ⟨go,j*5+4,none⟩=some (.int .i64 mo[j].1.strikes)/\(∀ t,V.frozen? ⟨go,t,none⟩=false)):=fun V hV=>by
   obtain⟨e5,e0,e1,e2,e3,e4,ef,_,_⟩:=game_five hV hj3
   rw[HG3J.out]at e0 e1 e2 e3 e4
   dsimp only at e0 e1 e2 e3 e4
   rw[HV2.out]at e1
   exact⟨e5,e0,e1,e2,e3,e4,ef⟩
  obtain⟨x0,x1,x2,x3⟩:=cells4 X3.out
  have gx1:=fun d os=>cell_regrown x1 d os
  have gx2:=fun d os=>cell_regrown x2 d os
  have gx3:=fun d os=>cell_regrown x3 d os
  have GB:=G3.out.blk
  unfold gmB at GB
  obtain⟨r0,r1,r2,r3,r4,r5,r6⟩:=cellsP7 GB
  have gr0:=fun d os=>cell_regrown r0 d os
  have gr1:=fun d os=>cell_regrown r1 d os
  have gr2:=fun d os=>cell_regrown r2 d os
  have HFT3:Hid (∀ V,Below wc.heap.size wc V->Calls Tryz.prog 104 #[.agg #[.int .i64 z,.int .i64 b,.string r],.int .i64 i,.string t,.slice ap p.length cp] V fun q v'=>q=.returned (.bool (fb (i,t,p)))/\Below V.heap.size V v'):=fun V hV=>HFT.out V (lowL HL3.out hV)
  clear HFT GB HL3
  go_upto_region 4 with fail
  cases hfb:fb (i,t,p) with
  |false =>
   rw[hfb]at HFT3
   rw[hfb,if_pos rfl]at HPH
   refine wp_region_quiet_below (by assumption) (by kernel_rfl) ?_
   repeat (go_big_quiet_step ((go_at_call 104;exact Calls.regrown_of (HFT3.out _ (below_regrown _ _ _)))))
   refine wpQuiet_nil ?_
   intro _ hw'
   obtain⟨⟨dq,osq⟩,hw''⟩:=hw'
   subst hw''
   have G4:=hideK (G3.out.call (below_regrown wc dq osq))
   have X4:=hideK (((below_regrown wc dq osq).block gm (lt_rowK X3.out)).trans X3.out)
   have O4:=hideK (((below_regrown wc dq osq).block g7 (lt_rowK O3.out)).trans O3.out)
   generalize Go.Sort.grow (redrawn wc dq) osq=w4 at G4 X4 O4 ⊢
   clear gx1 gx2 gx3 gr0 gr1 gr2 x0 x1 x2 x3 r0 r1 r2 r3 r4 r5 r6 HFT3 G3 X3 O3
   have HSP:=hideK (fun a n c V=>strike_spec ⟨mo[j].1.name,mo[j].1.has,Da,Dg,mo[j].1.strikes⟩ a n c V hs0 hs1)
   have HSH:Hid ((mo[j].1.strikes+1=3->(strikeO ⟨mo[j].1.name,mo[j].1.has,Da,Dg,mo[j].1.strikes⟩).has=[])/\(¬mo[j].1.strikes+1=3->(strikeO ⟨mo[j].1.name,mo[j].1.has,Da,Dg,mo[j].1.strikes⟩).has=mo[j].1.has)):=by
    unfold strikeO
    dsimp only
    exact⟨fun h=>by rw[if_pos h],fun h=>by rw[if_neg h]⟩
   generalize strikeO ⟨mo[j].1.name,mo[j].1.has,Da,Dg,mo[j].1.strikes⟩=S at HSP HPH HSH
   obtain⟨Sn,Sh,Sa,Sg,Ss⟩:=S
   unfold othV at HSP
   dsimp only at HSP HSH
   by_cases h3y:mo[j].1.strikes+1=3
   ·have hSh:=HSH.out.1 h3y
    clear HSH
    have HPUT4:Hid (∀ V,Below w4.heap.size w4 V->Game w (put5 V go (j*5) ⟨Sn,Sh,Sa,Sg,Ss⟩ (.slice none 0 0)) gg z b r s y (some ⟨go,0,none⟩) n co va (m3.set j (⟨Sn,Sh,Sa,Sg,Ss⟩,(.slice none 0 0))) mr):=fun V hV=>game_putV (G4.out.call hV) hj3 _ _ (by rw[hSh];exact OwnI.nil _ _) (fun t _ _ k hk=>by simp[Value.ownBlock]at hk)
    have HSK:Hid (∀ V,Calls Tryz.prog 119 #[.agg #[.string mo[j].1.name,.slice ax mo[j].1.has.length cx,.int .i64 Da,.int .i64 Dg,.int .i64 mo[j].1.strikes]] V fun e w'=>e=.returned (.agg #[.string Sn,(.slice none 0 0),.int .i64 Sa,.int .i64 Sg,.int .i64 Ss])/\Below V.heap.size V w'):=fun V=>(HSP.out ax mo[j].1.has.length cx V).mono fun e w' h=>by
     obtain⟨⟨v,he,hv⟩,hb⟩:=h
     rcases hv with⟨h3,rfl⟩|⟨h3,rfl⟩
     ·exact⟨he,hb⟩
     ·exact absurd h3y h3
    have HCE:Hid (∀ V,Below w4.heap.size w4 V->V.cell? ⟨gg,5,none⟩=some (.slice (some ⟨go,0,none⟩) n co)/\V.cell? ⟨go,j*5,none⟩=some (.string mo[j].1.name)/\V.cell? ⟨go,j*5+1,none⟩=some (.slice ax mo[j].1.has.length cx)/\V.cell? ⟨go,j*5+2,none⟩=some (.int .i64 Da)/\V.cell? ⟨go,j*5+3,none⟩=some (.int .i64 Dg)/\V.cell? ⟨go,j*5+4,none⟩=some (.int .i64 mo[j].1.strikes)/\(∀ t,V.frozen? ⟨go,t,none⟩=false)):=fun V hV=>HC3.out V (G4.out.call hV)
    have HEND:Hid (∀ V,Game w V gg z b r s y (some ⟨go,0,none⟩) n co va (m3.set j (⟨Sn,Sh,Sa,Sg,Ss⟩,(.slice none 0 0))) mr->GEnd w gg z b r (pieceH fit fb s y (Pe.oths mo) j mo[j].1 (i,t,p)) (.returned (.slice none 0 0)) V):=fun V h=>by
     have h4:=game_end h
     rw[oths_set,OS3.out,List.set_set]at h4
     rw[HPH.out]
     exact h4
    clear G4 X4 O4 HC3 HSP OS3 HPH HSAME HDF HDN HPST HG3J
    go_upto_region 5 with fail
    go_cut [8] from 50 to 65 (fun s8 wx=>s8=.bool (mo[j].1.asked==i+1)/\Game w wx gg z b r s y (some ⟨go,0,none⟩) n co va (m3.set j (⟨Sn,Sh,Sa,Sg,Ss⟩,(.slice none 0 0))) mr)
    case first =>
     obtain⟨c5,d0,d1,d2,d3,d4,ff⟩:=HCE.out w4 (Below.refl _ _)
     clear HEND
     go_region_law (go_simp;go_at_call 119;(with_reducible refine(HSK.out _).mono ?_);rintro q v1 ⟨rfl,hb⟩;obtain⟨c5,d0,d1,d2,d3,d4,ff⟩:=HCE.out v1 (lowL (lm_drew (Below.refl w4.heap.size w4)) hb);have HG:=hideK (HPUT4.out v1 (lowL (lm_drew (Below.refl w4.heap.size w4)) hb));clear hb)
     all_goals (try go_wp2_with fail)
     all_goals (go_meet;exact⟨rfl,HG.out⟩)
    case rest =>
     obtain⟨rfl,h⟩:=hcut
     have HE:=hideK (HEND.out _ h)
     clear h HEND HCE HSK HPUT4
     go_wp2_with fail
     go_ret
     exact HE.out
   ·have hSh:=HSH.out.2 h3y
    clear HSH
    have HPUT4:Hid (∀ V,Below w4.heap.size w4 V->Game w (put5 V go (j*5) ⟨Sn,Sh,Sa,Sg,Ss⟩ (.slice ax mo[j].1.has.length cx)) gg z b r s y (some ⟨go,0,none⟩) n co va (m3.set j (⟨Sn,Sh,Sa,Sg,Ss⟩,(.slice ax mo[j].1.has.length cx))) mr):=fun V hV=>by
     have:=game_putS (G4.out.call hV) hj3 ⟨Sn,Sh,Sa,Sg,Ss⟩ (by rw[HG3J.out];exact hSh)
     rw[HG3J.out,HV2.out]at this
     exact this
    have HSK:Hid (∀ V,Calls Tryz.prog 119 #[.agg #[.string mo[j].1.name,.slice ax mo[j].1.has.length cx,.int .i64 Da,.int .i64 Dg,.int .i64 mo[j].1.strikes]] V fun e w'=>e=.returned (.agg #[.string Sn,(.slice ax mo[j].1.has.length cx),.int .i64 Sa,.int .i64 Sg,.int .i64 Ss])/\Below V.heap.size V w'):=fun V=>(HSP.out ax mo[j].1.has.length cx V).mono fun e w' h=>by
     obtain⟨⟨v,he,hv⟩,hb⟩:=h
     rcases hv with⟨h3,rfl⟩|⟨h3,rfl⟩
     ·exact absurd h3 h3y
     ·exact⟨he,hb⟩
    have HCE:Hid (∀ V,Below w4.heap.size w4 V->V.cell? ⟨gg,5,none⟩=some (.slice (some ⟨go,0,none⟩) n co)/\V.cell? ⟨go,j*5,none⟩=some (.string mo[j].1.name)/\V.cell? ⟨go,j*5+1,none⟩=some (.slice ax mo[j].1.has.length cx)/\V.cell? ⟨go,j*5+2,none⟩=some (.int .i64 Da)/\V.cell? ⟨go,j*5+3,none⟩=some (.int .i64 Dg)/\V.cell? ⟨go,j*5+4,none⟩=some (.int .i64 mo[j].1.strikes)/\(∀ t,V.frozen? ⟨go,t,none⟩=false)):=fun V hV=>HC3.out V (G4.out.call hV)
    have HEND:Hid (∀ V,Game w V gg z b r s y (some ⟨go,0,none⟩) n co va (m3.set j (⟨Sn,Sh,Sa,Sg,Ss⟩,(.slice ax mo[j].1.has.length cx))) mr->GEnd w gg z b r (pieceH fit fb s y (Pe.oths mo) j mo[j].1 (i,t,p)) (.returned (.slice none 0 0)) V):=fun V h=>by
     have h4:=game_end h
     rw[oths_set,OS3.out,List.set_set]at h4
     rw[HPH.out]
     exact h4
    clear G4 X4 O4 HC3 HSP OS3 HPH HSAME HDF HDN HPST HG3J
    go_upto_region 5 with fail
    go_cut [8] from 50 to 65 (fun s8 wx=>s8=.bool (mo[j].1.asked==i+1)/\Game w wx gg z b r s y (some ⟨go,0,none⟩) n co va (m3.set j (⟨Sn,Sh,Sa,Sg,Ss⟩,(.slice ax mo[j].1.has.length cx))) mr)
    case first =>
     obtain⟨c5,d0,d1,d2,d3,d4,ff⟩:=HCE.out w4 (Below.refl _ _)
     clear HEND
     go_region_law (go_simp;go_at_call 119;(with_reducible refine(HSK.out _).mono ?_);rintro q v1 ⟨rfl,hb⟩;obtain⟨c5,d0,d1,d2,d3,d4,ff⟩:=HCE.out v1 (lowL (lm_drew (Below.refl w4.heap.size w4)) hb);have HG:=hideK (HPUT4.out v1 (lowL (lm_drew (Below.refl w4.heap.size w4)) hb));clear hb)
     all_goals (try go_wp2_with fail)
     all_goals (go_meet;exact⟨rfl,HG.out⟩)
    case rest =>
     obtain⟨rfl,h⟩:=hcut
     have HE:=hideK (HEND.out _ h)
     clear h HEND HCE HSK HPUT4
     go_wp2_with fail
     go_ret
     exact HE.out
  |true =>
   rw[hfb]at HFT3
   rw[hfb,if_neg (by decide)]at HPH
   refine wp_region_quiet_below (by assumption) (by kernel_rfl) ?_
   repeat (go_big_quiet_step ((go_at_call 104;exact Calls.regrown_of (HFT3.out _ (below_regrown _ _ _)))))
   refine wpQuiet_nil ?_
   intro _ hw'
   obtain⟨⟨dq,osq⟩,hw''⟩:=hw'
   subst hw''
   have G4:=hideK (G3.out.call (below_regrown wc dq osq))
   have X4:=hideK (((below_regrown wc dq osq).block gm (lt_rowK X3.out)).trans X3.out)
   have O4:=hideK (((below_regrown wc dq osq).block g7 (lt_rowK O3.out)).trans O3.out)
   generalize Go.Sort.grow (redrawn wc dq) osq=w4 at G4 X4 O4 ⊢
   clear gx1 gx2 gx3 gr0 gr1 gr2 x0 x1 x2 x3 r0 r1 r2 r3 r4 r5 r6 HFT3 G3 X3 O3
   by_cases hq:mo[j].1.asked=i+1
   ·have hqb:(mo[j].1.asked==i+1)=true:=beq_iff_eq.2 hq
    rw[if_neg (fun h=>h hq)]at HPH
    rw[hqb]
    clear hq hqb
    have HB4:=hideK G4.out.low
    have HNA:Hid (ap=none->p.length=0/\cp=0):=fun h=>by have:=hap h;omega
    have HNW:Hid (∀ V,Below w4.heap.size w4 V->∀ d,ap=some d->∀ j u,(p.map Value.string)[j]? = some u->V.cell? (d.add j)=some u):=fun V hV=>newsS (HPST.out.below (lowL HB4.out hV))
    obtain⟨i0,hif,hz0,hz1,hz2⟩:=info_parts St.Tryz.infoS9
    obtain⟨hsz1,hsz2⟩:=hsm hfb
    obtain⟨x0,x1,x2,x3⟩:=cells4 X4.out
    go_upto_region 10 with fail
    go_cut [9] from 76 to 84 (fun s9 wx=>∃ (g9:Nat) (a9:Option Addr) (c9:Nat),s9=.pointer (some ⟨g9,0,none⟩)/\wx.heap[g9]? = some (.cells #[.int .i64 i,.string t,.slice a9 p.length c9] 139 (0,0))/\PathO w4.heap.size wx (.slice a9 p.length c9) p/\Below w4.heap.size w4 wx)
    case first =>
     have CX:Hid (∀ V,Below w4.heap.size w4 V->V.cell? ⟨gm,1,none⟩=some (.int .i64 i)/\V.cell? ⟨gm,2,none⟩=some (.string t)/\V.cell? ⟨gm,3,none⟩=some (.slice ap p.length cp)):=fun V hV=>by
      obtain⟨_,q1,q2,q3⟩:=cells4 ((hV.block gm (lt_rowK X4.out)).trans X4.out)
      exact⟨q1,q2,q3⟩
     clear G4 X4 O4 HC3 OS3 HPH HSAME HDF HDN HPST HG3J
     have hS0:=CX.out _ (lm_drew (Below.refl w4.heap.size w4))
     go_region_held3 (fun V=>V.cell? ⟨gm,1,none⟩=some (.int .i64 i)/\V.cell? ⟨gm,2,none⟩=some (.string t)/\V.cell? ⟨gm,3,none⟩=some (.slice ap p.length cp)) (first|(with_reducible assumption)|exact CX.out _ (by repeat (first|with_reducible exact B8.out|with_reducible exact Below.refl _ _|with_reducible refine lm_alloc ?_ _|with_reducible refine lm_drew ?_|with_reducible refine lm_set ?_ (Nat.le_refl _) _|with_reducible refine lm_set ?_ (Nat.le_succ _) _)))
      (first
       |(refine step_append_opt rfl (.tmp 80) (.tmp 82) 46 rfl w4.heap.size 9 i0 (.string ⟨#[]⟩) 1 16 Tryz.underlying46 hif hz0 hz1 hz2 rfl (by decide) (.slice (some ⟨w4.heap.size,0,none⟩) 0 0) 0 [] rfl (by with_reducible exact emptyAtD (heap_alloc_new w4 _) (Nat.le_refl _)) ap p.length cp HNA.out (p.map Value.string) rfl (by rw[List.length_map,Nat.mul_one]) (HNW.out ((w4.alloc (.cells #[] 9)).drew) (by with_reducible exact lm_drew (lm_alloc (Below.refl w4.heap.size w4) _))) (map_one1 p) (by unfold maxLen;omega) (by omega) (by simp<;>omega) ?_;intro v8 w8 hown8 hgrow8;obtain⟨⟨a8,c8,hv8⟩,hO8,hB8⟩:=path_app (X:=((w4.alloc (.cells #[] 9)).drew)) (lm_drew (lm_alloc (Below.refl w4.heap.size w4) _)) (by omega) hown8 hgrow8;subst hv8;have O8:=hideK hO8;have B8:=hideK hB8;clear hO8 hB8 hown8 hgrow8)
       |(refine step_append_opt rfl (.tmp 80) (.tmp 82) 46 rfl w4.heap.size 9 i0 (.string ⟨#[]⟩) 1 16 Tryz.underlying46 hif hz0 hz1 hz2 rfl (by decide) (.slice (some ⟨w4.heap.size,0,none⟩) 0 0) 0 [] rfl (by with_reducible exact emptyAtD (lit_new2 w4 _ _) (Nat.le_refl _)) ap p.length cp HNA.out (p.map Value.string) rfl (by rw[List.length_map,Nat.mul_one]) (HNW.out (((w4.alloc (.cells #[] 9)).alloc (.cells #[.int .i64 0,.string ⟨#[]⟩,.slice none 0 0] 139)).drew) (by with_reducible exact lm_drew (lm_alloc (lm_alloc (Below.refl w4.heap.size w4) _) _))) (map_one1 p) (by unfold maxLen;omega) (by omega) (by simp<;>omega) ?_;intro v8 w8 hown8 hgrow8;obtain⟨⟨a8,c8,hv8⟩,hO8,hB8⟩:=path_app (X:=(((w4.alloc (.cells #[] 9)).alloc (.cells #[.int .i64 0,.string ⟨#[]⟩,.slice none 0 0] 139)).drew)) (lm_drew (lm_alloc (lm_alloc (Below.refl w4.heap.size w4) _) _)) (by omega) hown8 hgrow8;subst hv8;have O8:=hideK hO8;have B8:=hideK hB8;have R8:Hid (w8.heap[w4.heap.size+1]? = some (.cells #[.int .i64 0,.string ⟨#[]⟩,.slice none 0 0] 139 (0,0))):=(hgrow8.block (w4.heap.size+1) (by simp<;>omega) (by simp[Value.ownBlock])).trans (rec_new2 w4 _ _);obtain⟨z0,z1,z2⟩:=cells3 R8.out;have zf:=fun o=>frozen_of_row w8 (w4.heap.size+1) o _ _ R8.out;clear hO8 hB8 hown8 hgrow8)
       |(refine step_append_opt rfl (.tmp 80) (.tmp 82) 46 rfl w4.heap.size 9 i0 (.string ⟨#[]⟩) 1 16 Tryz.underlying46 hif hz0 hz1 hz2 rfl (by decide) (.slice (some ⟨w4.heap.size+1,0,none⟩) 0 0) 0 [] rfl (by with_reducible exact emptyAtD (rec_new2 w4 _ _) (Nat.le_succ _)) ap p.length cp HNA.out (p.map Value.string) rfl (by rw[List.length_map,Nat.mul_one]) (HNW.out (((w4.alloc (.cells #[.int .i64 0,.string ⟨#[]⟩,.slice none 0 0] 139)).alloc (.cells #[] 9)).drew) (by with_reducible exact lm_drew (lm_alloc (lm_alloc (Below.refl w4.heap.size w4) _) _))) (map_one1 p) (by unfold maxLen;omega) (by omega) (by simp<;>omega) ?_;intro v8 w8 hown8 hgrow8;obtain⟨⟨a8,c8,hv8⟩,hO8,hB8⟩:=path_app (X:=(((w4.alloc (.cells #[.int .i64 0,.string ⟨#[]⟩,.slice none 0 0] 139)).alloc (.cells #[] 9)).drew)) (lm_drew (lm_alloc (lm_alloc (Below.refl w4.heap.size w4) _) _)) (by omega) hown8 hgrow8;subst hv8;have O8:=hideK hO8;have B8:=hideK hB8;have R8:Hid (w8.heap[w4.heap.size]? = some (.cells #[.int .i64 0,.string ⟨#[]⟩,.slice none 0 0] 139 (0,0))):=(hgrow8.block w4.heap.size (by simp<;>omega) (by simp[Value.ownBlock])).trans (lit_new2 w4 _ _);obtain⟨z0,z1,z2⟩:=cells3 R8.out;have zf:=fun o=>frozen_of_row w8 (w4.heap.size) o _ _ R8.out;clear hO8 hB8 hown8 hgrow8))
     all_goals (try go_wp2_with fail)
     all_goals (first
      |(go_meet;exact⟨w8.heap.size,a8,c8,rfl,heap_alloc_new w8 _,O8.out.keeps (KeepsS.below (lm_alloc (Below.refl _ _) _)),lm_alloc B8.out _⟩)
      |(go_meet;exact⟨w4.heap.size,a8,c8,rfl,(set_j3 (set_j3 (set_j3 R8.out _).1 _).2.1 _).2.2,O8.out.keeps (KeepsS.set3 R8.out (by decide) _ _ _),set3_low B8.out (Nat.le_refl _) _ _ _⟩)
      |(go_meet;exact⟨w4.heap.size+1,a8,c8,rfl,(set_j3 (set_j3 (set_j3 R8.out _).1 _).2.1 _).2.2,O8.out.keeps (KeepsS.set3 R8.out (by decide) _ _ _),set3_low B8.out (Nat.le_succ _) _ _ _⟩))
    case rest =>
     obtain⟨g9,a9,c9,rfl,hb9,hp9,hl9⟩:=hcut
     have G9:=hideK (G4.out.call hl9)
     have X9:=hideK ((hl9.block gm (lt_rowK X4.out)).trans X4.out)
     have B9:=hideK hb9
     have P9:=hideK hp9
     have LC9:=hideK (lowL HB4.out hl9)
     have HST3:Hid (∀ o∈Pe.oths m3,o.strikes<=3):=by
      rw[OS3.out]
      intro o ho
      rcases List.mem_or_eq_of_mem_set ho with ho|rfl
      ·exact hst o ho
      ·dsimp only
       omega
     have HADD:Hid (∀ V,Below wc.heap.size wc V->Calls Tryz.prog 120 #[kV z b r s y,va,.agg #[.int .i64 i,.string t,.slice a9 p.length c9]] V fun e w'=>e=.returned (addS fit z b r s y (recs mr) (i,t,p))/\Below V.heap.size V w'):=fun V hV=>l08Add_any fit z b r s y w.heap.size va mr ((i,t,p),.slice a9 p.length c9) V hs8 (by omega) (G9.out.call hV).rrow hsz1 (by dsimp only;omega) (by
      obtain⟨a',c',hv',h1',h2'⟩:=(hp9.keeps (KeepsS.below hV)).strs
      exact⟨a',c',hv',h1',h2'⟩) (hf.later (lowL LC9.out hV)) hff
     have HAF:=hideK (fun hq:fullB fit s (i,t,p)=true=>addS_full (z:=z) (b:=b) (r:=r) (y:=y) (x:=(i,t,p)) hq)
     have HAR:=hideK (fun hq:fullB fit s (i,t,p)=false=>addS_room (z:=z) (b:=b) (r:=r) (y:=y) (x:=(i,t,p)) hq)
     rw[hrs]at HADD
     obtain⟨az,ab,ar,as0,ay,ac,hav⟩:=addS_out fit z b r s y (allR fit s).1 (i,t,p)
     unfold koV at HAF HAR hav
     unfold kV at HADD
     generalize addS fit z b r s y (allR fit s).1 (i,t,p)=AV at HADD HAF HAR hav
     subst hav
     clear hb9 hp9 hl9 G4 X4 O4 HC3 HSAME HDF HDN HPST HG3J HB4 HNA HNW hf hst
     have GB:=hideK G9.out.blk
     unfold gmB at GB
     have CW:Hid (∀ V,Below wc.heap.size wc V->V.cell? ⟨gg,0,none⟩=some (.int .i64 z)/\V.cell? ⟨gg,1,none⟩=some (.int .i64 b)/\V.cell? ⟨gg,2,none⟩=some (.string r)/\V.cell? ⟨gg,3,none⟩=some (.string s)/\V.cell? ⟨gg,4,none⟩=some (.int .i64 y)/\V.cell? ⟨gg,6,none⟩=some va/\V.cell? ⟨g9,0,none⟩=some (.int .i64 i)/\V.cell? ⟨g9,1,none⟩=some (.string t)/\V.cell? ⟨g9,2,none⟩=some (.slice a9 p.length c9)):=fun V h=>by
      obtain⟨q0,q1,q2⟩:=cells3 ((h.block g9 (lt_rowK B9.out)).trans B9.out)
      obtain⟨r0,r1,r2,r3,r4,_,r6⟩:=cellsP7 ((h.block gg (lt_rowK GB.out)).trans GB.out)
      exact⟨r0,r1,r2,r3,r4,r6,q0,q1,q2⟩
     go_upto_region 11 with fail
     go_cut [10] from 85 to 95 (fun s10 wx=>∃ g10:Nat,s10=.pointer (some ⟨g10,0,none⟩)/\wc.heap.size<=g10/\Below wc.heap.size wc wx/\wx.heap[g10]? = some (.cells #[.int .i64 az,.int .i64 ab,.string ar,.string as0,.int .i64 ay,.int .i64 ac] 171 (0,0)))
     case first =>
      clear G9 X9 P9 LC9 HST3 HAF HAR GB OS3 HPH B9
      have hS0:=CW.out _ (lm_drew (Below.refl wc.heap.size wc))
      go_region_held3 (fun V=>V.cell? ⟨gg,0,none⟩=some (.int .i64 z)/\V.cell? ⟨gg,1,none⟩=some (.int .i64 b)/\V.cell? ⟨gg,2,none⟩=some (.string r)/\V.cell? ⟨gg,3,none⟩=some (.string s)/\V.cell? ⟨gg,4,none⟩=some (.int .i64 y)/\V.cell? ⟨gg,6,none⟩=some va/\V.cell? ⟨g9,0,none⟩=some (.int .i64 i)/\V.cell? ⟨g9,1,none⟩=some (.string t)/\V.cell? ⟨g9,2,none⟩=some (.slice a9 p.length c9)) (first|(with_reducible assumption)|exact CW.out _ (by repeat (first|with_reducible exact KV.out|with_reducible exact Below.refl _ _|with_reducible refine lm_alloc ?_ _|with_reducible refine lm_drew ?_|with_reducible refine lm_set ?_ (Nat.le_refl _) _)))
       (first
        |(go_at_call 120;(with_reducible refine(HADD.out ((wc.alloc (.cells #[.int .i64 0,.int .i64 0,.string ⟨#[]⟩,.string ⟨#[]⟩,.int .i64 0,.int .i64 0] 171)).drew) (lm_drew (lm_alloc (Below.refl _ _) _))).mono ?_);rintro q v1 ⟨rfl,hb⟩;have KV:=hideK (lowL (lm_drew (lm_alloc (Below.refl wc.heap.size wc) (.cells #[.int .i64 0,.int .i64 0,.string ⟨#[]⟩,.string ⟨#[]⟩,.int .i64 0,.int .i64 0] 171))) hb);have NZ:Hid (v1.heap[wc.heap.size]? = some (.cells #[.int .i64 0,.int .i64 0,.string ⟨#[]⟩,.string ⟨#[]⟩,.int .i64 0,.int .i64 0] 171 (0,0))):=(hb.block _ (by simp)).trans (heap_alloc_new wc _);obtain⟨z0,z1,z2,z3,z4,z5⟩:=cells6 NZ.out;have zf:=fun o=>frozen_of_row v1 wc.heap.size o _ _ NZ.out;clear hb)
        |(go_at_call 120;(with_reducible refine(HADD.out (wc.drew) (lm_drew (Below.refl _ _))).mono ?_);rintro q v1 ⟨rfl,hb⟩;have KV:=hideK (lowL (lm_drew (Below.refl wc.heap.size wc)) hb);clear hb))
      all_goals (try go_wp2_with fail)
      all_goals (first|(have hz:=ans6 NZ.out KV.out (Nat.le_refl _) (.int .i64 az) (.int .i64 ab) (.string ar) (.string as0) (.int .i64 ay) (.int .i64 ac);go_meet;exact⟨wc.heap.size,rfl,Nat.le_refl _,hz.1,hz.2⟩)|(go_meet;exact⟨v1.heap.size,rfl,KV.out.size,lm_alloc KV.out _,heap_alloc_new v1 _⟩))
     case rest =>
      obtain⟨g10,rfl,hge,hlo,hg10⟩:=hcut
      have hge10:w.heap.size<=g10:=Nat.le_trans G9.out.low.size hge
      clear hge
      have G11:=hideK (G9.out.call hlo)
      have X11:=hideK ((hlo.block gm (lt_rowK X9.out)).trans X9.out)
      have B11:=hideK ((hlo.block g9 (lt_rowK B9.out)).trans B9.out)
      have P11:=hideK (P9.out.keeps (KeepsS.below hlo))
      have Y11:=hideK hg10
      clear hlo hg10 G9 X9 B9 P9 LC9 HADD CW GB
      obtain⟨y0,y1,y2,y3,y4,y5⟩:=cells6 Y11.out
      cases hq:fullB fit s (i,t,p) with
      |true =>
       obtain⟨c,hc0,hav⟩:=HAF.out hq
       simp only[Value.agg.injEq,Array.mk.injEq,List.cons.injEq,Value.int.injEq,Value.string.injEq,and_true,true_and]at hav
       obtain⟨_,_,_,_,_,hacc⟩:=hav
       have hne:(ac != 0)=true:=by simp;exact fun e'=>hc0 (by rw[<-hacc];exact e')
       have HE:Hid (GEnd w gg z b r (pieceH fit fb s y (Pe.oths mo) j mo[j].1 (i,t,p)) (.returned (.slice none 0 0)) wc):=by
        have h4:=game_end G11.out
        rw[OS3.out]at h4
        unfold Hid
        rw[HPH.out]
        unfold takeH
        rw[if_pos hq]
        exact h4
       clear hc0 hacc HAF HAR hq G11 X11 B11 P11 Y11 HPH OS3 HST3
       go_wp2_with fail
       go_ret
       exact HE.out
      |false =>
       obtain⟨hav,hs88⟩:=HAR.out hq
       rw[hq]at HAF
       simp only[Value.agg.injEq,Array.mk.injEq,List.cons.injEq,Value.int.injEq,Value.string.injEq,and_true,true_and]at hav
       obtain⟨rfl,rfl,rfl,rfl,rfl,rfl⟩:=hav
       have HTK:Hid (takeH fit s ay (Pe.oths m3) (i,t,p)=⟨s++recT (i,t,p),(s++recT (i,t,p)).size,Pe.oths m3,tellL (Pe.oths m3) i⟩):=by
        unfold Hid takeH
        rw[if_neg (by rw[hq];decide)]
       rw[<-OS3.out]at HPH
       rw[HTK.out]at HPH
       clear HAF HAR hq OS3 HTK
       generalize s++recT (i,t,p)=L at *
       generalize hLZ:((L.size:Nat):Int)=Lz at *
       have hLZ':IntKind.i64.wrap Lz=Lz:=by rw[IntKind.wrap_i64];omega
       have GB:=hideK G11.out.blk
       unfold gmB at GB
       obtain⟨r0,r1,r2,r3,r4,r5,r6⟩:=cellsP7 GB.out
       have hneA:gg≠g10:=ty_ne GB.out Y11.out (by decide)
       have hneB:g10≠gg:=fun h=>hneA h.symm
       have ffy:=fun o=>frozen_of_row wc g10 o _ _ Y11.out
       have ffg:=fun o=>frozen_of_row wc gg o _ _ GB.out
       have G15:=hideK (game_setG G11.out Y11.out hge10 az ab ar L Lz)
       have X15:=hideK (setG_keep X11.out (ty_ne X11.out Y11.out (by decide)) (ty_ne X11.out GB.out (by decide)) az ab ar L Lz)
       have B15:=hideK (setG_keep B11.out (ty_ne B11.out Y11.out (by decide)) (ty_ne B11.out GB.out (by decide)) az ab ar L Lz)
       have P15:Hid (PathO w4.heap.size ((((((wc.setCell ⟨g10,4,none⟩ (.int .i64 Lz)).setCell ⟨gg,0,none⟩ (.int .i64 az)).setCell ⟨gg,1,none⟩ (.int .i64 ab)).setCell ⟨gg,2,none⟩ (.string ar)).setCell ⟨gg,3,none⟩ (.string L)).setCell ⟨gg,4,none⟩ (.int .i64 Lz)) (.slice a9 p.length c9) p):=P11.out.keeps (fun k cur hk=>setG_keep hk (ty_ne hk Y11.out (by decide)) (ty_ne hk GB.out (by decide)) az ab ar L Lz)
       go_upto_region 16 with fail
       generalize ((((((wc.setCell ⟨g10,4,none⟩ (.int .i64 Lz)).setCell ⟨gg,0,none⟩ (.int .i64 az)).setCell ⟨gg,1,none⟩ (.int .i64 ab)).setCell ⟨gg,2,none⟩ (.string ar)).setCell ⟨gg,3,none⟩ (.string L)).setCell ⟨gg,4,none⟩ (.int .i64 Lz))=w6 at G15 X15 B15 P15 ⊢
       clear hneA hneB ffy ffg r0 r1 r2 r3 r4 r5 r6 y0 y1 y2 y3 y4 y5 GB G11 X11 B11 P11 Y11 hge10 hif hz0 hz1 hz2
       obtain⟨i0,hif,hz0,hz1,hz2⟩:=info_parts Kp.Tryz.infoRecordS
       have GB:=hideK G15.out.blk
       unfold gmB at GB
       obtain⟨r0,r1,r2,r3,r4,r5,r6⟩:=cellsP7 GB.out
       obtain⟨q0,q1,q2⟩:=cells3 B15.out
       have ROW:Hid (Own0 ((w6.alloc (.cells #[.int .i64 i,.string t,.slice a9 p.length c9] 139)).drew) w.heap.size 139 3 va mr.length (cellsR mr)):=G15.out.rrow.below (lm_drew (lm_alloc (Below.refl _ _) _))
       have GA:=hideK (G15.out.call (lm_drew (lm_alloc (Below.refl w6.heap.size w6) (.cells #[.int .i64 i,.string t,.slice a9 p.length c9] 139))))
       have PA:Hid (PathIn ((w6.alloc (.cells #[.int .i64 i,.string t,.slice a9 p.length c9] 139)).drew) (.slice a9 p.length c9) p):=pathIn_own (P15.out.keeps (KeepsS.below (lm_drew (lm_alloc (Below.refl w6.heap.size w6) _))))
       have XA:Hid (((w6.alloc (.cells #[.int .i64 i,.string t,.slice a9 p.length c9] 139)).drew).heap[gm]? = _):=((lm_drew (lm_alloc (Below.refl w6.heap.size w6) _)).block gm (lt_rowK X15.out)).trans X15.out
       obtain⟨_,_,_,_,_,_,ra6⟩:=cellsP7 (show (w6.alloc (.cells #[.int .i64 i,.string t,.slice a9 p.length c9] 139)).heap[gg]? = _ from GA.out.blk)
       have hzw:w.heap.size<=w6.heap.size+1:=Nat.le_succ_of_le G15.out.low.size
       go_region_law (refine step_append_own0k rfl (.tmp 115) (.tmp 117) 67 rfl w.heap.size 139 i0 _ 3 48 Tryz.underlying67 hif hz0 hz1 hz2 rfl (by decide) va mr.length (cellsR mr) rfl ROW.out ⟨w6.heap.size,0,none⟩ 1 1 [.int .i64 i,.string t,.slice a9 p.length c9] rfl rfl (three_new w6 _ _ _ _) (three_one rfl rfl rfl) (by decide) (by unfold maxLen;omega) (by omega) (by simp<;>omega) ?_;intro v8 w8 hown8 hbel8 hke8;have G8:=hideK (game_putA (x:=(i,t,p)) GA.out PA.out hown8 hbel8 hke8);have X8:=hideK (hke8 gm _ _ (by decide) XA.out);have GB8:=hideK (hke8 gg _ _ (by decide) GA.out.blk);clear hown8 hbel8 hke8;obtain⟨a8,c8,hv8,_⟩:=G8.out.rrow.one;rw[List.length_append]at hv8;simp only[List.length_cons,List.length_nil,Nat.zero_add]at hv8;subst hv8;obtain⟨k0,k1,k2,k3,k4,k5,k6⟩:=cellsP7 GB8.out;have ffg:=fun o=>frozen_of_row w8 gg o _ _ GB8.out;obtain⟨_,gx1,_,_⟩:=cells4 X8.out)
       all_goals (try go_wp2_with fail)
       all_goals (
        refine(tell_spec w _ gg az ab ar L Lz (some ⟨go,0,none⟩) n co _ m3 _ i G8.out (game_len G8.out) hn HST3.out).mono ?_
        rintro q9 w9 ⟨vs,ms,rfl,hle,hsn,hb9⟩
        have HE:Hid (GEnd w gg az ab ar (pieceH fit fb s ay (Pe.oths mo) j mo[j].1 (i,t,p)) (.returned vs) w9):=by
         unfold Hid
         rw[HPH.out,<-hsn]
         exact game_lets G8.out hb9 hle
        clear hle hsn hb9 G8 X8 GB8 k0 k1 k2 k3 k4 k5 k6 ffg gx1 GA PA XA ROW G15 X15 B15 P15 GB r0 r1 r2 r3 r4 r5 r6 q0 q1 q2 ra6
        go_wp2_with fail
        go_ret
        exact HE.out)
   ·have hqb:(mo[j].1.asked==i+1)=false:=by simp[hq]
    rw[if_pos hq]at HPH
    rw[hqb]
    have hdd:=HDN.out hq
    have NX:Hid (GEnd w gg z b r (pieceH fit fb s y (Pe.oths mo) j mo[j].1 (i,t,p)) (.returned (.slice none 0 0)) ((put5 w4 go (j*5) mo[j].1 (.slice ax mo[j].1.has.length cx)).drew)):=by
     have h1:=game_putS G4.out hj3 mo[j].1 (by rw[HG3J.out])
     rw[HG3J.out,HV2.out]at h1
     have h2:=game_end (h1.call ((Below.refl _ _).drew))
     rw[oths_set,OS3.out,List.set_set,HSAME.out]at h2
     unfold Hid
     rw[HPH.out]
     exact h2
    obtain⟨c5,d0,d1,d2,d3,d4,ff⟩:=HC3.out w4 G4.out
    obtain⟨f0,f1,f2,f3,f4⟩:=cells5 O4.out
    clear G4 X4 O4 HC3 OS3 HPH HSAME HDF HDN HPST HG3J hdd hq
    unfold put5 at NX
    go_upto_region 8 with fail
    refine Sh.still_tail 8 hmx (by kernel_rfl) ?_
    simp only[List.take_succ_cons,List.take_zero,List.drop_succ_cons,List.drop_zero]
    repeat still_step
    refine wpStill_nil ?_
    go_wp2_with fail
    go_ret
    exact NX.out
end Go.Proofs.YtpddanmnlkcdpaaGreatDoor.Tk

