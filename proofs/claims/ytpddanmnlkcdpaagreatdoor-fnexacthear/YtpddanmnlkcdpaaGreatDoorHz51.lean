/- Texts put together: HrGHelp, HrGHear, HrSpec. -/
import Derived.Test.YtpddanmnlkcdpaaGreatDoorHz50
import Derived.Test.YtpddanmnlkcdpaaGreatDoorHz40
import Derived.Test.YtpddanmnlkcdpaaGreatDoorHz41
import Derived.Test.YtpddanmnlkcdpaaGreatDoorHz48
import Derived.Deep.RegionLaw
import Derived.Test.YtpddanmnlkcdpaaGreatDoorHz43
set_option maxRecDepth 100000
set_option maxHeartbeats 8000000
/- The specification: rows of numbers that lie apart, and a record that is found. -/
namespace Go.Proofs.YtpddanmnlkcdpaaGreatDoor.Tk
open Go.RowKit
open Kp
open Pe
open Pl
open Hr
open In (Ints OwnI)
open St (Strs)
theorem has_apart {w W:World} {gg j:Nat} {z b:Int} {r s:ByteArray} {y:Int} {ao:Option Addr} {no co:Nat} {va:Value} {mo:List MO} {mr:List MR} (h:Game w W gg z b r s y ao no co va mo mr) (hj:j<mo.length):∀ t (ht:t<mo.length),t≠j->∀ k,mo[j].2.ownBlock=some k->mo[t].2.ownBlock≠some k:=by
 intro t ht hne k hk
 have hp:=List.pairwise_iff_getElem.1 h.ap
 rcases Nat.lt_or_gt_of_ne hne with hlt|hlt
 ·exact fun e'=>hp t j ht hj hlt k e' hk
 ·exact hp j t hj ht hlt k hk
theorem fresh_apart {w W W':World} {gg j:Nat} {z b:Int} {r s:ByteArray} {y:Int} {ao:Option Addr} {no co:Nat} {va v:Value} {mo:List MO} {mr:List MR} {l:List Int} (h:Game w W gg z b r s y ao no co va mo mr) (ho:OwnI W' W.heap.size v l):∀ t (ht:t<mo.length),t≠j->∀ k,v.ownBlock=some k->mo[t].2.ownBlock≠some k:=by
 intro t ht _ k hk e'
 have h1:=(World.ownsRow.lt ho k hk).1
 have h2:=(World.ownsRow.lt (h.has mo[t] (List.getElem_mem ht)) k e').2
 omega
theorem has_found (mr:List MR) (i:Int):∃ v:Int,(∀ e,HasOut mr i e->e=.returned (.int .i64 v))/\((∃ (j0:Nat) (hj0:j0<mr.length),v=(j0:Int)/\findR (recs mr) i=some mr[j0].1/\mr[j0].1.1=i)∨(v = -1/\findR (recs mr) i=none)):=by
 obtain⟨v,hv,_⟩:=hasOut_fix mr i
 refine⟨v,hv,?_⟩
 cases hf:findR (recs mr) i with
 |none =>
  have:HasOut mr i (.returned (.int .i64 (-1))):=.inr ⟨fun j hj he=>by
   unfold findR recs at hf
   rw[List.find?_eq_none]at hf
   exact hf _ (List.mem_map.2 ⟨mr[j],List.getElem_mem hj,rfl⟩) (by simp[he]),rfl⟩
  have h1:=hv _ this
  simp only[Ending.returned.injEq,Value.int.injEq,true_and]at h1
  exact .inr ⟨h1.symm,rfl⟩
 |some r =>
  unfold findR recs at hf
  rw[List.find?_eq_some_iff_getElem]at hf
  obtain⟨h0,j0,hj0,he,hfst⟩:=hf
  rw[List.length_map]at hj0
  rw[List.getElem_map]at he
  have hi:mr[j0].1.1=i:=by rw[he];simpa using h0
  have:HasOut mr i (.returned (.int .i64 j0)):=.inl ⟨j0,hj0,hi,fun k hk e'=>by
   have:=hfst k hk
   rw[List.getElem_map]at this
   simp[e']at this,rfl⟩
  have h1:=hv _ this
  simp only[Ending.returned.injEq,Value.int.injEq,true_and]at h1
  exact .inl ⟨j0,hj0,h1.symm,by rw[he],hi⟩
theorem game_rec {w W:World} {gg:Nat} {z b:Int} {r s:ByteArray} {y:Int} {ao:Option Addr} {no co:Nat} {va:Value} {mo:List MO} {mr:List MR} (h:Game w W gg z b r s y ao no co va mo mr) {j0:Nat} (hj0:j0<mr.length):∃ (gr cr:Nat) (a0:Option Addr) (c0:Nat),va=.slice (some ⟨gr,0,none⟩) mr.length cr/\mr[j0].2=.slice a0 mr[j0].1.2.2.length c0/\(a0=none->mr[j0].1.2.2.length=0/\c0=0)/\Strs W W.heap.size a0 mr[j0].1.2.2/\gr<W.heap.size/\W.cell? ⟨gr,j0*3+1,none⟩=some (.string mr[j0].1.2.1)/\W.cell? ⟨gr,j0*3+2,none⟩=some (.slice a0 mr[j0].1.2.2.length c0):=by
 obtain⟨a,cr,hv,hc⟩:=h.rrow.one
 obtain⟨gr,ha,hgr,_,hcell⟩:=hc (by omega)
 obtain⟨_,h1,h2⟩:=hcell j0 hj0
 have hps:=h.ps mr[j0] (List.getElem_mem hj0)
 obtain⟨a0,c0,hv0,_,hst⟩:=hps.strs
 refine⟨gr,cr,a0,c0,by rw[hv,ha],hv0,fun hn=>?_,hst,hgr,h1,by rw[<-hv0];exact h2⟩
 rcases hps with⟨e1,e2⟩|⟨g,cap,e1,_,_⟩
 ·rw[hv0]at e1
  simp at e1
  exact⟨by rw[e2];rfl,e1.2.2⟩
 ·rw[hv0,hn]at e1
  simp at e1
theorem say_sets {W:World} {g:Nat} {x0 x1 x2 x3:Value} (h:W.heap[g]? = some (.cells #[x0,x1,x2,x3] 51 (0,0))) (u0 u1 u2 u3:Value):KeepsS W ((((W.setCell ⟨g,0,none⟩ u0).setCell ⟨g,1,none⟩ u1).setCell ⟨g,2,none⟩ u2).setCell ⟨g,3,none⟩ u3) :=
 KeepsS.others h (by decide) (fun k o hk hne=>by rw[heap_setCell_other _ _ k _ (by exact hne),heap_setCell_other _ _ k _ (by exact hne),heap_setCell_other _ _ k _ (by exact hne),heap_setCell_other _ _ k _ (by exact hne)];exact hk)
theorem game_letter {w W W':World} {gg:Nat} {z b:Int} {r s:ByteArray} {y:Int} {ao:Option Addr} {no co:Nat} {va pv:Value} {mo:List MO} {mr:List MR} {x:Snt} (h:Game w W gg z b r s y ao no co va mo mr) (hp:PathO w.heap.size W pv x.path) (hw:W'=W.alloc (.cells #[.string x.who,.int .i64 x.kind,.int .i64 x.index,.string x.piece,pv] 114)):GEnd w gg z b r ⟨s,y,Pe.oths mo,[x]⟩ (.returned (.slice (some ⟨W.heap.size,0,none⟩) 1 1)) W':=by
 subst hw
 have hb:Below W.heap.size W (W.alloc (.cells #[.string x.who,.int .i64 x.kind,.int .i64 x.index,.string x.piece,pv] 114)):=(Below.refl _ _).alloc (Nat.le_refl _) _
 have h':=h.call hb
 have hl:OwnL (W.alloc (.cells #[.string x.who,.int .i64 x.kind,.int .i64 x.index,.string x.piece,pv] 114)) w.heap.size (.slice (some ⟨W.heap.size,0,none⟩) 1 1) [(x,pv)]:=⟨rfl,.inr ⟨W.heap.size,1,_,rfl,h.low.size,heap_alloc_new W _,Nat.le_refl _,by decide,rfl,rfl⟩⟩
 exact⟨va,ao,no,co,_,1,1,mo,[(x,pv)],rfl,h'.blk,rfl,rfl,⟨h'.orow,h'.has,h'.ap,hl,fun q hq=>by rw[List.mem_singleton.1 hq];exact hp.keeps (KeepsS.below hb),List.pairwise_singleton ..⟩,h'.low,.inr rfl⟩
end Go.Proofs.YtpddanmnlkcdpaaGreatDoor.Tk


namespace Go.Proofs.YtpddanmnlkcdpaaGreatDoor.Tk
open Go.RowKit
open Kp
open Pe
open Pl
open Hr
open In (Ints OwnI)
open Ap (Own0)
open Ls (lowL blk_alloc lV lm_alloc lm_drew cells3 set_j3 countN count_spec)
open St (Strs)
open Tr (step_append_opt map_one1)
open Bi (is_yes is_no)
theorem hearG_spec (fit fb:Rec->Bool) (w W:World) (gg:Nat) (z b:Int) (r s:ByteArray) (y:Int) (go n co j:Nat) (va:Value) (mo:List MO) (mr:List MR) (hg:Game w W gg z b r s y (some ⟨go,0,none⟩) n co va mo mr) (hj:j<mo.length) (hrs:recs mr=(allR fit s).1) (hm:mr.length<=1048575) (hn:n<=1048576) (hor:OthR (countN z b r:Nat) mo[j].1) (hsmall:mo[j].1.has.length<=1048575) (hst:∀ o∈Pe.oths mo,o.strikes<=3) (k i:Int) (t:ByteArray) (p:List ByteArray) (ap:Option Addr) (cp:Nat) (hcp:p.length<=cp) (hap:ap=none->cp=0) (hp:Strs w w.heap.size ap p) (hcn:countN z b r<=1048576)
  (hs8:s.size<=8000) (hf:FitS fit z b r w) (hff:FitF fit)
  (hft:∀ V,Below w.heap.size w V->Calls Tryz.prog 104 #[lV z b r,.int .i64 i,.string t,.slice ap p.length cp] V fun q v'=>q=.returned (.bool (fb (i,t,p)))/\Below V.heap.size V v') (hsm:fb (i,t,p)=true->t.size<=8000/\p.length<=400) :
  Calls Tryz.prog 48 #[.pointer (some ⟨gg,0,none⟩),.int .i64 j,sayV k i t (.slice ap p.length cp)] W fun q w'=>GEnd w gg z b r (hearH fit fb (countN z b r) s y (Pe.oths mo) j mo[j].1 k (i,t,p)) q w':=by
 have hmx:=mixedK
 have hml:=game_len hg
 have hjn:j<n:=by rw[<-hml];exact hj
 have hjI:(j:Int)<(n:Int):=by omega
 have B1:=(Below.refl W.heap.size W).alloc (Nat.le_refl _) (sayO k i t (.slice ap p.length cp))
 have G1:=hideK (hg.call B1)
 have XB:=hideK (heap_alloc_new W (sayO k i t (.slice ap p.length cp)))
 have HCN:=hideK (fun V=>count_spec z b r V)
 have HRI:=hideK (risI_of hor.rs)
 have hs0:=hor.s0
 have hs1:=hor.s1
 clear hor
 generalize countN z b r=cn at HCN hcn ⊢
 have HHE:Hid (hearH fit fb cn s y (Pe.oths mo) j mo[j].1 k (i,t,p)=if mo[j].1.strikes=3∨¬(0<=i/\i<(cn:Int)) then ⟨s,y,Pe.oths mo,[]⟩ else deedH fit fb s y (Pe.oths mo) j mo[j].1 k (i,t,p)):=rfl
 have HPC:Hid (∀ V,Game w V gg z b r s y (some ⟨go,0,none⟩) n co va mo mr->mo[j].1.strikes<=2->0<=i/\i<=1048576->Calls Tryz.prog 87 #[.pointer (some ⟨gg,0,none⟩),.int .i64 j,.agg #[.int .i64 k,.int .i64 i,.string t,.slice ap p.length cp]] V fun q w'=>GEnd w gg z b r (pieceH fit fb s y (Pe.oths mo) j mo[j].1 (i,t,p)) q w'):=fun V hV h2 hi=>pieceG_spec fit fb w V gg z b r s y go n co j va mo mr hV hj hrs hm hn hs0 h2 hst k i t p ap cp hcp hap hp hi hs8 hf hff hft hsm
 clear hg hft B1 hp hf
 unfold sayV
 unfold sayO at XB G1
 unfold lV at HCN
 go_enter Tryz.func48,Tryz.ntmps48
 go_upto_region 1 with fail
 generalize W.alloc (.cells #[.int .i64 k,.int .i64 i,.string t,.slice ap p.length cp] 51)=W1 at G1 XB ⊢
 generalize W.heap.size=gm at XB ⊢
 obtain⟨x0,x1,x2,x3⟩:=cells4 XB.out
 obtain⟨c5,d0,d1,d2,d3,d4,ff,hgoz,ax,cx,hxv⟩:=game_five G1.out hj
 have HV2:=hideK hxv
 rw[hxv]at d1
 clear hxv
 have O7:=hideK (heap_alloc_new W1 (.cells #[.string mo[j].1.name,.slice ax mo[j].1.has.length cx,.int .i64 mo[j].1.asked,.int .i64 mo[j].1.age,.int .i64 mo[j].1.strikes] 86))
 have B2:=(Below.refl W1.heap.size W1).alloc (Nat.le_refl _) (.cells #[.string mo[j].1.name,.slice ax mo[j].1.has.length cx,.int .i64 mo[j].1.asked,.int .i64 mo[j].1.age,.int .i64 mo[j].1.strikes] 86)
 have G2:=hideK (G1.out.call B2)
 have X2:=hideK ((B2.block gm (lt_rowK XB.out)).trans XB.out)
 have HNE7:Hid (W1.heap.size≠go):=by unfold Hid;omega
 have HNEM:=hideK (game_ne G1.out XB.out (by decide))
 have LB2:=hideK B2
 clear B2 XB
 go_upto_region 2 with fail
 generalize W1.alloc (.cells #[.string mo[j].1.name,.slice ax mo[j].1.has.length cx,.int .i64 mo[j].1.asked,.int .i64 mo[j].1.age,.int .i64 mo[j].1.strikes] 86)=W2 at O7 G2 X2 LB2 ⊢
 generalize hg7e:W1.heap.size=g7 at O7 HNE7 ⊢
 have HG7:=hideK hg7e
 clear hg7e
 clear c5 d0 d1 d2 d3 d4 ff hgoz x0 x1 x2 x3
 have HEND0:Hid (∀ V,Game w V gg z b r s y (some ⟨go,0,none⟩) n co va mo mr->mo[j].1.strikes=3∨¬(0<=i/\i<(cn:Int))->GEnd w gg z b r (hearH fit fb cn s y (Pe.oths mo) j mo[j].1 k (i,t,p)) (.returned (.slice none 0 0)) V):=fun V hV h=>by
  rw[HHE.out,if_pos h]
  exact game_end hV
 obtain⟨x0,x1,x2,x3⟩:=cells4 X2.out
 obtain⟨f0,f1,f2,f3,f4⟩:=cells5 O7.out
 have GB:=G2.out.blk
 unfold gmB at GB
 obtain⟨r0,r1,r2,r3,r4,r5,r6⟩:=cellsP7 GB
 have gx1:=fun d os=>cell_regrown x1 d os
 have gr0:=fun d os=>cell_regrown r0 d os
 have gr1:=fun d os=>cell_regrown r1 d os
 have gr2:=fun d os=>cell_regrown r2 d os
 have HST:=hideK hst
 clear x0 x2 x3 f0 f1 f2 f3 GB r3 r4 r5 r6 hst
 generalize hstv:mo[j].1.strikes=st at f4 HEND0 HHE HPC hs0 hs1
 have gf4:=fun d os=>cell_regrown f4 d os
 have HSTV:=hideK hstv
 clear hstv
 by_cases h3:st=3
 ·have H3:=hideK h3
  have h3b:decide ((3:Int)<=st)=true:=by simp;omega
  clear h3
  refine wp_region_quiet_below (by assumption) (by kernel_rfl) ?_
  repeat (go_big_quiet_step ((go_at_call 59;exact Calls.regrown_of (HCN.out _))))
  refine wpQuiet_nil ?_
  intro _ hw'
  obtain⟨⟨dq,osq⟩,hw''⟩:=hw'
  subst hw''
  have HE:=hideK (HEND0.out _ (G2.out.call (below_regrown W2 dq osq)) (.inl H3.out))
  generalize Go.Sort.grow (redrawn W2 dq) osq=w3 at HE ⊢
  clear gx1 gr0 gr1 gr2 gf4 x1 r0 r1 r2 f4 HCN HEND0 HHE HPC G2 X2 O7
  go_wp2_with fail
  go_ret
  exact HE.out
 have h3b:decide ((3:Int)<=st)=false:=by simp;omega
 have hsub:IntKind.i64.wrap ((cn:Int)-1)=(cn:Int)-1:=by rw[IntKind.wrap_i64];omega
 by_cases hi:0<=i/\i<=(cn:Int)-1
 case neg =>
  have HIS:Hid (∀ V,Calls Tryz.prog 53 #[.int .i64 i,.int .i64 0,.int .i64 ((cn:Int)-1)] V fun e w'=>e=.returned (.bool false)/\Below V.heap.size V w'):=fun V=>(is_no i 0 ((cn:Int)-1) V (by omega)).mono fun e w' h=>⟨h.1,by rw[h.2];exact Below.refl _ _⟩
  have HI:=hideK hi
  clear hi
  refine wp_region_quiet_below (by assumption) (by kernel_rfl) ?_
  repeat (go_big_quiet_step ((first|(go_at_call 59;exact Calls.regrown_of (HCN.out _))|(go_at_call 53;exact Calls.regrown_of (HIS.out _)))))
  refine wpQuiet_nil ?_
  intro _ hw'
  obtain⟨⟨dq,osq⟩,hw''⟩:=hw'
  subst hw''
  have HE:=hideK (HEND0.out _ (G2.out.call (below_regrown W2 dq osq)) (.inr (by have:=HI.out;omega)))
  generalize Go.Sort.grow (redrawn W2 dq) osq=w3 at HE ⊢
  clear gx1 gr0 gr1 gr2 gf4 x1 r0 r1 r2 f4 HCN HEND0 HHE HPC G2 X2 O7 HIS
  go_wp2_with fail
  go_ret
  exact HE.out
 case pos =>
  have HIS:Hid (∀ V,Calls Tryz.prog 53 #[.int .i64 i,.int .i64 0,.int .i64 ((cn:Int)-1)] V fun e w'=>e=.returned (.bool true)/\Below V.heap.size V w'):=fun V=>(is_yes i 0 ((cn:Int)-1) V hi.1 hi.2).mono fun e w' h=>⟨h.1,by rw[h.2];exact Below.refl _ _⟩
  have HI:=hideK hi
  clear hi
  refine wp_region_quiet_below (by assumption) (by kernel_rfl) ?_
  repeat (go_big_quiet_step ((first|(go_at_call 59;exact Calls.regrown_of (HCN.out _))|(go_at_call 53;exact Calls.regrown_of (HIS.out _)))))
  refine wpQuiet_nil ?_
  intro _ hw'
  obtain⟨⟨dq,osq⟩,hw''⟩:=hw'
  subst hw''
  have G3:=hideK (G2.out.call (below_regrown W2 dq osq))
  have X3:=hideK (((below_regrown W2 dq osq).block gm (lt_rowK X2.out)).trans X2.out)
  have O3:=hideK (((below_regrown W2 dq osq).block g7 (lt_rowK O7.out)).trans O7.out)
  have LB3:=hideK (lowL LB2.out (below_regrown W2 dq osq))
  generalize Go.Sort.grow (redrawn W2 dq) osq=w3 at G3 X3 O3 LB3 ⊢
  clear LB2
  clear gx1 gr0 gr1 gr2 gf4 x1 r0 r1 r2 f4 HCN HEND0 G2 X2 O7 HIS
  have hiR:0<=i/\i<(cn:Int):=by have:=HI.out;omega
  have hi20:0<=i/\i<=1048576:=by omega
  rw[if_neg (by rintro (h|h)<;>omega)]at HHE
  have hs2:st<=2:=by omega
  have HPC1:=hideK (fun V hV=>HPC.out V hV hs2 hi20)
  have HDD:Hid (deedH fit fb s y (Pe.oths mo) j mo[j].1 k (i,t,p)=if k=1 then ⟨s,y,(Pe.oths mo).set j (haveO mo[j].1 i),[]⟩ else if k=2 then ⟨s,y,Pe.oths mo,[askL mo[j].1.name i (findR (allR fit s).1 i)]⟩ else if k=3 then pieceH fit fb s y (Pe.oths mo) j mo[j].1 (i,t,p) else if k=4 then ⟨s,y,(Pe.oths mo).set j (noO mo[j].1 i),[]⟩ else ⟨s,y,Pe.oths mo,[]⟩):=rfl
  rw[HDD.out]at HHE
  clear HPC HDD h3 h3b hsub hs0 hs1 hs2
  obtain⟨x0,x1,x2,x3⟩:=cells4 X3.out
  obtain⟨f0,f1,f2,f3,f4⟩:=cells5 O3.out
  by_cases hk1:k=1
  ·have hb1:(k==1)=true:=beq_iff_eq.2 hk1
   rw[if_pos hk1]at HHE
   clear hk1
   have HRW:Hid (OwnI w3 w.heap.size (.slice ax mo[j].1.has.length cx) mo[j].1.has):=by
    have:=G3.out.has mo[j] (List.getElem_mem hj)
    rw[HV2.out]at this
    exact this
   have HWO:Hid (∀ V,Below w3.heap.size w3 V->Calls Tryz.prog 85 #[.slice ax mo[j].1.has.length cx,.int .i64 i] V fun e w'=>∃ v',e=.returned v'/\OwnI w' w.heap.size v' (withI mo[j].1.has i)/\(∀ t (ht:t<mo.length),t≠j->∀ k,v'.ownBlock=some k->mo[t].2.ownBlock≠some k)/\Below V.heap.size V w'):=fun V hV=>(with_spec w.heap.size _ mo[j].1.has i V (HRW.out.below hV) HRI.out hsmall).mono fun e w' h=>by
    obtain⟨h1,hb⟩:=h
    rcases h1 with⟨hm,rfl⟩|⟨hm,v',rfl,ho⟩
    ·exact⟨_,rfl,by unfold withI;rw[if_pos hm];exact HRW.out.below (lowL hV hb),by have:=has_apart G3.out hj;rwa[HV2.out]at this,hb⟩
    ·exact⟨v',rfl,OwnI.mono ho (Nat.le_trans G3.out.low.size hV.size),fresh_apart (G3.out.call hV) ho,hb⟩
   have HHO:Hid (haveO mo[j].1 i=⟨mo[j].1.name,withI mo[j].1.has i,mo[j].1.asked,mo[j].1.age,st⟩):=by
    unfold Hid haveO
    rw[HSTV.out]
   rw[HHO.out]at HHE
   clear HHO HPC1 HST HRI
   go_wp2_with fail
   refine(HWO.out _ (Below.refl _ _)).mono ?_
   rintro q w4 ⟨v4,rfl,ho4,hap4,hb4⟩
   have HAP:=hideK hap4
   obtain⟨a4,c4,hv4,_⟩:=ho4.ints
   have ge7:W1.heap.size<=g7:=by rw[HG7.out];exact Nat.le_refl _
   have O4:=hideK ((hb4.block g7 (lt_rowK O3.out)).trans O3.out)
   have B5:Hid (Below W1.heap.size W1 (w4.setCell ⟨g7,1,none⟩ v4)):=(lowL LB3.out hb4).setCell (p:=⟨g7,1,none⟩) ge7 v4
   have G5:=hideK (G1.out.call B5.out)
   have O5:Hid ((w4.setCell ⟨g7,1,none⟩ v4).heap[g7]? = some (.cells #[.string mo[j].1.name,v4,.int .i64 mo[j].1.asked,.int .i64 mo[j].1.age,.int .i64 st] 86 (0,0))):=by
    unfold Hid
    rw[heap_setCell_same _ g7 1 _ _ _ O4.out,HSTV.out]
    rfl
   have HO5:Hid (OwnI (w4.setCell ⟨g7,1,none⟩ v4) w.heap.size v4 (withI mo[j].1.has i)):=own_others ho4 O4.out (by decide) (fun k o hk hne=>(heap_setCell_other w4 ⟨g7,1,none⟩ k _ (by exact hne)).trans hk)
   subst hv4
   obtain⟨f0,f1,f2,f3,f4⟩:=cells5 O4.out
   have zf7:=fun o=>frozen_of_row w4 g7 o _ _ O4.out
   clear ho4 hb4 hap4 G3 X3 O3 LB3 HWO HRW x0 x1 x2 x3
   go_upto_region 7 with fail
   generalize w4.setCell ⟨g7,1,none⟩ (.slice a4 (withI mo[j].1.has i).length c4)=w5 at B5 G5 O5 HO5 ⊢
   clear f0 f1 f2 f3 f4 zf7 O4
   have NX:Hid (GEnd w gg z b r (hearH fit fb cn s y (Pe.oths mo) j mo[j].1 k (i,t,p)) (.returned (.slice none 0 0)) ((put5 w5 go (j*5) ⟨mo[j].1.name,withI mo[j].1.has i,mo[j].1.asked,mo[j].1.age,st⟩ (.slice a4 (withI mo[j].1.has i).length c4)).drew)):=by
    have h1:=game_putV G5.out hj ⟨mo[j].1.name,withI mo[j].1.has i,mo[j].1.asked,mo[j].1.age,st⟩ _ HO5.out HAP.out
    have h2:=game_end (h1.call ((Below.refl _ _).drew))
    rw[oths_set]at h2
    unfold Hid
    rw[HHE.out]
    exact h2
   obtain⟨c5,d0,d1,d2,d3,d4,ff,_,_⟩:=game_five G5.out hj
   obtain⟨f0,f1,f2,f3,f4⟩:=cells5 O5.out
   clear HHE HAP HO5 O5 G5 B5 HSTV HV2 HNEM G1
   generalize withI mo[j].1.has i=LI at *
   unfold put5 at NX
   refine Sh.still_tail 7 hmx (by kernel_rfl) ?_
   simp only[List.take_succ_cons,List.take_zero,List.drop_succ_cons,List.drop_zero]
   repeat still_step
   refine wpStill_nil ?_
   go_wp2_with fail
   go_ret
   exact NX.out
  have hb1:(k==1)=false:=by simp[hk1]
  rw[if_neg hk1]at HHE
  by_cases hk2:k=2
  ·have hb2:(k==2)=true:=beq_iff_eq.2 hk2
   rw[if_pos hk2]at HHE
   clear hk1 hk2
   obtain⟨v,hv,hcase⟩:=has_found mr i
   have HLH:Hid (∀ V,Below w3.heap.size w3 V->Calls Tryz.prog 86 #[va,.int .i64 i] V fun e w'=>e=.returned (.int .i64 v)/\Below V.heap.size V w'):=fun V hV=>(l08Has_any w.heap.size mr.length i va mr V (G3.out.call hV).rrow rfl (by omega)).mono fun e w' h=>⟨hv e h.1,by rw[h.2];exact Below.refl _ _⟩
   have GB:=G3.out.blk
   unfold gmB at GB
   obtain⟨_,_,_,_,_,_,r6⟩:=cellsP7 GB
   have gx1:=fun d os=>cell_regrown x1 d os
   have gr6:=fun d os=>cell_regrown r6 d os
   have HCASE:=hideK hcase
   clear hv hcase GB HPC1 HST HRI
   go_upto_region 9 with fail
   refine wp_region_quiet_below (by assumption) (by kernel_rfl) ?_
   repeat (go_big_quiet_step ((go_at_call 86;exact Calls.regrown_of (HLH.out _ (below_regrown _ _ _)))))
   refine wpQuiet_nil ?_
   intro _ hw'
   obtain⟨⟨dq2,osq2⟩,hw''⟩:=hw'
   subst hw''
   have G4:=hideK (G3.out.call (below_regrown w3 dq2 osq2))
   have X4:=hideK (((below_regrown w3 dq2 osq2).block gm (lt_rowK X3.out)).trans X3.out)
   have O4:=hideK (((below_regrown w3 dq2 osq2).block g7 (lt_rowK O3.out)).trans O3.out)
   generalize Go.Sort.grow (redrawn w3 dq2) osq2=w4 at G4 X4 O4 ⊢
   clear gx1 gr6 HLH x0 x1 x2 x3 f0 f1 f2 f3 f4 r6 G3 X3 O3 LB3 G1 HG7 HNE7 HNEM HV2 HSTV
   rw[<-hrs]at HHE
   obtain⟨x0,x1,x2,x3⟩:=cells4 X4.out
   obtain⟨f0,f1,f2,f3,f4⟩:=cells5 O4.out
   rcases HCASE.out with⟨j0,hj0,rfl,hfd,hxi⟩|⟨rfl,hfd⟩
   ·obtain⟨gr,cr,a0,c0,hva,hv0,hnil,hst0,hgr,q1,q2⟩:=game_rec G4.out hj0
    have hft:=allR_fit fit s mr[j0].1 (by rw[<-hrs];exact List.mem_map.2 ⟨_,List.getElem_mem hj0,rfl⟩)
    have hp20:=(hff _ hft).2.2.2.1
    have HLT:Hid (askL mo[j].1.name i (findR (recs mr) i)=⟨mo[j].1.name,3,i,mr[j0].1.2.1,mr[j0].1.2.2⟩):=by
     unfold Hid
     rw[hfd]
     rfl
    rw[HLT.out]at HHE
    clear HCASE HLT hfd hxi hft hv0
    subst hva
    generalize mr[j0].1.2.1=t0 at q1 HHE
    generalize mr[j0].1.2.2=p0 at q2 HHE hnil hst0 hp20
    have hjr:(j0:Int)<(mr.length:Int):=by omega
    have hj00:(0:Int)<=(j0:Int):=by omega
    have hj0b:decide ((0:Int)<=(j0:Int))=true:=by simp
    have HNA:=hideK hnil
    have HNW:Hid (∀ V,Below w4.heap.size w4 V->∀ d,a0=some d->∀ j u,(p0.map Value.string)[j]? = some u->V.cell? (d.add j)=some u):=fun V hV=>newsS (hst0.below hV)
    obtain⟨i0,hif,hz0,hz1,hz2⟩:=info_parts St.Tryz.infoS9
    have GB4:=hideK G4.out.blk
    unfold gmB at GB4
    have CX:Hid (∀ V,Below w4.heap.size w4 V->V.cell? ⟨gm,1,none⟩=some (.int .i64 i)/\V.cell? ⟨g7,0,none⟩=some (.string mo[j].1.name)/\V.cell? ⟨gg,6,none⟩=some (.slice (some ⟨gr,0,none⟩) mr.length cr)/\V.cell? ⟨gr,j0*3+1,none⟩=some (.string t0)/\V.cell? ⟨gr,j0*3+2,none⟩=some (.slice a0 p0.length c0)):=fun V hV=>by
     obtain⟨_,y1,_,_⟩:=cells4 ((hV.block gm (lt_rowK X4.out)).trans X4.out)
     obtain⟨n0,_,_,_,_⟩:=cells5 ((hV.block g7 (lt_rowK O4.out)).trans O4.out)
     obtain⟨_,_,_,_,_,_,y6⟩:=cellsP7 ((hV.block gg (lt_rowK GB4.out)).trans GB4.out)
     exact⟨y1,n0,y6,(hV.cell (p:=⟨gr,j0*3+1,none⟩) hgr).trans q1,(hV.cell (p:=⟨gr,j0*3+2,none⟩) hgr).trans q2⟩
    have HFIN:Hid (∀ V pv,Below w4.heap.size w4 V->PathO w4.heap.size V pv p0->∀ V',V'=V.alloc (.cells #[.string mo[j].1.name,.int .i64 3,.int .i64 i,.string t0,pv] 114)->GEnd w gg z b r (hearH fit fb cn s y (Pe.oths mo) j mo[j].1 k (i,t,p)) (.returned (.slice (some ⟨V.heap.size,0,none⟩) 1 1)) V'):=fun V pv hV hpv V' hV'=>by
     rw[HHE.out]
     exact game_letter (x:=⟨mo[j].1.name,3,i,t0,p0⟩) (G4.out.call hV) (hpv.mono G4.out.low.size) hV'
    clear hst0 hnil q1 q2 hgr G4 X4 O4 GB4 HHE f0 f1 f2 f3 f4 x0 x2 x3
    go_upto_region 12 with fail
    have hS0:=CX.out _ (lm_drew (lm_alloc (Below.refl w4.heap.size w4) (.cells #[.int .i64 4,.int .i64 i,.string ⟨#[]⟩,.slice none 0 0] 51)))
    go_region_held3 (fun V=>V.cell? ⟨gm,1,none⟩=some (.int .i64 i)/\V.cell? ⟨g7,0,none⟩=some (.string mo[j].1.name)/\V.cell? ⟨gg,6,none⟩=some (.slice (some ⟨gr,0,none⟩) mr.length cr)/\V.cell? ⟨gr,j0*3+1,none⟩=some (.string t0)/\V.cell? ⟨gr,j0*3+2,none⟩=some (.slice a0 p0.length c0)) (first|(with_reducible assumption)|exact CX.out _ (by repeat (first|with_reducible exact B8.out|with_reducible exact Below.refl _ _|with_reducible refine lm_alloc ?_ _|with_reducible refine lm_drew ?_|with_reducible refine lm_set ?_ (Nat.le_refl _) _)))
     (first
      |(refine step_append_opt rfl (.tmp 77) (.tmp 85) 46 rfl w4.heap.size 9 i0 (.string ⟨#[]⟩) 1 16 Tryz.underlying46 hif hz0 hz1 hz2 rfl (by decide) (.slice (some ⟨w4.heap.size+1,0,none⟩) 0 0) 0 [] rfl (by with_reducible exact emptyAtD (rec_new2 w4 _ _) (Nat.le_succ _)) a0 p0.length c0 HNA.out (p0.map Value.string) rfl (by rw[List.length_map,Nat.mul_one]) (HNW.out (((w4.alloc (.cells #[.int .i64 4,.int .i64 i,.string ⟨#[]⟩,.slice none 0 0] 51)).alloc (.cells #[] 9)).drew) (by with_reducible exact lm_drew (lm_alloc (lm_alloc (Below.refl w4.heap.size w4) _) _))) (map_one1 p0) (by unfold maxLen;omega) (by omega) (by simp<;>omega) ?_;intro v8 w8 hown8 hgrow8;obtain⟨⟨a8,c8,hv8⟩,hO8,hB8⟩:=path_app (X:=(((w4.alloc (.cells #[.int .i64 4,.int .i64 i,.string ⟨#[]⟩,.slice none 0 0] 51)).alloc (.cells #[] 9)).drew)) (lm_drew (lm_alloc (lm_alloc (Below.refl w4.heap.size w4) _) _)) (by omega) hown8 hgrow8;subst hv8;have O8:=hideK hO8;have B8:=hideK hB8;have R8:Hid (w8.heap[w4.heap.size]? = some (.cells #[.int .i64 4,.int .i64 i,.string ⟨#[]⟩,.slice none 0 0] 51 (0,0))):=(hgrow8.block w4.heap.size (by simp<;>omega) (by simp[Value.ownBlock])).trans (lit_new2 w4 _ _);obtain⟨z0,z1,z2,z3⟩:=cells4 R8.out;have zf:=fun o=>frozen_of_row w8 w4.heap.size o _ _ R8.out;clear hO8 hB8 hown8 hgrow8))
    all_goals (try go_wp2_with fail)
    all_goals (
     have HE:=HFIN.out ((((w8.setCell ⟨w4.heap.size,0,none⟩ (.int .i64 3)).setCell ⟨w4.heap.size,1,none⟩ (.int .i64 i)).setCell ⟨w4.heap.size,2,none⟩ (.string t0)).setCell ⟨w4.heap.size,3,none⟩ (.slice a8 p0.length c8)) (.slice a8 p0.length c8) (((((B8.out.setCell (p:=⟨w4.heap.size,0,none⟩) (Nat.le_refl _) _).setCell (p:=⟨w4.heap.size,1,none⟩) (Nat.le_refl _) _).setCell (p:=⟨w4.heap.size,2,none⟩) (Nat.le_refl _) _).setCell (p:=⟨w4.heap.size,3,none⟩) (Nat.le_refl _) _)) (O8.out.keeps (say_sets R8.out _ _ _ _)) _ rfl
     simp only[World.size_setCell]at HE
     go_ret
     exact HE)
   ·have HLT:Hid (askL mo[j].1.name i (findR (recs mr) i)=⟨mo[j].1.name,4,i,⟨#[]⟩,[]⟩):=by
     unfold Hid
     rw[hfd]
     rfl
    rw[HLT.out]at HHE
    have HE:Hid (GEnd w gg z b r (hearH fit fb cn s y (Pe.oths mo) j mo[j].1 k (i,t,p)) (.returned (.slice (some ⟨w4.heap.size+1,0,none⟩) 1 1)) ((w4.alloc (.cells #[.int .i64 4,.int .i64 i,.string ⟨#[]⟩,.slice none 0 0] 51)).alloc (.cells #[.string mo[j].1.name,.int .i64 4,.int .i64 i,.string ⟨#[]⟩,.slice none 0 0] 114))):=by
     unfold Hid
     rw[HHE.out]
     have h1:=game_letter (x:=⟨mo[j].1.name,4,i,⟨#[]⟩,[]⟩) (G4.out.call ((Below.refl _ _).alloc (Nat.le_refl _) (.cells #[.int .i64 4,.int .i64 i,.string ⟨#[]⟩,.slice none 0 0] 51))) (St.OwnS.nil _ _) rfl
     rw[World.size_alloc]at h1
     exact h1
    have hj0b:decide ((0:Int)<=(-1:Int))=false:=by decide
    obtain⟨n0,_,_,_,_⟩:=cells5 (blk_alloc O4.out (.cells #[.int .i64 4,.int .i64 i,.string ⟨#[]⟩,.slice none 0 0] 51))
    clear HCASE HLT hfd G4 X4 O4 HHE x0 x2 x3 f1 f2 f3 f4
    go_wp2_with fail
    go_ret
    exact HE.out
  have hb2:(k==2)=false:=by simp[hk2]
  rw[if_neg hk2]at HHE
  by_cases hk3:k=3
  ·have hb3:(k==3)=true:=beq_iff_eq.2 hk3
   rw[if_pos hk3]at HHE
   clear hk1 hk2 hk3
   have HPD:=hideK (HPC1.out w3 G3.out)
   clear G3 X3 O3 HPC1 HST HSTV HRI HV2 HNE7 HNEM LB3 G1
   go_wp2_with fail
   refine HPD.out.mono ?_
   intro q w4 hq
   obtain⟨va4,ao4,no4,co4,as4,ns4,cs4,mo4,ms4,rfl,hrest⟩:=hq
   have HE:Hid (GEnd w gg z b r (hearH fit fb cn s y (Pe.oths mo) j mo[j].1 k (i,t,p)) (.returned (.slice as4 ns4 cs4)) w4):=by
    unfold Hid
    rw[HHE.out]
    exact⟨va4,ao4,no4,co4,as4,ns4,cs4,mo4,ms4,rfl,hrest⟩
   clear hrest HPD HHE x0 x1 x2 x3 f0 f1 f2 f3 f4
   go_wp2_with fail
   go_ret
   exact HE.out
  have hb3:(k==3)=false:=by simp[hk3]
  rw[if_neg hk3]at HHE
  by_cases hk4:k=4
  ·have hb4:(k==4)=true:=beq_iff_eq.2 hk4
   rw[if_pos hk4]at HHE
   clear hk1 hk2 hk3 hk4
   have HRW:Hid (OwnI w3 w.heap.size (.slice ax mo[j].1.has.length cx) mo[j].1.has):=by
    have:=G3.out.has mo[j] (List.getElem_mem hj)
    rw[HV2.out]at this
    exact this
   have HWO:Hid (∀ V,Below w3.heap.size w3 V->Calls Tryz.prog 88 #[.slice ax mo[j].1.has.length cx,.int .i64 i] V fun e w'=>∃ v',e=.returned v'/\OwnI w' V.heap.size v' (lessI mo[j].1.has i)/\Below V.heap.size V w'):=fun V hV=>without_spec w.heap.size _ mo[j].1.has i V (HRW.out.below hV) HRI.out hsmall
   have HDR:=hideK (fun (a:Option Addr) (n c:Nat) V=>drop_spec ⟨mo[j].1.name,lessI mo[j].1.has i,mo[j].1.asked,mo[j].1.age,st⟩ a n c i V hi20)
   have HNO:Hid (noO mo[j].1 i=dropO ⟨mo[j].1.name,lessI mo[j].1.has i,mo[j].1.asked,mo[j].1.age,st⟩ i):=by
    unfold Hid noO
    rw[HSTV.out]
   have HDF:=hideK (drop_has ⟨mo[j].1.name,lessI mo[j].1.has i,mo[j].1.asked,mo[j].1.age,st⟩ i)
   generalize dropO ⟨mo[j].1.name,lessI mo[j].1.has i,mo[j].1.asked,mo[j].1.age,st⟩ i=D at HDR HNO HDF
   obtain⟨Dn,Dh,Da,Dg,Ds⟩:=D
   obtain⟨hd1,hd2,hd3⟩:=HDF.out
   dsimp only at hd1 hd2 hd3
   subst hd1 hd2
   obtain rfl:st=Ds:=hd3.symm
   unfold othV at HDR
   dsimp only at HDR
   rw[HNO.out]at HHE
   clear HNO HDF HPC1 HST HRI
   go_wp2_with fail
   refine(HWO.out _ (Below.refl _ _)).mono ?_
   rintro q w4 ⟨v4,rfl,ho4,hb4⟩
   have HAP:=hideK (fresh_apart (j:=j) G3.out ho4)
   obtain⟨a4,c4,hv4,_⟩:=ho4.ints
   have ge7:W1.heap.size<=g7:=by rw[HG7.out];exact Nat.le_refl _
   have O4:=hideK ((hb4.block g7 (lt_rowK O3.out)).trans O3.out)
   have B5:Hid (Below W1.heap.size W1 (w4.setCell ⟨g7,1,none⟩ v4)):=(lowL LB3.out hb4).setCell (p:=⟨g7,1,none⟩) ge7 v4
   have G5:=hideK (G1.out.call B5.out)
   have hne7m:gm≠g7:=ty_ne X3.out O3.out (by decide)
   have X5:Hid ((w4.setCell ⟨g7,1,none⟩ v4).heap[gm]? = _):=(heap_setCell_other _ ⟨g7,1,none⟩ gm _ (by exact hne7m)).trans ((hb4.block gm (lt_rowK X3.out)).trans X3.out)
   have O5:Hid ((w4.setCell ⟨g7,1,none⟩ v4).heap[g7]? = some (.cells #[.string mo[j].1.name,v4,.int .i64 mo[j].1.asked,.int .i64 mo[j].1.age,.int .i64 st] 86 (0,0))):=by
    unfold Hid
    rw[heap_setCell_same _ g7 1 _ _ _ O4.out,HSTV.out]
    rfl
   have HO5:Hid (OwnI (w4.setCell ⟨g7,1,none⟩ v4) w.heap.size v4 (lessI mo[j].1.has i)):=OwnI.mono (show OwnI (w4.setCell ⟨g7,1,none⟩ v4) w3.heap.size v4 (lessI mo[j].1.has i) from own_others ho4 O4.out (by decide) (fun k o hk hne=>(heap_setCell_other w4 ⟨g7,1,none⟩ k _ (by exact hne)).trans hk)) G3.out.low.size
   subst hv4
   obtain⟨f0,f1,f2,f3,f4⟩:=cells5 O4.out
   have zf7:=fun o=>frozen_of_row w4 g7 o _ _ O4.out
   clear ho4 hb4 G3 X3 O3 LB3 HWO HRW x0 x1 x2 x3
   go_upto_region 18 with fail
   generalize w4.setCell ⟨g7,1,none⟩ (.slice a4 (lessI mo[j].1.has i).length c4)=w5 at B5 G5 X5 O5 HO5 ⊢
   clear f0 f1 f2 f3 f4 zf7 O4
   have HDR1:=hideK (fun V=>HDR.out a4 (lessI mo[j].1.has i).length c4 V)
   have HE:Hid (∀ V,Below w5.heap.size w5 V->∀ V',V'=put5 V go (j*5) ⟨mo[j].1.name,lessI mo[j].1.has i,Da,Dg,st⟩ (.slice a4 (lessI mo[j].1.has i).length c4)->GEnd w gg z b r (hearH fit fb cn s y (Pe.oths mo) j mo[j].1 k (i,t,p)) (.returned (.slice none 0 0)) V'):=fun V hV V' hV'=>by
    have h1:=game_putV (G5.out.call hV) hj ⟨mo[j].1.name,lessI mo[j].1.has i,Da,Dg,st⟩ _ (HO5.out.below hV) HAP.out
    have h2:=game_end h1
    rw[oths_set]at h2
    rw[HHE.out,hV']
    exact h2
   have HC:Hid (∀ V,Below w5.heap.size w5 V->V.cell? ⟨gg,5,none⟩=some (.slice (some ⟨go,0,none⟩) n co)/\(∃ u0,V.cell? ⟨go,j*5,none⟩=some u0)/\(∃ u0,V.cell? ⟨go,j*5+1,none⟩=some u0)/\(∃ u0,V.cell? ⟨go,j*5+2,none⟩=some u0)/\(∃ u0,V.cell? ⟨go,j*5+3,none⟩=some u0)/\(∃ u0,V.cell? ⟨go,j*5+4,none⟩=some u0)/\(∀ t,V.frozen? ⟨go,t,none⟩=false)):=fun V hV=>by
    obtain⟨e5,e0,e1,e2,e3,e4,ef,_,_⟩:=game_five (G5.out.call hV) hj
    exact⟨e5,⟨_,e0⟩,⟨_,e1⟩,⟨_,e2⟩,⟨_,e3⟩,⟨_,e4⟩,ef⟩
   have HX:Hid (∀ V,Below w5.heap.size w5 V->V.cell? ⟨gm,1,none⟩=some (.int .i64 i)/\V.cell? ⟨g7,0,none⟩=some (.string mo[j].1.name)/\V.cell? ⟨g7,1,none⟩=some (.slice a4 (lessI mo[j].1.has i).length c4)/\V.cell? ⟨g7,2,none⟩=some (.int .i64 mo[j].1.asked)/\V.cell? ⟨g7,3,none⟩=some (.int .i64 mo[j].1.age)/\V.cell? ⟨g7,4,none⟩=some (.int .i64 st)):=fun V hV=>by
    obtain⟨_,q1,_,_⟩:=cells4 ((hV.block gm (lt_rowK X5.out)).trans X5.out)
    obtain⟨f0,f1,f2,f3,f4⟩:=cells5 ((hV.block g7 (lt_rowK O5.out)).trans O5.out)
    exact⟨q1,f0,f1,f2,f3,f4⟩
   obtain⟨c5,⟨o0,d0⟩,⟨o1,d1⟩,⟨o2,d2⟩,⟨o3,d3⟩,⟨o4,d4⟩,ff⟩:=HC.out w5 (Below.refl _ _)
   obtain⟨x1,f0,f1,f2,f3,f4⟩:=HX.out w5 (Below.refl _ _)
   clear HHE HDR HAP HO5 X5 O5 G5 B5 HSTV HV2 HNEM G1
   generalize (lessI mo[j].1.has i)=LI at *
   go_region_law (go_simp;go_at_call 89;(with_reducible refine(HDR1.out _).mono ?_);rintro q v1 ⟨rfl,hb⟩;obtain⟨c5,⟨o0,d0⟩,⟨o1,d1⟩,⟨o2,d2⟩,⟨o3,d3⟩,⟨o4,d4⟩,ff⟩:=HC.out v1 (lowL (lm_drew (Below.refl w5.heap.size w5)) hb);have HG:=hideK (HE.out v1 (lowL (lm_drew (Below.refl w5.heap.size w5)) hb));clear hb)
   all_goals (try go_wp2_with fail)
   all_goals (go_ret;exact HG.out _ rfl)
  have hb4:(k==4)=false:=by simp[hk4]
  rw[if_neg hk4]at HHE
  have HE:Hid (GEnd w gg z b r (hearH fit fb cn s y (Pe.oths mo) j mo[j].1 k (i,t,p)) (.returned (.slice none 0 0)) w3):=by
   unfold Hid
   rw[HHE.out]
   exact game_end G3.out
  clear hk1 hk2 hk3 hk4 G3 X3 O3 HPC1 HST HSTV HRI HV2 HNE7 HNEM HHE
  go_wp2_with fail
  go_ret
  exact HE.out
end Go.Proofs.YtpddanmnlkcdpaaGreatDoor.Tk


namespace Go.Proofs.YtpddanmnlkcdpaaGreatDoor.Tk
open Go.RowKit
open Kp
open Pe
open Pl
open Pm
open Hr
open In (Ints OwnI)
open Ls (lowL blk_alloc lV rightB countN countN_le)
open St (Strs)
theorem hear_spec (fit fb:Rec->Bool) (z b:Int) (r s:ByteArray) (y:Int) (a:Option Addr) (n cap:Nat) (m:List MO) (nm:ByteArray) (k i:Int) (t:ByteArray) (p:List ByteArray) (ap:Option Addr) (cp:Nat) (w:World) (hs:s.size<=1048576) (hs8:peerB fit z b r s y (oths m)=true->s.size<=8000) (hf:rightB z b r=true->FitS fit z b r w) (hff:FitF fit)
  (hft:rightB z b r=true->∀ V,Below w.heap.size w V->Calls Tryz.prog 104 #[lV z b r,.int .i64 i,.string t,.slice ap p.length cp] V fun q v'=>q=.returned (.bool (fb (i,t,p)))/\Below V.heap.size V v') (hfs:fb (i,t,p)=true->t.size<=8000/\p.length<=400)
  (h:Oths w w.heap.size a m) (hm:m.length=n) (hn:n<=1048576) (hsm:Small m) (hcp:p.length<=cp) (hap:ap=none->cp=0) (hp:Strs w w.heap.size ap p) :
  Calls Tryz.prog 16 #[peerV z b r s y (.slice a n cap),.string nm,sayV k i t (.slice ap p.length cp)] w fun e w'=>OwnPF w' w.heap.size e (hearP fit fb z b r s y (oths m) nm k (i,t,p))/\Below w.heap.size w w':=by
 have C0:=hideK ((((Cx.nil w).new (peerO z b r s y (.slice a n cap))).new (sayO k i t (.slice ap p.length cp))).new (poO 0 0 ⟨#[]⟩ ⟨#[]⟩ 0 (.slice none 0 0) (.slice none 0 0) 0))
 simp only[World.size_alloc]at C0
 have HPR:=hideK (fun W (hW:Below w.heap.size w W)=>peerRight_spec fit z b r s y a n cap m W hs (fun hq=>(hf hq).later hW) ((h.below hW).mono hW.size) hm hn hsm)
 have HO:Hid (peerB fit z b r s y (oths m)=true->∀ W (hW:Below w.heap.size w W),Calls Tryz.prog 28 #[peerV z b r s y (.slice a n cap)] W fun e w'=>∃ gg ao co va mo mr,e=.returned (.pointer (some ⟨gg,0,none⟩))/\Game W w' gg z b r s y ao n co va mo mr/\oths mo=oths m/\recs mr=(allR fit s).1):=fun hP W hW=>open_spec fit z b r s y a n cap m W hs ((hf (peerB_right hP)).later hW) ((h.below hW).mono hW.size) hm hn hsm
 have HP:Hid (∀ q,hearP fit fb z b r s y (oths m) nm k (i,t,p)=q->∀ W e,OwnPF W w.heap.size e q->OwnPF W w.heap.size e (hearP fit fb z b r s y (oths m) nm k (i,t,p))):=fun q hq W e h=>by rw[hq];exact h
 have HB2:Hid (8000<nm.size->hearP fit fb z b r s y (oths m) nm k (i,t,p)=ill 2):=fun h1=>by unfold hearP;rw[if_pos h1]
 have HB1:Hid (¬8000<nm.size->peerB fit z b r s y (oths m)=false->hearP fit fb z b r s y (oths m) nm k (i,t,p)=ill 1):=fun h1 h2=>by unfold hearP;rw[if_neg h1,if_pos h2]
 have HB6:Hid (¬8000<nm.size->peerB fit z b r s y (oths m)=true->hasN (oths m) nm=false->hearP fit fb z b r s y (oths m) nm k (i,t,p)=ill 6):=fun h1 h2 h3=>by unfold hearP;rw[if_neg h1,if_neg (by rw[h2];decide),if_pos h3]
 have HB0:Hid (¬8000<nm.size->peerB fit z b r s y (oths m)=true->hasN (oths m) nm=true->∀ o,(oths m).getD (posN (oths m) nm) zO=o->hearP fit fb z b r s y (oths m) nm k (i,t,p)=⟨z,b,r,(hearH fit fb (countN z b r) s y (oths m) (posN (oths m) nm) o k (i,t,p)).s,(hearH fit fb (countN z b r) s y (oths m) (posN (oths m) nm) o k (i,t,p)).y,(hearH fit fb (countN z b r) s y (oths m) (posN (oths m) nm) o k (i,t,p)).os,(hearH fit fb (countN z b r) s y (oths m) (posN (oths m) nm) o k (i,t,p)).ss,0⟩):=fun h1 h2 h3 o ho=>by unfold hearP;rw[if_neg h1,if_neg (by rw[h2];decide),if_neg (by rw[h3];decide),ho]
 have HMN:=hideK hm
 have HSM:=hideK hsm
 have HHE:Hid (peerB fit z b r s y (oths m)=true->∀ (w1 W:World) (gg:Nat) (go co:Nat) (va:Value) (mo:List MO) (mr:List MR) (j:Nat) (hw1:Below w.heap.size w w1) (hg:Game w1 W gg z b r s y (some ⟨go,0,none⟩) n co va mo mr) (hj:j<mo.length) (hrs:recs mr=(allR fit s).1) (hor:OthR (countN z b r:Nat) mo[j].1) (hsmall:mo[j].1.has.length<=1048575) (hst:∀ o∈Pe.oths mo,o.strikes<=3),Calls Tryz.prog 48 #[.pointer (some ⟨gg,0,none⟩),.int .i64 j,sayV k i t (.slice ap p.length cp)] W fun q w'=>GEnd w1 gg z b r (hearH fit fb (countN z b r) s y (Pe.oths mo) j mo[j].1 k (i,t,p)) q w'):=fun hP w1 W gg go co va mo mr j hw1 hg hj hrs hor hsmall hst=>hearG_spec fit fb w1 W gg z b r s y go n co j va mo mr hg hj hrs (by
   have h1:=congrArg List.length hrs
   have h2:=allR_many fit s
   have h3:=allR_le fit s
   have h4:=hs8 hP
   unfold recs at h1
   rw[List.length_map]at h1
   omega) hn hor hsmall hst k i t p ap cp hcp hap ((hp.below hw1).mono hw1.size) (by have:=countN_le z b r;omega) (hs8 hP) ((hf (peerB_right hP)).later hw1) hff (fun V hV=>hft (peerB_right hP) V (lowL hw1 hV)) hfs
 clear hf h hsm hm hff hft hfs hp hs8
 unfold peerV at HO HPR ⊢
 unfold sayV at HHE ⊢
 unfold peerO poO sayO at C0
 by_cases hbig:8000<nm.size
 ·have hbI:(8000:Int)<(nm.size:Int):=by omega
  have hbD:decide ((8000:Int)<(nm.size:Int))=true:=by simp;omega
  have HR:=hideK (HP.out _ (HB2.out hbig))
  clear HP HB2 HO HB1 HB6 HB0 HMN HHE HPR
  go_enter Tryz.func16,Tryz.ntmps16
  go_upto_region 1 with fail
  generalize hgk:w.heap.size=gk at C0 ⊢
  have HGK:=hideK hgk
  clear hgk
  generalize ((w.alloc _).alloc _).alloc _=W0 at C0 ⊢
  have HIL:=hideK (fun W=>ill_spec 2 W)
  unfold poV at HIL
  go_wp2_with fail
  refine(HIL.out _).mono ?_
  rintro e wI ⟨rfl,hb⟩
  have CI:=hideK (C0.out.call hb)
  clear hb C0 HIL
  obtain⟨q0,q1,q2,q3,q4,q5,q6,q7⟩:=cellsP8 (CI.out.get 0 rfl)
  have ff:=fun o=>frozen_of_row wI (gk+1+1) o _ _ (CI.out.get 0 rfl)
  have s8:=cellsP8 (setP8 (CI.out.get 0 rfl) (.int .i64 0) (.int .i64 0) (.string ⟨#[]⟩) (.string ⟨#[]⟩) (.int .i64 0) (.slice none 0 0) (.slice none 0 0) (.int .i64 2))
  have E8:=hideK (setP8_low CI.out.low (g:=gk+1+1) (by have:=HGK.out;omega) (.int .i64 0) (.int .i64 0) (.string ⟨#[]⟩) (.string ⟨#[]⟩) (.int .i64 0) (.slice none 0 0) (.slice none 0 0) (.int .i64 2))
  go_wp2_with fail
  exact bodyPost_ret (v:=.agg #[.int .i64 0,.int .i64 0,.string ⟨#[]⟩,.string ⟨#[]⟩,.int .i64 0,.slice none 0 0,.slice none 0 0,.int .i64 2]) (by simp[results,Tryz.results16,go_sem,s8.1,s8.2.1,s8.2.2.1,s8.2.2.2.1,s8.2.2.2.2.1,s8.2.2.2.2.2.1,s8.2.2.2.2.2.2.1,s8.2.2.2.2.2.2.2]) rfl ⟨HR.out _ _ (own_illF _ _ 2),E8.out⟩
 have hbI:¬(8000:Int)<(nm.size:Int):=by omega
 have hbD:decide ((8000:Int)<(nm.size:Int))=false:=by simp;omega
 go_enter Tryz.func16,Tryz.ntmps16
 go_upto_region 1 with fail
 generalize hgk:w.heap.size=gk at C0 ⊢
 have HGK:=hideK hgk
 clear hgk
 generalize ((w.alloc _).alloc _).alloc _=W0 at C0 ⊢
 obtain⟨p0,p1,p2,p3,p4,p5⟩:=cellsP6 (C0.out.get 2 rfl)
 go_wp2_with fail
 refine(HPR.out _ C0.out.low).mono ?_
 rintro e w1 ⟨rfl,hb⟩
 have C1:=hideK (C0.out.call hb)
 clear hb C0 HPR p0 p1 p2 p3 p4 p5
 cases hP:peerB fit z b r s y (oths m) with
 |false =>
  have HR:=hideK (HP.out _ (HB1.out hbig hP))
  clear HP HO HB1 HB0 HB2 HB6 HMN HSM HHE hP
  have HIL:=hideK (fun W=>ill_spec 1 W)
  unfold poV at HIL
  go_wp2_with fail
  refine(HIL.out _).mono ?_
  rintro e wI ⟨rfl,hb⟩
  have CI:=hideK (C1.out.call hb)
  clear hb C1 HIL
  obtain⟨q0,q1,q2,q3,q4,q5,q6,q7⟩:=cellsP8 (CI.out.get 0 rfl)
  have ff:=fun o=>frozen_of_row wI (gk+1+1) o _ _ (CI.out.get 0 rfl)
  have s8:=cellsP8 (setP8 (CI.out.get 0 rfl) (.int .i64 0) (.int .i64 0) (.string ⟨#[]⟩) (.string ⟨#[]⟩) (.int .i64 0) (.slice none 0 0) (.slice none 0 0) (.int .i64 1))
  have E8:=hideK (setP8_low CI.out.low (g:=gk+1+1) (by have:=HGK.out;omega) (.int .i64 0) (.int .i64 0) (.string ⟨#[]⟩) (.string ⟨#[]⟩) (.int .i64 0) (.slice none 0 0) (.slice none 0 0) (.int .i64 1))
  go_wp2_with fail
  exact bodyPost_ret (v:=.agg #[.int .i64 0,.int .i64 0,.string ⟨#[]⟩,.string ⟨#[]⟩,.int .i64 0,.slice none 0 0,.slice none 0 0,.int .i64 1]) (by simp[results,Tryz.results16,go_sem,s8.1,s8.2.1,s8.2.2.1,s8.2.2.2.1,s8.2.2.2.2.1,s8.2.2.2.2.2.1,s8.2.2.2.2.2.2.1,s8.2.2.2.2.2.2.2]) rfl ⟨HR.out _ _ (own_illF _ _ 1),E8.out⟩
 |true =>
  have HOP:=hideK (HO.out hP)
  have HHE1:=hideK (HHE.out hP)
  have HPP:=hideK hP
  obtain⟨hl4,hothr⟩:=peer_oths hP
  have h4:n<=4:=by rw[oths_length,HMN.out]at hl4;exact hl4
  have HOT:=hideK hothr
  clear HO HB1 hP hl4 hothr HHE
  obtain⟨p0,p1,p2,p3,p4,p5⟩:=cellsP6 (C1.out.get 2 rfl)
  go_wp2_with fail
  refine(HOP.out _ C1.out.low).mono ?_
  rintro e w2 ⟨gg,ao,co,va,mo,mr,rfl,hgm,hos,hrs⟩
  have HMO:Hid (mo.length=n):=by unfold Hid;rw[<-oths_length,hos,oths_length,HMN.out]
  have GM:=hideK hgm
  have CK:=hideK C1.out
  have C2:=hideK (C1.out.call hgm.low)
  have OS:=hideK hos
  have RS:=hideK hrs
  have hri:Ris mo:=ris_of (c:=(countN z b r:Nat)) (by have hP:=HPP.out;rw[hos];unfold peerB at hP;simp only[Bool.and_eq_true]at hP;exact hP.2)
  have HAT:=hideK (at_spec gg _ _ _ _ _ _ ao n co mo nm w2 hgm.blk (MadeO.oths (n:=n) (m:=mo) ⟨rfl,hgm.orow,hgm.has,hgm.ap⟩).1 HMO.out hn hri)
  rw[hos]at HAT
  have HHP:=hideK (fun hq=>has_pos (nm:=nm) hri hq)
  rw[hos]at HHP
  clear hgm hos hrs hri HOP C1 p0 p1 p2 p3 p4 p5
  go_wp2_with fail
  refine HAT.out.mono ?_
  rintro e w3 ⟨rfl,hw⟩
  subst w3
  cases hhas:hasN (oths m) nm with
  |false =>
   have HR:=hideK (HP.out _ (HB6.out hbig HPP.out hhas))
   have hat:atZ (oths m) nm = -1:=by
    unfold atZ
    rw[if_neg (by rw[hhas];decide)]
   rw[hat]
   clear HP HB2 HB6 HB0 HMN HMO HPP HHP HHE1 HOT HAT hhas GM CK OS RS HSM
   have HIL:=hideK (fun W=>ill_spec 6 W)
   unfold poV at HIL
   go_wp2_with fail
   refine(HIL.out _).mono ?_
   rintro e wI ⟨rfl,hb⟩
   have CI:=hideK (C2.out.call hb)
   clear hb C2 HIL
   obtain⟨q0,q1,q2,q3,q4,q5,q6,q7⟩:=cellsP8 (CI.out.get 0 rfl)
   have ff:=fun o=>frozen_of_row wI (gk+1+1) o _ _ (CI.out.get 0 rfl)
   have s8:=cellsP8 (setP8 (CI.out.get 0 rfl) (.int .i64 0) (.int .i64 0) (.string ⟨#[]⟩) (.string ⟨#[]⟩) (.int .i64 0) (.slice none 0 0) (.slice none 0 0) (.int .i64 6))
   have E8:=hideK (setP8_low CI.out.low (g:=gk+1+1) (by have:=HGK.out;omega) (.int .i64 0) (.int .i64 0) (.string ⟨#[]⟩) (.string ⟨#[]⟩) (.int .i64 0) (.slice none 0 0) (.slice none 0 0) (.int .i64 6))
   go_wp2_with fail
   exact bodyPost_ret (v:=.agg #[.int .i64 0,.int .i64 0,.string ⟨#[]⟩,.string ⟨#[]⟩,.int .i64 0,.slice none 0 0,.slice none 0 0,.int .i64 6]) (by simp[results,Tryz.results16,go_sem,s8.1,s8.2.1,s8.2.2.1,s8.2.2.2.1,s8.2.2.2.2.1,s8.2.2.2.2.2.1,s8.2.2.2.2.2.2.1,s8.2.2.2.2.2.2.2]) rfl ⟨HR.out _ _ (own_illF _ _ 6),E8.out⟩
  |true =>
   obtain⟨hpn,hnq⟩:=HHP.out hhas
   have hat:atZ (oths m) nm=(posN (oths m) nm:Nat):=by
    unfold atZ
    rw[if_pos hhas]
   rw[hat]
   have HR:=hideK (HP.out _ (HB0.out hbig HPP.out hhas mo[posN (oths m) nm].1 ((congrArg (fun l=>l.getD (posN (oths m) nm) zO) OS.out.symm).trans (oths_getD mo _ hpn))))
   obtain⟨go,cp2,hv2,_,hgz,_,_⟩:=GM.out.orow.cells (by omega)
   obtain⟨rfl,rfl⟩:ao=some ⟨go,0,none⟩/\co=cp2:=by simp at hv2;exact⟨hv2.1,hv2.2.2⟩
   have hom:mo[posN (oths m) nm].1∈oths m:=(congrArg (fun l=>mo[posN (oths m) nm].1∈l) OS.out).mp (List.mem_map_of_mem (List.getElem_mem hpn))
   have hoR:=HOT.out _ hom
   have hfew:=othR_few hoR
   have hc64:=countN_le z b r
   have HCL:=hideK (HHE1.out w1 w2 gg go co va mo mr (posN (oths m) nm) CK.out.low GM.out hpn RS.out hoR (by omega) (fun o ho=>(HOT.out o (by rw[<-OS.out];exact ho)).s1))
   rw[OS.out]at HCL
   have hz1:=CK.out.low.size
   clear HP HB2 HB6 HB0 HHE1 HOT HHP HPP hom hoR hfew hc64 HMN HSM hv2 HAT hat hhas
   generalize hearH fit fb (countN z b r) s y (oths m) (posN (oths m) nm) mo[posN (oths m) nm].1 k (i,t,p)=D at HR HCL
   generalize posN (oths m) nm=P at HCL hpn hnq ⊢
   have hP0:decide ((P:Int)<(0:Int))=false:=by simp
   have hP0':¬(P:Int)<(0:Int):=by omega
   obtain⟨x0,x1,x2,x3⟩:=cells4 (C2.out.get 1 rfl)
   clear GM OS RS HMO hpn hnq
   go_wp2_with fail
   refine HCL.out.mono ?_
   rintro e w3 ⟨va3,ao3,no3,co3,as3,ns3,cs3,mo3,ms3,rfl,hb3,ho3,hs3,hpo3,hlow3,hfw3⟩
   have FW3:=hideK hfw3
   have C3:=hideK (CK.out.call hlow3)
   have PI:Hid (PoIn w3 w.heap.size (.slice ao3 no3 co3) (.slice as3 ns3 cs3) mo3 ms3):=hpo3.mono hz1
   have O3:=hideK ho3
   have S3:=hideK hs3
   unfold gmB at hb3
   obtain⟨r0,r1,r2,r3,r4,r5,r6⟩:=cellsP7 hb3
   clear hb3 ho3 hs3 hpo3 hlow3 hfw3 CK C2 HCL x0 x1 x2 x3
   generalize D.s=Ds at r3 HR
   generalize D.y=Dy at r4 HR
   obtain⟨q0,q1,q2,q3,q4,q5,q6,q7⟩:=cellsP8 (C3.out.get 0 rfl)
   have ff:=fun o=>frozen_of_row w3 (gk+1+1) o _ _ (C3.out.get 0 rfl)
   have s8:=cellsP8 (setP8 (C3.out.get 0 rfl) (.int .i64 z) (.int .i64 b) (.string r) (.string Ds) (.int .i64 Dy) (.slice ao3 no3 co3) (.slice as3 ns3 cs3) (.int .i64 0))
   have E8:=hideK (setP8_low C3.out.low (g:=gk+1+1) (by have:=HGK.out;omega) (.int .i64 z) (.int .i64 b) (.string r) (.string Ds) (.int .i64 Dy) (.slice ao3 no3 co3) (.slice as3 ns3 cs3) (.int .i64 0))
   have P8:=hideK (poIn_others PI.out (C3.out.get 0 rfl) (fun k o hk hne=>setP8_keep (g:=gk+1+1) hk hne (.int .i64 z) (.int .i64 b) (.string r) (.string Ds) (.int .i64 Dy) (.slice ao3 no3 co3) (.slice as3 ns3 cs3) (.int .i64 0)))
   go_wp2_with fail
   exact bodyPost_ret (v:=.agg #[.int .i64 z,.int .i64 b,.string r,.string Ds,.int .i64 Dy,.slice ao3 no3 co3,.slice as3 ns3 cs3,.int .i64 0]) (by simp[results,Tryz.results16,go_sem,s8.1,s8.2.1,s8.2.2.1,s8.2.2.2.1,s8.2.2.2.2.1,s8.2.2.2.2.2.1,s8.2.2.2.2.2.2.1,s8.2.2.2.2.2.2.2]) rfl ⟨HR.out _ _ ⟨_,_,mo3,ms3,rfl,O3.out,S3.out,P8.out,FW3.out⟩,E8.out⟩
end Go.Proofs.YtpddanmnlkcdpaaGreatDoor.Tk

