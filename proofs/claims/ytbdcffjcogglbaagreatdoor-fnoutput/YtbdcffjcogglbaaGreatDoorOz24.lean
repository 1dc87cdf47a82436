import Derived.Test.YtbdcffjcogglbaaGreatDoorOz22
import Derived.WalkSmall
import Derived.Test.YtbdcffjcogglbaaGreatDoorOz34
import Derived.Test.YtbdcffjcogglbaaGreatDoorOz25
import Derived.Test.YtbdcffjcogglbaaGreatDoorOz26
set_option maxRecDepth 100000
set_option maxHeartbeats 8000000
namespace Go.Proofs.YtbdcffjcogglbaaGreatDoor
open Go.RowKit
open Go.Proofs.Tryz
namespace Hf
open In (IsI irow Ints made_ints)
structure Lp (base gl n S:Nat) (w:World) (wr:World) (v:Value) (m:List MT) (d:List Nat):Prop where
 own:OwnT wr 204 base v m
 sym:Syms wr m
 len:IsI wr gl 2 (up d)
 inv:Inv (mt m) d S
 few:ns (mt m)<=n
 dn:d.length=n
 ne:∀ z∈m,0<z.1.2.length
 low:Below w.heap.size w wr
 lo:w.heap.size<=gl
 hi:gl<base
theorem depths_any (a:Option Addr) (cap n:Nat) (c:List Nat) (w:World) (h:Ints w w.heap.size a (up c)) (hn:c.length=n) (h257:n<=257) (hm:∀ x∈c,x<=10000) :
  Calls prog 129 #[.slice a n cap] w fun e w'=>e=.returned (.slice (some ⟨w.heap.size,0,none⟩) n n)/\IsI w' w.heap.size 2 (up (depths c))/\Below w.heap.size w w':=by
 obtain⟨i0,hi,hz0,hz1,hz2⟩:=info_parts In.Tryz.infoI2;obtain⟨j0,hji,hj0,hj1,hj2⟩:=info_parts Tryz.infoTree;have HN:=hideH hn;have HS:=hideH h;have HSUM:=hideH (sum_all c (by omega) hm);have HINV:=hideH (trees_inv c n (by omega));have HNS:=hideH (ns_trees c n)
 have HDE:Hid (depths c=if (trees c n).length=1 then (zeros n).set ((at0 (trees c n) 0).2.getD 0 0) 1 else run (trees c n).length (trees c n) (zeros n)):=by
  unfold Hid;rw[<-hn];rfl
 have HTK:Hid ((c.take n).sum=c.sum):=by
  unfold Hid;rw[<-hn,List.take_length]
 clear hn h hm;go_enter func129,ntmps129
 go_wp2_with (at_make;refine wpList_make_full _ rfl (.tmp 9) (.tmp 9) 69 rfl w.heap.size 2 i0 (.int .i64 0) 1 underlying69 hi hz0 hz1 .i64 .i64 _ _ n rfl rfl (by omega) (by omega) (by rw[hz2];omega) (by unfold maxLen;omega) (Nat.le_refl _) ?_;intro w1 hown hgrow;have HI1:=hideH (made_ints hown);have HB1:=hideH ((Below.refl w.heap.size w).grown hgrow (Nat.le_refl _) (by simp));have hz1w:=(made_ints hown).lt;clear hown hgrow)
 have HS1:=hideH (((HS.o.below HB1.o).mono HB1.o.size));refine(treesOf_any a cap n c w1 HS1.o HN.o h257).mono ?_;rintro e w2 ⟨v2,m,rfl,hmt,ho2,hy2,hb2⟩;have HMT:=hideH hmt
 have hml:m.length<=n:=by rw[<-mt_length,hmt];exact trees_length c n
 have HLP:Hid (Lp w1.heap.size w.heap.size n c.sum w w2 v2 m (zeros n)):=⟨ho2,hy2,by
  have:up (zeros n)=List.replicate n 0:=by unfold up zeros;rw[List.map_replicate];rfl
  rw[this]
  exact HI1.o.below hb2 hz1w,by
  have:=HINV.o
  rw[HN.o,HTK.o]at this;rw[hmt]
  exact this,by rw[hmt];exact HNS.o,List.length_replicate ..,fun z hz=>by
  obtain⟨j,_,_,e⟩:=trees_mem c n z.1 (by rw[<-hmt];exact List.mem_map.2 ⟨z,hz,rfl⟩);rw[e]
  exact Nat.zero_lt_one,HB1.o.trans (hb2.mono HB1.o.size),Nat.le_refl _,hz1w⟩
 clear hmt ho2 hy2 hb2
 have hsl:∃ x q,v2=.slice x m.length q:=by
  obtain⟨_,h⟩:=HLP.o.own
  rcases h with⟨h,h0⟩|⟨g,q,_,hv,_⟩
  ·exact⟨none,0,by rw[h,h0]⟩
  ·exact⟨_,q,hv⟩
 obtain⟨x2,q2,rfl⟩:=hsl;obtain⟨k,hk⟩:∃ k,k=m.length:=⟨_,rfl⟩;have HK:=hideH hk;rw[<-hk]at hml HLP ⊢;clear hk;by_cases h1:k=1
 ·subst h1
  obtain⟨y,hy⟩:=List.length_eq_one_iff.1 HK.o.symm;subst hy;obtain⟨g,q',cur,hv,hgb,hmc,hmx,hbk,hcs,hct⟩:=HLP.o.own.parts Nat.zero_lt_one
  obtain⟨rfl,rfl⟩:x2=some ⟨g,0,none⟩/\q2=q':=by simp at hv;exact hv
  have hr:=row_at (m:=[y]) hbk hct 0 Nat.zero_lt_one;obtain⟨j,hjn,_,hye⟩:=trees_mem c n y.1 (by rw[<-HMT.o];exact List.mem_map.2 ⟨y,List.mem_singleton.2 rfl,rfl⟩);have hsy:=HLP.o.sym y (List.mem_singleton.2 rfl);have HTE:Hid (trees c n=[y.1]):=HMT.o.symm;obtain⟨⟨yw,ys⟩,yv⟩:=y
  simp only at hr hye hsy HTE
  obtain⟨rfl,rfl⟩:=Prod.mk.inj hye;obtain⟨gs,cs,cu,rfl,hgs,hsc,hsv⟩:=hsy;have hs0:w2.cell? ⟨gs,0,none⟩=some (.int .i64 (j:Nat)):=(cell_of_row w2 gs 0 _ _ _ hgs).trans (hsv 0 Nat.zero_lt_one)
  have hlz:j<(zeros n).length:=by rw[HLP.o.dn];exact hjn
  have cl0:w2.cell? ⟨w.heap.size,j,none⟩=some (.int .i64 (((zeros n).getD j 0:Nat):Int)):=by
   rw[HLP.o.len.cell (j:=j) (by rw[up_length];exact hlz),up_at _ _ hlz]
  have zl0:=HLP.o.len.frozen j;generalize (zeros n).getD j 0=old at cl0
  have HD1:Hid (depths c=(zeros n).set j 1):=by
   have:=HDE.o
   rw[HTE.o]at this;exact this
  have HIS:Hid (IsI (w2.setCell ⟨w.heap.size,j,none⟩ (.int .i64 1)) w.heap.size 2 (up (depths c))):=by
   have:=HLP.o.len.set j 1
   unfold Hid;rw[HD1.o];rw[show ((1:Int))=((1:Nat):Int) from rfl,up_set]at this;exact this
  have HBE:Hid (Below w.heap.size w (w2.setCell ⟨w.heap.size,j,none⟩ (.int .i64 1))):=HLP.o.low.setCell (by simp) _;obtain⟨r0,r1⟩:=hr;rw[Nat.zero_mul]at r0;rw[show 0*2+1=1 from rfl]at r1
  have hjn':(j:Int)<n:=by omega
  clear hbk hcs hct hgs hsv hlz hmx
  go_wp2_with fail
  go_loopw [4,5,6,7] (fun tv _ _ _ wr=>tv=.slice (some ⟨g,0,none⟩) 1 q2/\wr=w2.setCell ⟨w.heap.size,j,none⟩ (.int .i64 1)) (fun _ _ _ _ _=>0)
  case atStart=>exact⟨rfl,rfl⟩
  case round =>
   obtain⟨rfl,hw⟩:=hrel;subst wr
   go_wp2_with fail
   go_ret;exact⟨rfl,HIS.o,HBE.o⟩
 ·have h1':((k:Int)==1)=false:=by simp;omega
  have HRUN:Hid (depths c=run m.length (mt m) (zeros n)):=by
   have:=HDE.o
   rw[<-HMT.o,mt_length,<-HK.o,if_neg h1]at this;rw[<-HK.o];exact this
  go_wp2_with fail
  go_loopw [4,5,6,7] (fun tv _ _ _ wr=>∃ (m:List MT) (d:List Nat) (x:Option Addr) (k q:Nat),tv=.slice x k q/\k=m.length/\k<=n/\depths c=run m.length (mt m) d/\Lp w1.heap.size w.heap.size n c.sum w wr (.slice x k q) m d) (fun tv _ _ _ _=>match tv with|.slice _ k _=>k|_=>0)
  case atStart=>exact⟨m,zeros n,x2,k,q2,rfl,HK.o,hml,HRUN.o,HLP.o⟩
  case round =>
   obtain⟨m,d,x,k,q,rfl,hk,hkn,hrun,hlp⟩:=hrel;have HRU:=hideH hrun;have HL:=hideH hlp;have HKM:=hideH hk;clear hrun hlp hk HMT HLP HRUN HK;by_cases h2:1<k
   ·obtain⟨k1,rfl⟩:∃ k1,k=k1+1:=⟨k-1,by omega⟩
    obtain⟨k2,hk2⟩:∃ k2,k1=k2+1:=⟨k1-1,by omega⟩;have HK2:=hideH hk2;have hk2n:k2<=255:=(by omega);have hm1:m.length=k1+1:=HKM.o.symm;obtain⟨g,q',cur,hv,hgb,hmc,hmx,hbk,hcs,hct⟩:=HL.o.own.parts (by omega);rw[hm1]at hv hmc hct
    obtain⟨rfl,rfl⟩:x=some ⟨g,0,none⟩/\q=q':=by simp at hv;exact hv
    obtain⟨y1,hy1,hym1,hyf1,hmt1,hel1,hsub1⟩:=taken m k1 hm1;obtain⟨y2,hy2,hym2,hyf2,hmt2,hel2,hsub2⟩:=taken (m.eraseIdx (least (mt m) (k1+1))) k2 (by rw[hel1];exact hk2);have hinv:=HL.o.inv;have h2l:2<=(mt m).length:=(by rw[mt_length];omega);have hs2:y2.1=second (mt m):=(by rw[hyf2,hmt1];rfl);have hr2:mt ((m.eraseIdx (least (mt m) (k1+1))).eraseIdx (least (mt (m.eraseIdx (least (mt m) (k1+1)))) (k2+1)))=rest2 (mt m):=(by rw[hmt2,hmt1];rfl);have hsum:=HSUM.o;have hjw:=hinv.weights h2l;have hjinv:=hinv.join h2l;have hjns:=ns_join (mt m) h2l;have hrm:=run_more (mt m) d (by omega)
    have hbd:∀ z∈m,z.1.2.length<=257:=fun z hz=>by
     have h3:=ns_mem (mt m) z.1 (List.mem_map.2 ⟨z,hz,rfl⟩);have h4:=HL.o.few;omega
    have hlt:∀ z∈m,∀ s∈z.1.2,s<d.length:=fun z hz=>hinv.lt z.1 (List.mem_map.2 ⟨z,hz,rfl⟩)
    have hsm:∀ j,d.getD j 0<=2570000:=fun j=>by
     have:=hinv.small j
     omega
    have M0:=hideH (Mid.start hbk hcs hct HL.o.len)
    have HT1:Hid (∀ (W:World) (a5 b5 a6 b6:Value),Mid wr W g w.heap.size q (k1+1) m d a5 b5 a6 b6->Calls prog 161 #[.slice (some ⟨g,0,none⟩) (k1+1) q,.slice (some ⟨w.heap.size,0,none⟩) n n] W fun e w'=>e=.returned (.tuple #[.agg #[.int .i64 (y1.1.1:Nat),y1.2],.slice (some ⟨g,0,none⟩) k1 q])/\Hid (Mid wr w' g w.heap.size q k1 (m.eraseIdx (least (mt m) (k1+1))) (incs d y1.1.2) a5 b5 a6 b6)):=fun W a5 b5 a6 b6 hM=>by
     obtain⟨cu,e1,e2,e3⟩:=hM.row;refine(take_any g w.heap.size k1 q n n m d cu W hm1 hmc (by omega) e1 e2 e3 (HL.o.sym.keeps hM.kp) hbd hlt hM.len HL.o.dn (fun j=>by have:=hsm j;omega) y1 hy1).mono ?_;rintro e w' ⟨rfl,hr,hd,hw⟩;exact⟨rfl,hM.take hr hd hw⟩
    have HT2:Hid (∀ (W:World) (a5 b5 a6 b6:Value),Mid wr W g w.heap.size q k1 (m.eraseIdx (least (mt m) (k1+1))) (incs d y1.1.2) a5 b5 a6 b6->Calls prog 161 #[.slice (some ⟨g,0,none⟩) k1 q,.slice (some ⟨w.heap.size,0,none⟩) n n] W fun e w'=>e=.returned (.tuple #[.agg #[.int .i64 (y2.1.1:Nat),y2.2],.slice (some ⟨g,0,none⟩) k2 q])/\Hid (Mid wr w' g w.heap.size q k2 ((m.eraseIdx (least (mt m) (k1+1))).eraseIdx (least (mt (m.eraseIdx (least (mt m) (k1+1)))) (k2+1))) (incs (incs d y1.1.2) y2.1.2) a5 b5 a6 b6)):=fun W a5 b5 a6 b6 hM=>by
     obtain⟨cu,e1,e2,e3⟩:=hM.row;have hdl:(incs d y1.1.2).length=d.length:=incs_length _ _
     have:=take_any g w.heap.size k2 q n n (m.eraseIdx (least (mt m) (k1+1))) (incs d y1.1.2) cu W (by rw[hel1];exact hk2) (by omega) (by omega) e1 e2 (by rw[<-hk2];exact e3) ((HL.o.sym.sub hsub1).keeps hM.kp) (fun z hz=>hbd z (hsub1 z hz)) (fun z hz s hs=>by rw[hdl];exact hlt z (hsub1 z hz) s hs) hM.len (hdl.trans HL.o.dn) (fun j=>by
      have h3:=incs_le y1.1.2 d j (hlt y1 hym1);have h4:=hsm j;have h5:=hbd y1 hym1
      omega) y2 hy2
     rw[<-hk2]at this;refine this.mono ?_;rintro e w' ⟨rfl,hr,hd,hw⟩;rw[hk2]at hr hM;exact⟨rfl,by rw[hk2];exact hM.take hr hd hw⟩
    have HSY1:=HL.o.sym y1 hym1;have HSY2:=HL.o.sym y2 (hsub1 y2 hym2);have hb1:=hbd y1 hym1;have hb2:=hbd y2 (hsub1 y2 hym2);have hne1:=HL.o.ne y1 hym1;have hyf1':=hyf1
    have hjeq:mt ((m.eraseIdx (least (mt m) (k1+1))).eraseIdx (least (mt (m.eraseIdx (least (mt m) (k1+1)))) (k2+1)))++[(y1.1.1+y2.1.1,y1.1.2++y2.1.2)]=join (mt m):=by
     rw[hr2,hyf1,hs2];rfl
    have hdeq:incs (incs d y1.1.2) y2.1.2=incs (incs d (first (mt m)).2) (second (mt m)).2:=by rw[hyf1,hs2]
    have hwl:y1.1.1+y2.1.1<=2570000:=by rw[hyf1,hs2];omega
    have hsub3:∀ z∈(m.eraseIdx (least (mt m) (k1+1))).eraseIdx (least (mt (m.eraseIdx (least (mt m) (k1+1)))) (k2+1)),z∈m:=fun z hz=>hsub1 z (hsub2 z hz);have hlen3:((m.eraseIdx (least (mt m) (k1+1))).eraseIdx (least (mt (m.eraseIdx (least (mt m) (k1+1)))) (k2+1))).length=k2:=hel2;generalize (m.eraseIdx (least (mt m) (k1+1))).eraseIdx (least (mt (m.eraseIdx (least (mt m) (k1+1)))) (k2+1))=m3 at HT2 hjeq hsub3 hlen3;generalize m.eraseIdx (least (mt m) (k1+1))=m2 at HT1 HT2;have HJE:=hideH hjeq;have HDQ:=hideH hdeq;have HSB:=hideH hsub3;have HL3:=hideH hlen3;have HJI:=hideH hjinv;have HJN:=hideH hjns;have HRM:=hideH hrm;obtain⟨⟨w1',s1⟩,v1⟩:=y1;obtain⟨⟨w2',s2⟩,v2⟩:=y2
    simp only at HT1 HT2 HJE HDQ HSY1 HSY2 hb1 hb2 hne1 hwl
    obtain⟨g1,c1,cu1,rfl,hh1,hq1,hc1⟩:=HSY1;obtain⟨g2,c2,cu2,rfl,hh2,hq2,hc2⟩:=HSY2
    have HCC:Hid (∀ (W:World) (gb:Nat),W.heap[gb]? = some (.cells #[.slice (some ⟨g1,0,none⟩) s1.length c1,.slice (some ⟨g2,0,none⟩) s2.length c2] 202 (0,0))->Keeps wr W->Calls prog 162 #[.slice (some ⟨gb,0,none⟩) 2 2] W fun e w'=>∃ v,e=.returned v/\Sym w' v (s1++s2)/\Below W.heap.size W w'):=fun W gb hg hk =>
     concat_any gb g1 c1 g2 c2 s1 s2 _ W hne1 hb1 hb2 hg (lt_row (hk g1 _ hh1)) (lt_row (hk g2 _ hh2)) (fun j hj=>(cell_of_row W g1 j _ _ _ (hk g1 _ hh1)).trans (hc1 j hj)) (fun j hj=>(cell_of_row W g2 j _ _ _ (hk g2 _ hh2)).trans (hc2 j hj))
    clear hjeq hdeq hsub3 hlen3 hjinv hjns hrm hym1 hym2 hyf1 hyf2 hyf1' hmt1 hmt2 hel1 hel2 hsub1 hsub2 hy1 hy2 hs2 hr2 hinv hbd hlt hsm hh1 hq1 hc1 hh2 hq2 hc2 hv hbk hcs hct h2l hjw hk2 hm1;have HMX:=hideH hmx;clear hmx
    have HNE:Hid (0<(s1++s2).length):=by
     unfold Hid;rw[List.length_append];omega
    generalize s1.length=n1 at HT1 HCC hb1 hne1;generalize s2.length=n2 at HT2 HCC hb2;(go_wp2_with fail);refine(HT1.o _ _ _ _ _ M0.o).mono ?_;rintro e w3 ⟨rfl,M3⟩;obtain⟨c50,c51,z50,z51⟩:=M3.o.cells5;(go_wp2_with fail);have M4:=hideH (M3.o.set5 (.int .i64 (w1':Nat)) (.slice (some ⟨g1,0,none⟩) n1 c1));refine(HT2.o _ _ _ _ _ M4.o).mono ?_;rintro e w5 ⟨rfl,M5⟩;clear c50 c51 z50 z51;obtain⟨c50,c51,z50,z51⟩:=M5.o.cells5;obtain⟨c60,c61,z60,z61⟩:=M5.o.cells6;(go_wp2_with fail);have M6:=hideH (M5.o.set6 (.int .i64 (w2':Nat)) (.slice (some ⟨g2,0,none⟩) n2 c2));have hz6:((w5.setCell ⟨wr.heap.size+1,0,none⟩ (.int .i64 (w2':Nat))).setCell ⟨wr.heap.size+1,1,none⟩ (.slice (some ⟨g2,0,none⟩) n2 c2)).heap.size=w5.heap.size:=(by simp[World.setCell]);generalize (w5.setCell ⟨wr.heap.size+1,0,none⟩ (.int .i64 (w2':Nat))).setCell ⟨wr.heap.size+1,1,none⟩ (.slice (some ⟨g2,0,none⟩) n2 c2)=w6 at M6 hz6 ⊢
    have HG6:Hid ((w6.alloc (.cells #[.slice (some ⟨g1,0,none⟩) n1 c1,.slice (some ⟨g2,0,none⟩) n2 c2] 202)).heap[w5.heap.size]? = some (.cells #[.slice (some ⟨g1,0,none⟩) n1 c1,.slice (some ⟨g2,0,none⟩) n2 c2] 202 (0,0))):=by
     unfold Hid;rw[<-hz6];exact heap_alloc_new w6 _
    have M6a:=hideH (M6.o.below (W':=w6.alloc (.cells #[.slice (some ⟨g1,0,none⟩) n1 c1,.slice (some ⟨g2,0,none⟩) n2 c2] 202)) ((Below.refl _ _).alloc (Nat.le_refl _) _));clear c50 c51 z50 z51 c60 c61 z60 z61 hz6;refine(HCC.o _ w5.heap.size HG6.o M6a.o.kp).mono ?_;rintro e w7 ⟨v7,rfl,hs7,hb7⟩;have M7:=hideH (M6a.o.below hb7);have S7:=hideH hs7;obtain⟨g7,c7,cu7,rfl,_,_,_⟩:=hs7;clear hb7 M3 M4 M5 M6 M6a HG6;obtain⟨n7,hn7⟩:∃ n7,n7=(s1++s2).length:=⟨_,rfl⟩;have HN7:=hideH hn7;rw[<-hn7]at S7 ⊢;clear hn7;obtain⟨c50,c51,z50,z51⟩:=M7.o.cells5;obtain⟨c60,c61,z60,z61⟩:=M7.o.cells6
    have HOT:Hid (OwnT w7 204 w1.heap.size (.slice (some ⟨g,0,none⟩) k2 q) m3):=by
     obtain⟨cu,e1,e2,e3⟩:=M7.o.row;exact OwnT.of HL3.o hgb e1 (by have:=HK2.o;omega) HMX.o e2 e3
    have HOW:Hid (w7.ownsRow w1.heap.size 204 2 (.slice (some ⟨g,0,none⟩) k2 q) k2 (cells m3)):=by
     have:=HOT.o
     unfold OwnT at this;rw[HL3.o]at this;exact this
    have hz7:=M7.o.wrt.size;have hzr:=HL.o.low.size;have hbase:w1.heap.size<=w7.heap.size:=(by have:=M7.o.hg;omega)
    go_wp2_with (at_builtin;refine wpList_append_own _ rfl (.tmp 45) (.tmp 53) 200 rfl w1.heap.size 204 j0 _ 2 32 underlying200 hji hj0 hj1 hj2 rfl (by decide) _ _ _ rfl (HOW.o.alloc _) ⟨w7.heap.size,0,none⟩ 1 1 [.int .i64 ((w1':Int)+w2'),.slice (some ⟨g7,0,none⟩) n7 c7] rfl rfl (two_new _ _ _ _) (two_one rfl rfl) (by unfold maxLen;omega) (by omega) (by simp;omega) ?_)
    intro v9 w9 hown hgrow _;have HO9:=hideH (OwnT.snoc (x:=((w1' + w2',s1++s2),.slice (some ⟨g7,0,none⟩) n7 c7)) (m:=m3) (by rw[HL3.o];exact hown));have hgg:w.heap.size<g:=(by have:=HL.o.hi;omega);have hgr:=M7.o.hg;have hlow7:Below w.heap.size w w7:=⟨M7.o.wrt.os.trans HL.o.low.os,M7.o.wrt.tape.trans HL.o.low.tape,M7.o.wrt.output.trans HL.o.low.output,by omega,fun k hk=>(M7.o.wrt.block k (by omega) (by omega) (by omega)).trans (HL.o.low.block k hk)⟩
    have HB9:Hid (Below w.heap.size w w9):=by
     refine(hlow7.alloc (by omega) _).grown hgrow (by simp;omega) ?_;intro k hk
     have:=(World.ownsRow.lt HOW.o k hk).1
     omega
    have hk9:Keeps w7 w9:=(Keeps.below ((Below.refl _ _).alloc (Nat.le_refl _) _)).trans (Keeps.grown hgrow ((HOT.o.alloc _).rowT (by decide)))
    have HS9:Hid (Syms w9 (m3++[((w1' + w2',s1++s2),.slice (some ⟨g7,0,none⟩) n7 c7)])):=by
     intro z hz
     rcases List.mem_append.1 hz with hz|hz
     ·exact((HL.o.sym.sub HSB.o).keeps (M7.o.kp.trans hk9)) z hz
     ·rw[List.mem_singleton.1 hz]
      exact S7.o.keeps hk9
    have HI9:Hid (IsI w9 w.heap.size 2 (up (incs (incs d s1) s2))):=by
     unfold Hid IsI;rw[hgrow.block w.heap.size (by simp;omega) (by simp[Value.ownBlock];omega),Below.heap_alloc _ _ _ (by omega)];exact M7.o.len
    have HM9:Hid (mt (m3++[((w1' + w2',s1++s2),.slice (some ⟨g7,0,none⟩) n7 c7)])=join (mt m)):=by
     unfold Hid;rw[<-HJE.o];unfold mt;rw[List.map_append];rfl
    have HLN:Hid ((m3++[(((w1' + w2',s1++s2),.slice (some ⟨g7,0,none⟩) n7 c7):MT)]).length=k2+1):=by
     unfold Hid;rw[List.length_append,HL3.o];rfl
    have HNE9:Hid (∀ z∈m3++[(((w1' + w2',s1++s2),.slice (some ⟨g7,0,none⟩) n7 c7):MT)],0<z.1.2.length):=by
     intro z hz
     rcases List.mem_append.1 hz with hz|hz
     ·exact HL.o.ne z (HSB.o z hz)
     ·rw[List.mem_singleton.1 hz]
      exact HNE.o
    obtain⟨x9,q9,hv9⟩:∃ x q,v9=.slice x (k2+1) q:=by
     obtain⟨g9,q9,_,hv9,_⟩:=HO9.o.parts (by rw[HLN.o];omega);rw[HLN.o]at hv9;exact⟨_,q9,hv9⟩
    subst hv9
    have HLP9:Hid (Lp w1.heap.size w.heap.size n c.sum w w9 (.slice x9 (k2+1) q9) (m3++[((w1' + w2',s1++s2),.slice (some ⟨g7,0,none⟩) n7 c7)]) (incs (incs d s1) s2)) :=
     ⟨HO9.o,HS9.o,HI9.o,by rw[HM9.o,HDQ.o];exact HJI.o,by rw[HM9.o,HJN.o];exact HL.o.few,by rw[incs_length,incs_length];exact HL.o.dn,HNE9.o,HB9.o,HL.o.lo,HL.o.hi⟩
    have HRU9:Hid (depths c=run (m3++[(((w1' + w2',s1++s2),.slice (some ⟨g7,0,none⟩) n7 c7):MT)]).length (mt (m3++[((w1' + w2',s1++s2),.slice (some ⟨g7,0,none⟩) n7 c7)])) (incs (incs d s1) s2)):=by
     have h3:=HRU.o;have h4:=HRM.o;rw[mt_length]at h4;rw[h4,<-HDQ.o,<-HM9.o,mt_length]at h3;exact h3
    clear hown hgrow hlow7 hk9 c50 c51 z50 z51 c60 c61 z60 z61;have hk21:k2+1<=n:=(by have:=HK2.o;omega);(go_wp2_with fail)
    go_roundw
    case rel=>exact⟨_,_,x9,k2+1,q9,rfl,HLN.o.symm,hk21,HRU9.o,HLP9.o⟩
    case measure=>have:=HK2.o;simp;omega
   ·have h2':decide ((1:Int)<(k:Int))=false:=by simp;omega
    have HF:Hid (depths c=d):=HRU.o.trans (run_done _ _ _ (by rw[mt_length,<-HKM.o];omega));(go_wp2_with fail);go_ret;exact⟨rfl,by rw[HF.o];exact HL.o.len,HL.o.low⟩
end Hf
namespace Hf
open In (IsI irow Ints OwnI)
open Bi (within within_yes within_of within_impl)
def sumAt (W:World):Value->Nat
 |.slice (some ⟨b,off,_⟩) n _=>((List.range n).map fun j=>match W.cell? ⟨b,off+j,none⟩ with|some (.int _ x)=>x.toNat|_=>0).sum
 |_=>0
theorem sumAt_ints {W : World} {B n q : Nat} {x : Option Addr} {c : List Nat} (h : Ints W B x (up c)) (hn : c.length = n) : sumAt W (.slice x n q) = c.sum := by
  rcases h with h0 | ⟨b, off, rfl, _, hc⟩
  · have hc0 : c = [] := by
      have := congrArg List.length h0
      rw [up_length] at this
      exact List.eq_nil_of_length_eq_zero this
    subst hc0;subst hn
    cases x <;> rfl
  · have e : ((List.range n).map fun j => match W.cell? ⟨b, off + j, none⟩ with | some (.int _ x) => x.toNat | _ => 0) = c := by
     apply List.ext_getElem
     · simp [hn]
     · intro j h1 h2
       rw [List.getElem_map, List.getElem_range, hc j (by rw [up_length]; exact h2), up_at c j h2, List.getD_eq_getElem?_getD, List.getElem?_eq_getElem h2]
       simp
    exact congrArg List.sum e
theorem own_of {W:World} {g base n:Nat} {l:List Int} (h:IsI W g 2 l) (hg:base<=g) (hn:l.length=n) (hm:n<=1048576):OwnI W base (.slice (some ⟨g,0,none⟩) n n) l:=by
 subst hn;refine⟨by simp,.inr ⟨g,l.length,irow l,rfl,hg,h,Nat.le_refl _,by unfold maxLen;omega,by rw[In.irow_size,Nat.mul_one],?_⟩⟩;unfold irow;rw[List.take_of_length_le (by simp)]
theorem within_okay (d:List Nat) (h:d.length<=257):within (up d) 12=okay d:=by
 cases ho:okay d with
 |true =>
  refine within_of (by rw[up_length];exact h) fun x hx=>?_;obtain⟨y,hy,rfl⟩:=List.mem_map.1 hx
  have:=of_decide_eq_true (List.all_eq_true.1 ho y hy)
  omega
 |false =>
  refine Bool.eq_false_iff.2 fun hw=>?_
  have:=(within_yes hw).2
  rw[Bool.eq_false_iff]at ho;refine ho (List.all_eq_true.2 fun y hy=>decide_eq_true ?_)
  have:=(this (y:Int) (List.mem_map.2 ⟨y,hy,rfl⟩)).2
  omega
def nats (l:List Int):List Nat:=l.map Int.toNat
theorem up_nats (l:List Int) (m:Int) (h:within l m=true):up (nats l)=l:=by
 have:=(within_yes h).2
 unfold up nats;rw[List.map_map]
 conv=>rhs;rw[<-List.map_id l]
 refine List.map_congr_left fun x hx=>?_
 have:=this x hx
 show ((x.toNat:Nat):Int)=x
 omega
def lensR (l:List Int):List Int:=if within l 10000=true then up (lenOf (nats l)) else []
theorem flat_small (c:List Nat) (h:∀ x∈c,x<=10000):∀ x∈flat c,x<=10000:=by
 intro x hx;obtain⟨y,hy,rfl⟩:=List.mem_map.1 hx
 have:=h y hy
 split<;>omega
theorem lengths_impl (a:Option Addr) (cap:Nat) (l:List Int) (w:World) (h:Ints w w.heap.size a l) (hl:l.length<=1048576) :
  Calls prog 89 #[.slice a l.length cap] w fun e w'=>∃ v,e=.returned v/\OwnI w' w.heap.size v (lensR l)/\Below w.heap.size w w':=by
 have HW:=hideH (within_impl l 10000 a cap w.heap.size w h hl)
 cases hw:within l 10000 with
 |false =>
  have HR:Hid (lensR l=[]):=if_neg (by rw[hw];decide);rw[hw]at HW;generalize l.length=n at HW ⊢;go_enter func89,ntmps89
  go_wp2_with fail
  refine HW.o.mono ?_;rintro e w1 ⟨rfl,hw1⟩;subst w1
  go_wp2_with fail
  go_ret;exact⟨_,rfl,by rw[HR.o];exact OwnI.nil _ _,Below.refl _ _⟩
 |true =>
  have hlen:=(within_yes hw).1;have hup:=up_nats l 10000 hw;have HR:Hid (lensR l=up (lenOf (nats l))):=if_pos hw
  have HI:Hid (Ints w w.heap.size a (up (nats l))):=by rw[hup];exact h
  have HM:Hid (∀ x∈nats l,x<=10000):=by
   intro x hx;obtain⟨y,hy,rfl⟩:=List.mem_map.1 hx
   have:=(within_yes hw).2 y hy
   omega
  have HN:Hid ((nats l).length=l.length):=List.length_map ..;rw[hw]at HW;rw[HR.o];generalize nats l=c0 at HI HM HN;generalize l.length=n at HW hlen HN ⊢;clear hw hup h hl HR;obtain⟨R,hR⟩:∃ R,R=lenOf c0:=⟨_,rfl⟩;have HRR:=hideH hR;rw[<-hR];clear hR;go_enter func89,ntmps89
  go_wp2_with fail
  refine HW.o.mono ?_;rintro e w1 ⟨rfl,hw1⟩;subst w1
  go_wp2_with fail
  refine(depths_any a cap n c0 w HI.o HN.o hlen HM.o).mono ?_;rintro e w2 ⟨rfl,hi2,hb2⟩;have HI2:=hideH hi2;have HB2:=hideH hb2;have hz2:=hi2.lt;clear hi2 hb2
  go_wp2_with fail
  go_loopw [0,3] (fun cv lv wr=>∃ (c:List Nat) (x:Option Addr) (q g:Nat),cv=.slice x n q/\lv=.slice (some ⟨g,0,none⟩) n n/\Ints wr wr.heap.size x (up c)/\c.length=n/\(∀ y∈c,y<=10000)/\R=lenOf c/\IsI wr g 2 (up (depths c))/\w.heap.size<=g/\Below w.heap.size w wr) (fun cv _ wr=>sumAt wr cv)
  case atStart=>exact⟨c0,a,cap,w.heap.size,rfl,rfl,(HI.o.below HB2.o).mono HB2.o.size,HN.o,HM.o,HRR.o,HI2.o,Nat.le_refl _,HB2.o⟩
  case round =>
   obtain⟨c,x,q,g,rfl,rfl,hxi,hcn,hcm,hcr,hgi,hgl,hbw⟩:=hrel;have XI:=hideH hxi;have CN:=hideH hcn;have CM:=hideH hcm;have CR:=hideH hcr;have GI:=hideH hgi;have BW:=hideH hbw;have HWI:=hideH (within_impl (up (depths c)) 12 (some ⟨g,0,none⟩) n wr.heap.size wr (hgi.ints hgi.lt) (by rw[up_length,depths_length,hcn];omega));rw[up_length,depths_length,hcn,within_okay _ (by rw[depths_length,hcn];exact hlen)]at HWI;have hzw:=hbw.size;clear hxi hcn hcm hcr hgi hbw
   cases hok:okay (depths c) with
   |true =>
    have HF:Hid (R=depths c):=CR.o.trans (lenOf_yes c hok);rw[hok]at HWI;clear hok;(go_wp2_with fail);refine HWI.o.mono ?_;rintro e w3 ⟨rfl,hw3⟩;subst w3;(go_wp2_with fail);go_ret;exact⟨_,rfl,by rw[HF.o];exact own_of GI.o hgl (by rw[up_length,depths_length,CN.o]) (by omega),BW.o⟩
   |false =>
    have HNO:=hideH (lenOf_no c (by have:=CN.o;omega) (by rw[hok];decide));have HLT:=hideH (flat_more c (by have:=CN.o;omega) (by rw[hok];decide));rw[hok]at HWI;clear hok;(go_wp2_with fail);refine HWI.o.mono ?_;rintro e w3 ⟨rfl,hw3⟩;subst w3;(go_wp2_with fail);refine(flat_any x q n c wr XI.o CN.o hlen CM.o).mono ?_;rintro e w4 ⟨rfl,hi4,hb4⟩;have I4:=hideH hi4;have B4:=hideH (BW.o.trans (hb4.mono hzw));have hz4:=hi4.lt;clear hi4 hb4;(go_wp2_with fail);have CN4:Hid ((flat c).length=n):=(by rw[flat_length];exact CN.o);refine(depths_any (some ⟨wr.heap.size,0,none⟩) n n (flat c) w4 (I4.o.ints hz4) CN4.o hlen (flat_small c CM.o)).mono ?_;rintro e w5 ⟨rfl,hi5,hb5⟩;have I5:=hideH hi5;have I4':=hideH ((I4.o.below hb5 hz4));have B5:=hideH (B4.o.trans (hb5.mono (by omega)));have hz5:=hb5.size;clear hi5 hb5;(go_wp2_with fail)
    go_roundw
    case rel=>exact⟨flat c,some ⟨wr.heap.size,0,none⟩,n,w4.heap.size,rfl,rfl,I4'.o.ints I4'.o.lt,CN4.o,flat_small c CM.o,CR.o.trans HNO.o,I5.o,by omega,B5.o⟩
    case measure =>
     have e1:=sumAt_ints (q:=q) XI.o CN.o;have e2:=sumAt_ints (q:=n) (I4'.o.ints I4'.o.lt) CN4.o;have e3:=HLT.o;rw[<-e1,<-e2]at e3;exact e3
end Hf
namespace Hf
open In (IsI irow Ints OwnI)
open Bi (within within_yes within_of within_long)
end Hf
namespace Hf
theorem leastS_any (g n cap a:Nat) (but:Int) (m:List MT) (w:World) (hn:m.length=n) (h257:n<=257) (hbut:∀ i,i<n->((i:Int)=but↔i=a)) (hc:∀ i (h:i<m.length),w.cell? ⟨g,i*2,none⟩=some (.int .i64 (m[i].1.1:Nat))) :
  Calls prog 196 #[.slice (some ⟨g,0,none⟩) n cap,.int .i64 but] w fun e w'=>e=.returned (.int .i64 (oi (lb (mt m) a n)))/\∃ d,w'=w.drewN d:=by
 have HN:=hideH hn;have HB:=hideH hbut;have HC:=hideH hc;have HL:=hideH (lb_lt (mt m) a);clear hn hbut hc;go_enter func196,ntmps196
 go_wp2_with fail
 go_loopw [6,5] (fun iv kv wr=>∃ (i:Nat) (k:Int),iv=.int .i64 i/\kv=.int .i64 k/\i<=n/\k=oi (lb (mt m) a i)/\∃ d,wr=w.drewN d) (fun iv _ _=>n-(intOf iv).toNat)
 case atStart=>exact⟨0,-1,rfl,rfl,Nat.zero_le _,rfl,0,rfl⟩
 case round =>
  obtain⟨i,k,rfl,rfl,hi,hk,d,hw⟩:=hrel;subst wr;have HK:=hideH hk;clear hk;by_cases hlt:i<n
  ·have hi':i<m.length:=by rw[HN.o];exact hlt
   by_cases hia:i=a
   ·obtain rfl:=(HB.o i hlt).2 hia
    have HF:Hid (k=oi (lb (mt m) a (i+1))):=by
     unfold Hid;rw[lb,if_pos hia];exact HK.o
    clear hia HB HK HL HC;(go_wp2_with fail)
    go_big_quiet (fail)
    (go_wp2_with fail)
    go_roundw
    case rel=>exact⟨i+1,k,by go_num,rfl,by omega,HF.o,_,rfl⟩
    case measure=>simp[intOf];omega
   ·have hne:¬((i:Int)=but):=fun e=>hia ((HB.o i hlt).1 e)
    have hq:((i:Int) != but)=true:=by simp;exact hne
    clear hne;have HIA:=hideH hia;clear hia
    cases hlb:lb (mt m) a i with
    |none =>
     have HF:=hideH (lb_none hlb HIA.o);have hkn:k<0:=(by rw[HK.o,hlb];decide);have hkd:decide (k<0)=true:=decide_eq_true hkn;clear HK hlb;(go_wp2_with fail)
     go_big_quiet (fail)
     (go_wp2_with fail)
     go_roundw
     case rel=>exact⟨i+1,i,by go_num,rfl,by omega,by rw[HF.o];rfl,_,rfl⟩
     case measure=>simp[intOf];omega
    |some kk =>
     have hkl:=HL.o i kk hlb;have hk':kk<m.length:=(by rw[HN.o];omega);have HF:=hideH (lb_some hlb HIA.o);rw[wt_mt m i hi',wt_mt m kk hk']at HF
     obtain rfl:k=(kk:Int):=by rw[HK.o,hlb];rfl
     have ci:=HC.o i hi';have ck:=HC.o kk hk';generalize m[i].1.1=x at ci HF;generalize m[kk].1.1=y at ck HF;have hkd:decide ((kk:Int)<0)=false:=decide_eq_false (by omega);have hin:(i:Int)<(n:Int):=(by omega);have hkn:(kk:Int)<(n:Int):=(by omega);clear HK hlb hi' hk';by_cases hxy:x<y
     ·have hxy':(x:Int)<(y:Int):=by omega
      rw[if_pos hxy]at HF;(go_wp2_with fail)
      go_big_quiet (fail)
      (go_wp2_with fail)
      go_roundw
      case rel=>exact⟨i+1,i,by go_num,rfl,by omega,by rw[HF.o];rfl,_,rfl⟩
      case measure=>simp[intOf];omega
     ·have hxy':decide ((x:Int)<(y:Int))=false:=by simp;omega
      rw[if_neg hxy]at HF;(go_wp2_with fail)
      go_big_quiet (fail)
      (go_wp2_with fail)
      go_roundw
      case rel=>exact⟨i+1,kk,by go_num,rfl,by omega,by rw[HF.o];rfl,_,rfl⟩
      case measure=>simp[intOf];omega
  ·obtain rfl:i=n:=by omega
   go_wp2_with fail
   go_ret;exact⟨by rw[HK.o];rfl,_,rfl⟩
theorem erase_snoc {α:Type} (X:List α) (y:α) (k:Nat):(X++[y]).eraseIdx k=if k<X.length then X.eraseIdx k++[y] else if k=X.length then X else X++[y]:=by
 by_cases h:k<X.length
 ·rw[if_pos h,List.eraseIdx_append_of_lt_length h]
 ·rw[if_neg h,List.eraseIdx_append_of_length_le (by omega)]
  by_cases h2:k=X.length
  ·rw[if_pos h2,h2,Nat.sub_self]
   simp
  ·rw[if_neg h2,List.eraseIdx_of_length_le (by simp;omega)]
def midJ (m:List MT) (a b i:Nat):List MT:=((m.take i).eraseIdx a).eraseIdx b
theorem take_snoc (m:List MT) (i:Nat) (hi:i<m.length):m.take (i+1)=m.take i++[m[i]]:=by
 rw[List.take_add_one,List.getElem?_eq_getElem hi];rfl
theorem midJ_step (m:List MT) (a b i:Nat) (hi:i<m.length):midJ m a b (i+1)=if i=a∨i=shift a b then midJ m a b i else midJ m a b i++[m[i]]:=by
 have hl:(m.take i).length=i:=by rw[List.length_take];omega
 unfold midJ;rw[take_snoc m i hi];generalize m[i]=y;generalize m.take i=X at hl ⊢;rw[erase_snoc,hl];by_cases h1:a<i
 ·rw[if_pos h1,erase_snoc]
  have hle:(X.eraseIdx a).length=i-1:=by rw[List.length_eraseIdx,if_pos (by omega),hl]
  rw[hle];by_cases h2:b<i-1
  ·rw[if_pos h2,if_neg]
   unfold shift
   split<;>omega
  ·rw[if_neg h2,List.eraseIdx_of_length_le (l:=X.eraseIdx a) (k:=b) (by omega)]
   by_cases h3:b=i-1
   ·rw[if_pos h3,if_pos]
    unfold shift;rw[if_neg (by omega)];omega
   ·rw[if_neg h3,if_neg]
    unfold shift;rw[if_neg (by omega)];omega
 ·rw[if_neg h1,List.eraseIdx_of_length_le (l:=X) (k:=a) (by omega)]
  by_cases h2:a=i
  ·rw[if_pos h2,if_pos (.inl h2.symm)]
  ·rw[if_neg h2,erase_snoc,hl]
   by_cases h3:b<i
   ·rw[if_pos h3,if_neg]
    unfold shift;rw[if_pos (by omega)];omega
   ·rw[if_neg h3,List.eraseIdx_of_length_le (l:=X) (k:=b) (by omega)]
    by_cases h4:b=i
    ·rw[if_pos h4,if_pos]
     unfold shift;rw[if_pos (by omega)];omega
    ·rw[if_neg h4,if_neg]
     unfold shift
     split<;>omega
theorem midJ_skip (m:List MT) (a b i:Nat) (hi:i<m.length) (h:i=a∨i=shift a b):midJ m a b (i+1)=midJ m a b i:=by
 rw[midJ_step m a b i hi,if_pos h]
theorem midJ_keep (m:List MT) (a b i:Nat) (hi:i<m.length) (h:¬i=a) (h':¬i=shift a b):midJ m a b (i+1)=midJ m a b i++[m[i]]:=by
 rw[midJ_step m a b i hi,if_neg (by omega)]
theorem midJ_length (m:List MT) (a b i:Nat):(midJ m a b i).length<=i:=by
 unfold midJ;rw[List.length_eraseIdx,List.length_eraseIdx,List.length_take]
 split<;>split<;>omega
theorem midJ_mem (m:List MT) (a b i:Nat) (x:MT) (h:x∈midJ m a b i):x∈m :=
 List.mem_of_mem_take (List.mem_of_mem_eraseIdx (List.mem_of_mem_eraseIdx h))
theorem midJ_all (m:List MT) (a b:Nat):midJ m a b m.length=(m.eraseIdx a).eraseIdx b:=by
 unfold midJ;rw[List.take_length]
theorem erase_at (m:List MT) (a b:Nat):(m.eraseIdx a)[b]? = m[shift a b]?:=by
 unfold shift
 split
 ·rw[List.getElem?_eraseIdx_of_lt (by assumption)]
 ·rw[List.getElem?_eraseIdx_of_ge (by omega)]
theorem lb_first (l:List Tree) (n:Nat) (hn:l.length=n) (h0:0<n):lb l n n=some (least l n):=by
 have h:=lb_low l n n (Nat.le_refl _);rw[if_neg (by omega),List.eraseIdx_of_length_le (by omega)]at h;rw[h]
 have:=least_le l n
 unfold shift;rw[if_pos (by omega)]
theorem incs_two (d s t:List Nat):incs d (s++t)=incs (incs d s) t:=by
 unfold incs;rw[List.foldl_append]
structure Two (m:List MT) (n a b:Nat) (y1 y2:MT):Prop where
 an:a<n+2
 bn:b<n+2
 ne:¬a=b
 fa:lb (mt m) (n+2) (n+2)=some a
 fb:lb (mt m) a (n+2)=some b
 at1:m[a]? = some y1
 at2:m[b]? = some y2
 jn:∃ b',b=shift a b'/\mt (midJ m a b' (n+2))++[(y1.1.1+y2.1.1,y1.1.2++y2.1.2)]=join (mt m)/\y1.1=first (mt m)/\y2.1=second (mt m)
theorem two_of (m:List MT) (n:Nat) (hn:m.length=n+2):∃ a b y1 y2,Two m n a b y1 y2:=by
 obtain⟨y1,hy1,_,hf1,hm1,hl1,_⟩:=taken m (n+1) hn;obtain⟨y2,hy2,_,hf2,hm2,hl2,_⟩:=taken (m.eraseIdx (least (mt m) (n+1+1))) n hl1;have hle:=least_le (mt m) (n+2);have hle2:=least_le (mt (m.eraseIdx (least (mt m) (n+2)))) (n+1)
 have he:(mt m).eraseIdx (least (mt m) (n+2))=mt (m.eraseIdx (least (mt m) (n+2))):=by
  unfold mt;rw[erase_map]
 refine⟨least (mt m) (n+2),shift (least (mt m) (n+2)) (least (mt (m.eraseIdx (least (mt m) (n+2)))) (n+1)),y1,y2,by omega,?_,?_,lb_first _ _ (by rw[mt_length];exact hn) (by omega),?_,hy1,?_,_,rfl,?_,hf1,?_⟩
 ·unfold shift
  split<;>omega
 ·unfold shift
  split<;>omega
 ·have:=lb_all (mt m) (least (mt m) (n+2)) (n+2) (by omega) (by omega)
  rw[this,he];rfl
 ·rw[<-erase_at]
  exact hy2
 ·rw[<-hn,midJ_all,hn,hm2,hm1,hf1,hf2,hm1]
  rfl
 ·rw[hf2,hm1]
  rfl
end Hf
namespace Hf
open In (IsI irow Ints)
open Ap (Own0 wpList_append_own0)
theorem Tryz.infoTreeS:(prog.info? 213).map (fun i=>(i.zero,i.size,i.bytes))=some (some (.agg #[.int .i64 0,.slice none 0 0]),2,32):=by kernel_rfl
theorem leastS_at (g n cap a:Nat) (but:Int) (k:Nat) (m:List MT) (cur:Array Value) (t:TypeId) (w W:World) (hB:Below w.heap.size w W) (hb:w.heap[g]? = some (.cells cur t (0,0))) (ht:cur.toList.take (m.length*2)=cells m) (hn:m.length=n) (h257:n<=257) (hbut:∀ i,i<n->((i:Int)=but↔i=a)) (hk:lb (mt m) a n=some k) :
  Calls prog 196 #[.slice (some ⟨g,0,none⟩) n cap,.int .i64 but] W fun e w'=>e=.returned (.int .i64 (k:Nat))/\Below w.heap.size w w':=by
 have:=leastS_any g n cap a but m W hn h257 hbut (fun i hi=>(row_at ((hB.block g (lt_row hb)).trans hb) ht i hi).1)
 rw[hk]at this;refine this.mono ?_;rintro e w' ⟨rfl,d,rfl⟩;exact⟨rfl,below_drewN hB d⟩
theorem Wr.drew {g gl:Nat} {a b:World} (h:Wr g gl a b):Wr g gl a b.drew:=⟨h.os,h.tape,h.output,h.size,h.block⟩
theorem OwnT.mono {W:World} {e:TypeId} {base base':Nat} {v:Value} {m:List MT} (h:OwnT W e base v m) (hb:base'<=base):OwnT W e base' v m:=by
 obtain⟨hl,h⟩:=h;refine⟨hl,?_⟩
 rcases h with h|⟨g,cap,cur,hv,hg,rest⟩
 ·exact .inl h
 ·exact .inr ⟨g,cap,cur,hv,Nat.le_trans hb hg,rest⟩
theorem Wr.low {gl:Nat} {a b c:World} (h:Below a.heap.size a b) (k:Wr gl gl b c):Wr gl gl a c :=
 ⟨k.os.trans h.os,k.tape.trans h.tape,k.output.trans h.output,Nat.le_trans h.size k.size,fun i hi h1 h2=>(k.block i (Nat.lt_of_lt_of_le hi h.size) h1 h2).trans (h.block i hi)⟩
theorem joinS_any (g gl n cap nl capl:Nat) (m:List MT) (d:List Nat) (cur:Array Value) (w:World) (hn:m.length=n+2) (h257:n+2<=257) (hb:w.heap[g]? = some (.cells cur 213 (0,0))) (ht:cur.toList.take (m.length*2)=cells m)
  (hy:Syms w m) (hsl:∀ x∈m,x.1.2.length<=257) (hne:∀ x∈m,0<x.1.2.length) (hlt:∀ x∈m,∀ s∈x.1.2,s<d.length) (hd:IsI w gl 2 (up d)) (hdn:d.length=nl) (hdm:∀ j,d.getD j 0<=3000000) (hww:(first (mt m)).1+(second (mt m)).1<=2570000) :
  Calls prog 168 #[.slice (some ⟨g,0,none⟩) (n+2) cap,.slice (some ⟨gl,0,none⟩) nl capl] w fun e w' =>
   ∃ v m',e=.returned v/\mt m'=join (mt m)/\OwnT w' 213 w.heap.size v m'/\Syms w' m'/\IsI w' gl 2 (up (incs (incs d (first (mt m)).2) (second (mt m)).2))/\Wr gl gl w w':=by
 obtain⟨i0,hi,hz0,hz1,hz2⟩:=info_parts Tryz.infoInt;obtain⟨j0,hji,hj0,hj1,hj2⟩:=info_parts Tryz.infoTreeS;obtain⟨a,b,y1,y2,T⟩:=two_of m n hn;obtain⟨b',hbb,hjn,hf1,hf2⟩:=T.jn;have an:=T.an;have bn:=T.bn
 have hgl:g≠gl:=by
  rintro rfl
  have:=hd
  unfold IsI at this;rw[hb]at this;simp at this
 have HL1:=hideH (fun (W:World) (hB:Below w.heap.size w W)=>leastS_at g (n+2) cap (n+2) (-1) a m cur _ w W hB hb ht hn h257 (fun i hi=>⟨fun h=>by omega,fun h=>by omega⟩) T.fa);have HL2:=hideH (fun (W:World) (hB:Below w.heap.size w W)=>leastS_at g (n+2) cap a (a:Int) b m cur _ w W hB hb ht hn h257 (fun i hi=>by omega) T.fb)
 have hal:a<m.length:=by omega
 have hbl:b<m.length:=by omega
 have e1:m[a]=y1:=by have:=T.at1;rw[List.getElem?_eq_getElem hal]at this;exact Option.some.inj this
 have e2:m[b]=y2:=by have:=T.at2;rw[List.getElem?_eq_getElem hbl]at this;exact Option.some.inj this
 have hm1:y1∈m:=by rw[<-e1];exact List.getElem_mem hal
 have hm2:y2∈m:=by rw[<-e2];exact List.getElem_mem hbl
 have HR1:=hideH (fun (W:World) (h:W.heap[g]? = some (.cells cur 213 (0,0)))=>row_at (m:=m) h ht a hal);have HR2:=hideH (fun (W:World) (h:W.heap[g]? = some (.cells cur 213 (0,0)))=>row_at (m:=m) h ht b hbl);have HRI:=hideH (fun (W:World) (h:W.heap[g]? = some (.cells cur 213 (0,0)))=>row_at (m:=m) h ht);rw[e1]at HR1;rw[e2]at HR2;have HY1:=hy y1 hm1;have HY2:=hy y2 hm2;have hs1:=hsl y1 hm1;have hs2:=hsl y2 hm2;have hn1:=hne y1 hm1
 have HLT:Hid (∀ s∈y1.1.2++y2.1.2,s<d.length):=by
  intro s hs
  rcases List.mem_append.1 hs with hs|hs
  ·exact hlt y1 hm1 s hs
  ·exact hlt y2 hm2 s hs
 have hwl:y1.1.1+y2.1.1<=2570000:=by rw[hf1,hf2];exact hww
 have HINC:Hid (incs (incs d (first (mt m)).2) (second (mt m)).2=incs d (y1.1.2++y2.1.2)):=by
  unfold Hid;rw[<-hf1,<-hf2,incs_two]
 have HJN:=hideH hjn;have HSK:=hideH (midJ_skip m a b');have HKP:=hideH (midJ_keep m a b');rw[<-hbb]at HSK HKP;have HML:=hideH (midJ_length m a b');have HMM:=hideH (midJ_mem m a b');have HN:=hideH hn;have HY:=hideH hy;have HB:=hideH hb;have HD:=hideH hd;have HDM:=hideH hdm;have HDN:=hideH hdn;have hgz:=lt_row hb;have hlz:=hd.lt;have hne2:=T.ne;rw[HINC.o];clear hjn hbb e1 e2 hal hbl hm1 hm2 hsl hne hlt hdm hdn hd hb ht hy hn hww hf1 hf2 T HINC;obtain⟨⟨w1',s1⟩,v1⟩:=y1;obtain⟨⟨w2',s2⟩,v2⟩:=y2
 simp only at HR1 HR2 HY1 HY2 hs1 hs2 hn1 HLT hwl HJN ⊢
 obtain⟨g1,c1,cu1,rfl,hh1,hq1,hc1⟩:=HY1;obtain⟨g2,c2,cu2,rfl,hh2,hq2,hc2⟩:=HY2;have HNA:=hideH (fun (W:World) (h:Keeps w W)=>Sym.news (W:=W) (g:=g1) (s:=s1) fun j hj=>(cell_of_row W g1 j _ _ _ (h g1 _ hh1)).trans (hc1 j hj));have HNB:=hideH (fun (W:World) (h:Keeps w W)=>Sym.news (W:=W) (g:=g2) (s:=s2) fun j hj=>(cell_of_row W g2 j _ _ _ (h g2 _ hh2)).trans (hc2 j hj));have HLA:=hideH (nums_length s1);have HLB:=hideH (nums_length s2);obtain⟨na,hna⟩:∃ na,na=s1.length:=⟨_,rfl⟩;obtain⟨nb,hnb⟩:∃ nb,nb=s2.length:=⟨_,rfl⟩;have EA:=hideH hna;have EB:=hideH hnb;rw[<-hna]at hs1 hn1 HR1;rw[<-hnb]at hs2 HR2;clear hna hnb hh1 hc1 hq1 hh2 hc2 hq2
 have an':(a:Int)<(n:Int)+2:=by omega
 have bn':(b:Int)<(n:Int)+2:=by omega
 go_enter func168,ntmps168
 go_wp2_with fail
 refine(HL1.o _ (Below.refl _ _)).mono ?_;rintro e w3 ⟨rfl,hb3⟩;have B3:=hideH hb3;clear hb3
 go_wp2_with fail
 refine(HL2.o _ B3.o).mono ?_;rintro e w4 ⟨rfl,hb4⟩;have B4:=hideH hb4;have hz4:=hb4.size;have G4:=hideH ((hb4.block g hgz).trans HB.o);have B4a:Hid (Below w4.heap.size w4 (w4.alloc (.cells #[] 3))):=(Below.refl _ _).alloc (Nat.le_refl _) _;obtain⟨r10,r11⟩:=HR1.o _ ((B4a.o.block g (by omega)).trans G4.o);clear hb4 HL1 HL2 B3
 go_wp2_with (at_builtin;refine wpList_append_own0 _ rfl (.tmp 17) (.tmp 22) 202 rfl w.heap.size 3 i0 (.int .i64 0) 1 8 underlying202 hi hz0 hz1 hz2 rfl (by decide) _ 0 [] rfl (.inl ⟨_,rfl,rfl,rfl⟩) ⟨g1,0,none⟩ na c1 (nums s1) rfl (by rw[HLA.o,<-EA.o];omega) (HNA.o _ ?k1) (nums_one _) hn1 (by unfold maxLen;omega) (by omega) ?z1 ?_)
 case z1=>simp;omega
 case k1=>exact(Keeps.below (B4.o.mono (by omega))).trans (Keeps.below B4a.o)
 intro v5 w5 hown hbel
 have O5:Hid (OwnY w5 w.heap.size v5 s1):=by
  unfold Hid OwnY;rw[<-EA.o]
  simpa using hown
 have B5:Hid (Below w.heap.size w w5):=(B4.o.alloc hz4 _).trans (hbel _ (Nat.le_refl _));have hz5:=B5.o.size;have G5:=hideH ((B5.o.block g hgz).trans HB.o);clear hown hbel r10 r11;obtain⟨r20,r21⟩:=HR2.o _ G5.o;clear B4 B4a G4 hz4
 go_wp2_with (at_builtin;refine wpList_append_own _ rfl (.tmp 24) (.tmp 29) 202 rfl w.heap.size 3 i0 (.int .i64 0) 1 8 underlying202 hi hz0 hz1 hz2 rfl (by decide) _ _ _ rfl O5.o ⟨g2,0,none⟩ nb c2 (nums s2) rfl (by rw[HLB.o,<-EB.o];omega) (HNB.o _ (Keeps.below B5.o)) (nums_one _) (by unfold maxLen;rw[<-EA.o];omega) (by rw[<-EA.o];omega) hz5 ?_)
 intro v6 w6 hown hgrow _
 have O6:Hid (OwnY w6 w.heap.size v6 (s1++s2)):=by
  rw[EB.o]at hown;exact OwnY.app hown
 have B6:Hid (Below w.heap.size w w6):=by
  refine B5.o.grown hgrow hz5 ?_;intro k hk;exact(World.ownsRow.lt O5.o k hk).1
 clear hown hgrow r20 r21 O5 B5 G5 hz5;have hz6:=B6.o.size
 have HSL:Hid (na+nb=(s1++s2).length):=by
  unfold Hid;rw[List.length_append,<-EA.o,<-EB.o]
 obtain⟨g7,c7,cu7,hv6,hh7,hq7,hc7⟩:=O6.o.sym (by rw[<-HSL.o];omega);rw[<-HSL.o]at hv6;subst hv6;have H7:=hideH hh7;have HC7:=hideH hc7;have HS6:Hid (Sym w6 (.slice (some ⟨g7,0,none⟩) (na+nb) c7) (s1++s2)):=O6.o.sym (by rw[<-HSL.o];omega);have h7z:=lt_row hh7;have hd6:IsI w6 gl 2 (up d):=HD.o.below B6.o hlz
 have h7l:g7≠gl:=by
  rintro rfl;unfold IsI at hd6;rw[hh7]at hd6;simp at hd6
 have hsn:na+nb<=514:=by omega
 have HIN:=hideH (fun j=>incs_le ((s1++s2).take j) d);have HD6:Hid (IsI w6 gl 2 (up (incs d ((s1++s2).take 0)))):=hd6;generalize hse:s1++s2=s at HLT HJN HSL HC7 HS6 HIN HD6 ⊢;have HSE:=hideH hse;clear hse;clear hh7 hq7 hc7 O6 HNA HNB hd6 HLA HLB EA EB;obtain⟨sl,hsl⟩:∃ sl,sl=na+nb:=⟨_,rfl⟩;rw[<-hsl]at HSL HS6 hsn ⊢
 have hs0:0<sl:=by omega
 clear hsl
 go_wp2_with fail
 go_loopw [8] (fun iv wr=>∃ j:Nat,iv=.int .i64 j/\j<=sl/\IsI wr gl 2 (up (incs d (s.take j)))/\Wr gl gl w6 wr) (fun iv _=>sl-(intOf iv).toNat)
 case atStart=>exact⟨0,rfl,Nat.zero_le _,HD6.o,Wr.refl _ _ _⟩
 case round =>
  obtain⟨j,rfl,hj,hdj,hwr⟩:=hrel;have HDJ:=hideH hdj;have HWR:=hideH hwr;clear hdj hwr;by_cases hlt:j<sl
  ·have hjx:j<s.length:=by rw[<-HSL.o];exact hlt
   have cs0:wr.cell? ⟨g7,j,none⟩=some (.int .i64 (s[j]:Nat)):=(cell_of_row wr g7 j _ _ _ ((HWR.o.block g7 h7z h7l h7l).trans H7.o)).trans (HC7.o j hjx);have hsy:=HLT.o s[j] (List.getElem_mem hjx);have HNX:=hideH (incs_next d s j hjx);have HBD:=hideH (HIN.o j s[j] (fun x hx=>HLT.o x (List.mem_of_mem_take hx)));have HBM:=hideH (HDM.o s[j]);generalize s[j]=sy at cs0 hsy HNX HBD HBM
   have hlen:sy<(incs d (s.take j)).length:=by rw[incs_length];exact hsy
   have cl0:wr.cell? ⟨gl,sy,none⟩=some (.int .i64 (((incs d (s.take j)).getD sy 0:Nat):Int)):=by
    rw[HDJ.o.cell (j:=sy) (by rw[up_length];exact hlen),up_at _ _ hlen]
   have zl0:=HDJ.o.frozen sy
   have hsn':(sy:Int)<nl:=by have:=HDN.o;omega
   have HTL:Hid ((s.take j).length<=514):=by
    unfold Hid;rw[List.length_take];omega
   obtain⟨dv,hdv⟩:∃ dv,dv=(incs d (s.take j)).getD sy 0:=⟨_,rfl⟩
   have hdvb:dv<=3000514:=by have h1:=HBD.o;have h2:=HBM.o;have h3:=HTL.o;omega
   have HDV:=hideH hdv;rw[<-hdv]at cl0;clear hdv hjx hsy hlen HBD HBM HTL
   have hjl:(j:Int)<(sl:Int):=by omega
   go_wp2_with fail
   go_region
   all_goals (
    (go_wp2_with fail)
    go_roundw
    case rel =>
     refine⟨j+1,by go_num,by omega,?_,(HWR.o.setl _ _).drew⟩
     have:=HDJ.o.set sy ((dv:Int)+1)
     rw[HNX.o,<-HDV.o,<-up_set];exact this
    case measure=>simp[intOf];omega)
  ·obtain rfl:j=sl:=by omega
   have HDE:Hid (IsI wr gl 2 (up (incs d s))):=by
    have:=HDJ.o
    rw[HSL.o,List.take_length]at this;exact this
   have WW:Hid (Wr gl gl w wr):=Wr.low B6.o HWR.o
   have HSW:Hid (Sym wr (.slice (some ⟨g7,0,none⟩) j c7) s):=by
    obtain⟨x1,x2,x3,x4,x5,x6⟩:=HS6.o
    obtain⟨rfl,rfl⟩:g7=x1/\c7=x2:=by simpa [<-HSL.o] using x4
    exact⟨g7,c7,x3,x4,(HWR.o.block g7 h7z h7l h7l).trans x5,x6⟩
   have hzr:=HWR.o.size;have GR:=hideH ((WW.o.block g hgz hgl hgl).trans HB.o);obtain⟨r10,r11⟩:=HR1.o _ GR.o;obtain⟨r20,r21⟩:=HR2.o _ GR.o
   have hwp:IntKind.i64.wrap ((w1':Int)+(w2':Int))=(w1':Int)+(w2':Int):=by rw[IntKind.wrap_i64];omega
   have BA:=hideH (show Below wr.heap.size wr (wr.alloc (.cells #[.int .i64 0,.slice none 0 0] 213)) from (Below.refl _ _).alloc (Nat.le_refl _) _);obtain⟨q10,q11⟩:=HR1.o _ ((BA.o.block g (by omega)).trans GR.o);obtain⟨q20,q21⟩:=HR2.o _ ((BA.o.block g (by omega)).trans GR.o);clear HDJ HIN HC7 H7 HD6 HLT r11 r21 q11 q21
   go_wp2_with fail
   go_region
   have hcast:(w1':Int)+(w2':Int)=((w1' + w2':Nat):Int):=by omega
   rw[hcast];generalize w1' + w2'=ws at HJN hwl ⊢;clear hcast hwp r10 r20 q10 q20 BA HR1 HR2;have B9:=hideH (show Below wr.heap.size wr (wr.alloc (.cells #[.int .i64 (ws:Nat),.slice (some ⟨g7,0,none⟩) j c7] 213)).drew from ((Below.refl _ _).alloc (Nat.le_refl _) _).drew);have R9:Hid ((wr.alloc (.cells #[.int .i64 (ws:Nat),.slice (some ⟨g7,0,none⟩) j c7] 213)).drew.heap[wr.heap.size]? = some (.cells #[.int .i64 (ws:Nat),.slice (some ⟨g7,0,none⟩) j c7] 213 (0,0))):=heap_alloc_new wr _
   have hz9:(wr.alloc (.cells #[.int .i64 (ws:Nat),.slice (some ⟨g7,0,none⟩) j c7] 213)).drew.heap.size=wr.heap.size+1:=by simp
   generalize (wr.alloc (.cells #[.int .i64 (ws:Nat),.slice (some ⟨g7,0,none⟩) j c7] 213)).drew=W9 at B9 R9 hz9 ⊢;have W9W:=hideH (WW.o.more B9.o);have G9:=hideH ((B9.o.block g (by omega)).trans GR.o);have D9:Hid (IsI W9 gl 2 (up (incs d s))):=HDE.o.below B9.o HDE.o.lt;have S9:=hideH (HSW.o.keeps (Keeps.below B9.o));have Y9:Hid (Syms W9 m):=HY.o.keeps ((Keeps.wr WW.o HD.o (by decide) HD.o (by decide)).trans (Keeps.below B9.o));have hz99:w.heap.size<=W9.heap.size:=W9W.o.size;have C90:Hid (∀ W,Below W9.heap.size W9 W->W.heap[wr.heap.size]? = some (.cells #[.int .i64 (ws:Nat),.slice (some ⟨g7,0,none⟩) j c7] 213 (0,0))):=fun W h=>(h.block _ (by omega)).trans R9.o
   have hg9:g<W9.heap.size:=by omega
   have hl9:=D9.o.lt;clear B9 WW GR HDE HSW HWR B6 HS6 R9 HY HB HD;generalize wr.heap.size=z9 at hz9 C90 hzr ⊢;clear wr hz9
   go_wp2_with fail
   go_loopw [11,10] (fun iv ov wq=>∃ i:Nat,iv=.int .i64 i/\i<=n+2/\Own0 wq W9.heap.size 213 2 ov (midJ m a b' i).length (cells (midJ m a b' i))/\Below W9.heap.size W9 wq) (fun iv _ _=>n+2-(intOf iv).toNat)
   case atStart=>exact⟨0,rfl,Nat.zero_le _,.inl ⟨_,rfl,by simp[midJ],by simp[midJ,cells]⟩,(Below.refl _ _).alloc (Nat.le_refl _) _⟩
   case round =>
    obtain⟨i,rfl,hi2,ho,hbq⟩:=hrel;have OQ:=hideH ho;have BQ:=hideH hbq;have hzq:=hbq.size;clear ho hbq;by_cases hlt2:i<n+2
    ·have him:i<m.length:=by rw[HN.o];exact hlt2
     have hi':(i:Int)<(n:Int)+2:=by omega
     by_cases hia:i=a
     ·have SK:=hideH (HSK.o i him (.inl hia))
      subst hia;(go_wp2_with fail)
      go_roundw
      case rel=>exact⟨i+1,by go_num,by omega,by rw[SK.o];exact OQ.o,BQ.o⟩
      case measure=>simp[intOf];omega
     ·have hna:((i:Int) != (a:Int))=true:=by simp;omega
      by_cases hib:i=b
      ·have SK:=hideH (HSK.o i him (.inr hib))
       subst hib;clear hia;(go_wp2_with fail)
       go_roundw
       case rel=>exact⟨i+1,by go_num,by omega,by rw[SK.o];exact OQ.o,BQ.o⟩
       case measure=>simp[intOf];omega
      ·have hnb:((i:Int) != (b:Int))=true:=by simp;omega
       have KP:=hideH (HKP.o i him hia hib);have SX:=Y9.o m[i] (List.getElem_mem him);have B1:=hideH (BQ.o);obtain⟨ri0,ri1⟩:=HRI.o _ ((BQ.o.block g hg9).trans G9.o) i him;have hml:=HML.o i;generalize m[i]=x at KP SX ri0 ri1;obtain⟨⟨xw,xs⟩,xv⟩:=x
       simp only at SX ri0 ri1
       obtain⟨gx,cx,cux,rfl,_,_,_⟩:=SX;obtain⟨lx,hlx⟩:∃ lx,lx=xs.length:=⟨_,rfl⟩;have HLX:=hideH hlx;rw[<-hlx]at ri1;clear hlx hia hib
       go_wp2_with (at_builtin;refine wpList_append_own0 _ rfl (.tmp 79) (.tmp 84) 211 rfl W9.heap.size 213 j0 _ 2 32 underlying211 hji hj0 hj1 hj2 rfl (by decide) _ _ _ rfl (OQ.o.alloc _) ⟨wr.heap.size,0,none⟩ 1 1 [.int .i64 (xw:Nat),.slice (some ⟨gx,0,none⟩) lx cx] rfl rfl (two_new _ _ _ _) (two_one rfl rfl) (by decide) (by unfold maxLen;omega) (by omega) (by simp;omega) ?_)
       intro v' w2 hown hbel
       have O2:Hid (Own0 w2 W9.heap.size 213 2 v' (midJ m a b' (i+1)).length (cells (midJ m a b' (i+1)))):=by
        refine .inr ?_
        have:=OwnT.snoc (m:=midJ m a b' i) (x:=((xw,xs),.slice (some ⟨gx,0,none⟩) lx cx)) hown
        rw[KP.o,<-HLX.o];exact this
       have B2:Hid (Below W9.heap.size W9 w2):=(BQ.o.alloc hzq _).trans (hbel _ (Nat.le_refl _));clear hown hbel;(go_wp2_with fail)
       go_roundw
       case rel=>exact⟨i+1,by go_num,by omega,O2.o,B2.o⟩
       case measure=>simp[intOf];omega
    ·obtain rfl:i=n+2:=by omega
     have c90:=cell_of_row wr _ 0 _ _ _ (C90.o wr BQ.o);have c91:=cell_of_row wr _ 1 _ _ _ (C90.o wr BQ.o);simp at c90 c91;have hml:=HML.o (n+2)
     go_wp2_with (at_builtin;refine wpList_append_own0 _ rfl (.tmp 86) (.tmp 88) 211 rfl W9.heap.size 213 j0 _ 2 32 underlying211 hji hj0 hj1 hj2 rfl (by decide) _ _ _ rfl (OQ.o.alloc _) ⟨wr.heap.size,0,none⟩ 1 1 [.int .i64 (ws:Nat),.slice (some ⟨g7,0,none⟩) j c7] rfl rfl (two_new _ _ _ _) (two_one rfl rfl) (by decide) (by unfold maxLen;omega) (by omega) (by simp;omega) ?_)
     intro v' w2 hown hbel;have O2:Hid (OwnT w2 213 w.heap.size v' (midJ m a b' (n+2)++[((ws,s),.slice (some ⟨g7,0,none⟩) j c7)])):=(OwnT.snoc (m:=midJ m a b' (n+2)) (x:=((ws,s),.slice (some ⟨g7,0,none⟩) j c7)) hown).mono hz99;have B2:Hid (Below W9.heap.size W9 w2):=(BQ.o.alloc hzq _).trans (hbel _ (Nat.le_refl _))
     have Y2:Hid (Syms w2 (midJ m a b' (n+2)++[((ws,s),.slice (some ⟨g7,0,none⟩) j c7)])):=by
      intro x hx
      rcases List.mem_append.1 hx with hx|hx
      ·exact(Y9.o x (HMM.o _ x hx)).keeps (Keeps.below B2.o)
      ·rw[List.mem_singleton.1 hx]
       exact S9.o.keeps (Keeps.below B2.o)
     clear hown hbel;(go_wp2_with fail);go_ret;refine⟨_,_,rfl,?_,O2.o,Y2.o,by rw[HSE.o];exact D9.o.below B2.o hl9,W9W.o.more B2.o⟩;rw[<-HJN.o];unfold mt;rw[List.map_append];rfl
end Hf
namespace Hf
open In (IsI irow Ints made_ints)
open Ap (Own0 wpList_append_own0k)
def mxN (d:List Nat):Nat->Nat
 |0=>0
 |j+1=>max (mxN d j) (d.getD j 0)
theorem mxN_le (d:List Nat) (b:Nat):∀ i,mxN d i<=b↔∀ j,j<i->d.getD j 0<=b
 |0=>⟨fun _ j h=>by omega,fun _=>Nat.zero_le _⟩
 |i+1=>by
  have ih:=mxN_le d b i;rw[mxN]
  constructor
  ·intro h j hj
   by_cases e:j=i
   ·subst e
    omega
   ·exact ih.1 (by omega) j (by omega)
  ·intro h
   have h1:=ih.2 fun j hj=>h j (by omega);have h2:=h i (by omega);omega
theorem okay_mx (d:List Nat):okay d=decide (mxN d d.length<=12):=by
 unfold okay;by_cases h:mxN d d.length<=12
 ·rw[decide_eq_true h,List.all_eq_true]
  intro x hx;obtain⟨j,hj,rfl⟩:=List.getElem_of_mem hx
  have:=(mxN_le d 12 d.length).1 h j hj
  rw[List.getD_eq_getElem?_getD,List.getElem?_eq_getElem hj]at this;exact decide_eq_true this
 ·rw[decide_eq_false h,Bool.eq_false_iff]
  intro hall;rw[List.all_eq_true]at hall;refine h ((mxN_le d 12 d.length).2 fun j hj=>?_);rw[List.getD_eq_getElem?_getD,List.getElem?_eq_getElem hj];exact of_decide_eq_true (hall _ (List.getElem_mem hj))
theorem max_any (p q:Nat) (w:World):Calls prog 169 #[.int .i64 p,.int .i64 q] w fun e w'=>e=.returned (.int .i64 (max p q:Nat))/\w'=w:=by
 by_cases h:q<p
 ·have HE:Hid (max p q=p):=by unfold Hid;omega
  rw[HE.o]
  have h':(q:Int)<p:=by omega
  go_enter func169,ntmps169
  go_wp2_with fail
  go_ret;exact⟨rfl,rfl⟩
 ·have HE:Hid (max p q=q):=by unfold Hid;omega
  rw[HE.o]
  have h':decide ((q:Int)<p)=false:=by simp;omega
  go_enter func169,ntmps169
  go_wp2_with fail
  go_ret;exact⟨rfl,rfl⟩
theorem own0_slice {W:World} {e:TypeId} {base size k:Nat} {v:Value} {xs:List Value} (h:Own0 W base e size v k xs):∃ x q,v=.slice x k q:=by
 rcases h with⟨b,rfl,rfl,_⟩|⟨_,h⟩
 ·exact⟨_,_,rfl⟩
 ·rcases h with⟨h,h0⟩|⟨g,q,_,hv,_⟩
  ·exact⟨none,0,by rw[h,h0]⟩
  ·exact⟨_,q,hv⟩
theorem own0_own {W:World} {e:TypeId} {base:Nat} {v:Value} {m:List MT} (h:Own0 W base e 2 v m.length (cells m)) (h0:0<m.length):OwnT W e base v m:=by
 rcases h with⟨b,_,h,_⟩|h
 ·omega
 ·exact h
theorem join_ne (m:List MT) (h2:2<=(mt m).length) (hne:∀ z∈m,0<z.1.2.length) (t:Tree) (ht:t∈join (mt m)):0<t.2.length:=by
 have hall:∀ u∈mt m,0<u.2.length:=by
  intro u hu;obtain⟨z,hz,rfl⟩:=List.mem_map.1 hu;exact hne z hz
 have hp:=two_perm (mt m) h2
 rcases List.mem_cons.1 ((join_perm (mt m)).mem_iff.1 ht) with rfl|hr
 ·have:=hall (first (mt m)) (hp.mem_iff.2 (List.mem_cons_self ..))
  unfold both;rw[List.length_append];omega
 ·exact hall t (hp.mem_iff.2 (List.mem_cons_of_mem _ (List.mem_cons_of_mem _ hr)))
structure LpS (base gl n S:Nat) (w:World) (wr:World) (v:Value) (m:List MT) (d:List Nat):Prop where
 own:Own0 wr base 213 2 v m.length (cells m)
 sym:Syms wr m
 len:IsI wr gl 2 (up d)
 inv:Inv (mt m) d S
 few:ns (mt m)<=n
 dn:d.length=n
 ne:∀ z∈m,0<z.1.2.length
 low:Below w.heap.size w wr
 lo:w.heap.size<=gl
 hi:gl<base
theorem lensS_any (a:Option Addr) (cap n:Nat) (c:List Nat) (w:World) (h:Ints w w.heap.size a (up c)) (hn:c.length=n) (h257:n<=257) (hm:∀ x∈c,x<=10000) :
  Calls prog 139 #[.slice a n cap] w fun e w'=>e=.returned (.tuple #[.slice (some ⟨w.heap.size,0,none⟩) n n,.int .i64 (mxN (depths c) n:Nat)])/\IsI w' w.heap.size 2 (up (depths c))/\Below w.heap.size w w':=by
 obtain⟨i0,hi,hz0,hz1,hz2⟩:=info_parts In.Tryz.infoI2;obtain⟨j0,hji,hj0,hj1,hj2⟩:=info_parts Tryz.infoTreeS;have HN:=hideH hn;have HS:=hideH h;have HSUM:=hideH (sum_all c (by omega) hm);have HINV:=hideH (trees_inv c n (by omega));have HNS:=hideH (ns_trees c n)
 have HDE:Hid (depths c=if (trees c n).length=1 then (zeros n).set ((at0 (trees c n) 0).2.getD 0 0) 1 else run (trees c n).length (trees c n) (zeros n)):=by
  unfold Hid;rw[<-hn];rfl
 have HTK:Hid ((c.take n).sum=c.sum):=by
  unfold Hid;rw[<-hn,List.take_length]
 clear hn h hm;go_enter func139,ntmps139
 go_wp2_with (at_make;refine wpList_make_full _ rfl (.tmp 10) (.tmp 10) 69 rfl w.heap.size 2 i0 (.int .i64 0) 1 underlying69 hi hz0 hz1 .i64 .i64 _ _ n rfl rfl (by omega) (by omega) (by rw[hz2];omega) (by unfold maxLen;omega) (Nat.le_refl _) ?_;intro w1 hown hgrow;have HI1:=hideH (made_ints hown);have HB1:=hideH ((Below.refl w.heap.size w).grown hgrow (Nat.le_refl _) (by simp));have hz1w:=(made_ints hown).lt;clear hown hgrow)
 have HS1:=hideH (((HS.o.below HB1.o).mono HB1.o.size));clear HS
 go_loopw [6,5] (fun iv tv wr=>∃ (j:Nat) (m:List MT),iv=.int .i64 j/\j<=n/\mt m=trees c j/\Own0 wr w1.heap.size 213 2 tv m.length (cells m)/\Syms wr m/\Below w1.heap.size w1 wr) (fun iv _ _=>n-(intOf iv).toNat)
 case atStart=>exact⟨0,[],rfl,Nat.zero_le _,rfl,.inl ⟨_,rfl,rfl,rfl⟩,fun x hx=>absurd hx (List.not_mem_nil),(Below.refl _ _).alloc (Nat.le_refl _) _⟩
 case round =>
  obtain⟨j,m,rfl,hj,hmt,ho,hy,hbw⟩:=hrel;have HM:=hideH hmt;have HO:=hideH ho;have HY:=hideH hy;have HBW:=hideH hbw;have hwz:=hbw.size
  have hml:m.length<=j:=by rw[<-mt_length,hmt];exact trees_length c j
  clear hmt ho hy hbw;by_cases hlt:j<n
  ·have hjc:j<c.length:=by rw[HN.o];exact hlt
   obtain⟨b,off,rfl,hbz,hcl⟩:=HS1.o.some (by rw[up_length];omega);have ci:wr.cell? ⟨b,off+j,none⟩=some (.int .i64 (c[j]:Nat)):=(HBW.o.cell (p:=⟨b,off+j,none⟩) hbz).trans (up_get hcl j hjc);have HT1:=hideH (trees_yes c j hjc);have HT0:=hideH (trees_no c j hjc);generalize c[j]=cj at ci HT1 HT0;clear hcl hjc;by_cases h0:0<cj
   ·have h0':(0:Int)<(cj:Int):=by omega
    go_wp2_with (at_builtin;refine wpList_append_own0k _ rfl (.tmp 24) (.tmp 32) 211 rfl w1.heap.size 213 j0 _ 2 32 underlying211 hji hj0 hj1 hj2 rfl (by decide) _ _ _ rfl ((HO.o.alloc _).alloc _) ⟨wr.heap.size+1,0,none⟩ 1 1 [.int .i64 (cj:Nat),.slice (some ⟨wr.heap.size,0,none⟩) 1 1] rfl rfl ?c1 (two_one rfl rfl) (by decide) (by unfold maxLen;omega) (by omega) (by simp;omega) ?_)
    case c1 =>
     have:=two_new (wr.alloc (.cells #[.int .i64 (j:Nat)] 3)) (.int .i64 (cj:Nat)) (.slice (some ⟨wr.heap.size,0,none⟩) 1 1) 213
     simpa using this
    intro v' w2 hown hbel hkp;have HO2:Hid (Own0 w2 w1.heap.size 213 2 v' (m++[(((cj,[j]),.slice (some ⟨wr.heap.size,0,none⟩) 1 1):MT)]).length (cells (m++[((cj,[j]),.slice (some ⟨wr.heap.size,0,none⟩) 1 1)]))):=.inr (OwnT.snoc (x:=((cj,[j]),.slice (some ⟨wr.heap.size,0,none⟩) 1 1)) hown);have HB2:Hid (Below w1.heap.size w1 w2):=((HBW.o.alloc hwz _).alloc (by simp;omega) _).trans (hbel _ (Nat.le_refl _));have hk1:Keeps wr (wr.alloc (.cells #[.int .i64 (j:Nat)] 3)):=Keeps.below ((Below.refl _ _).alloc (Nat.le_refl _) _);have hk2:=hk1.trans (Keeps.below ((Below.refl _ (wr.alloc (.cells #[.int .i64 (j:Nat)] 3))).alloc (Nat.le_refl _) (.cells #[.int .i64 (cj:Nat),.slice (some ⟨wr.heap.size,0,none⟩) 1 1] 213)));have hk3:Keeps ((wr.alloc (.cells #[.int .i64 (j:Nat)] 3)).alloc (.cells #[.int .i64 (cj:Nat),.slice (some ⟨wr.heap.size,0,none⟩) 1 1] 213)) w2:=fun g' cur' e'=>hkp g' cur' _ (by decide) e'
    have HY2:Hid (Syms w2 (m++[((cj,[j]),.slice (some ⟨wr.heap.size,0,none⟩) 1 1)])):=by
     intro x hx
     rcases List.mem_append.1 hx with hx|hx
     ·exact(HY.o x hx).keeps (hk2.trans hk3)
     ·rw[List.mem_singleton.1 hx]
      exact((Sym.one wr j).keeps (Keeps.below ((Below.refl _ _).alloc (Nat.le_refl _) _))).keeps hk3
    clear hown hbel hkp hk1 hk2 hk3;(go_wp2_with fail)
    go_roundw
    case rel=>exact⟨j+1,m++[((cj,[j]),.slice (some ⟨wr.heap.size,0,none⟩) 1 1)],by go_num,by omega,by rw[HT1.o h0,<-HM.o];unfold mt;rw[List.map_append];rfl,HO2.o,HY2.o,HB2.o⟩
    case measure=>simp[intOf];omega
   ·have h0':cj=0:=by omega
    subst h0';(go_wp2_with fail)
    go_roundw
    case rel=>exact⟨j+1,m,by go_num,by omega,by rw[HT0.o h0];exact HM.o,HO.o,HY.o,HBW.o⟩
    case measure=>simp[intOf];omega
  ·obtain rfl:j=n:=by omega
   have hlen:w1.heap.size<=wr.heap.size:=hwz
   have HLP:Hid (LpS w1.heap.size w.heap.size j c.sum w wr u5 m (zeros j)):=⟨HO.o,HY.o,by
    have:up (zeros j)=List.replicate j 0:=by unfold up zeros;rw[List.map_replicate];rfl
    rw[this]
    exact HI1.o.below HBW.o hz1w,by
    have:=HINV.o
    rw[HN.o,HTK.o]at this;rw[HM.o]
    exact this,by rw[HM.o];exact HNS.o,List.length_replicate ..,fun z hz=>by
    obtain⟨i,_,_,e⟩:=trees_mem c j z.1 (by rw[<-HM.o];exact List.mem_map.2 ⟨z,hz,rfl⟩);rw[e]
    exact Nat.zero_lt_one,HB1.o.trans (HBW.o.mono HB1.o.size),Nat.le_refl _,hz1w⟩
   obtain⟨x2,q2,hv2⟩:=own0_slice HLP.o.own;subst hv2;clear HO HY HBW HI1 HS1;generalize wr=w2 at HLP hlen ⊢;have HMT:=hideH HM.o;clear HM;obtain⟨k,hk⟩:∃ k,k=m.length:=⟨_,rfl⟩;have HK:=hideH hk;rw[<-hk]at hml HLP ⊢;clear hk;by_cases h1:k=1
   ·subst h1
    obtain⟨y,hy⟩:=List.length_eq_one_iff.1 HK.o.symm;subst hy;obtain⟨g,q',cur,hv,hgb,hmc,hmx,hbk,hcs,hct⟩:=(own0_own (m:=[y]) HLP.o.own Nat.zero_lt_one).parts Nat.zero_lt_one
    obtain⟨rfl,rfl⟩:x2=some ⟨g,0,none⟩/\q2=q':=by simp at hv;exact hv
    have hr:=row_at (m:=[y]) hbk hct 0 Nat.zero_lt_one;obtain⟨jj,hjn,_,hye⟩:=trees_mem c j y.1 (by rw[<-HMT.o];exact List.mem_map.2 ⟨y,List.mem_singleton.2 rfl,rfl⟩);have hsy:=HLP.o.sym y (List.mem_singleton.2 rfl);have HTE:Hid (trees c j=[y.1]):=HMT.o.symm;obtain⟨⟨yw,ys⟩,yv⟩:=y
    simp only at hr hye hsy HTE
    obtain⟨rfl,rfl⟩:=Prod.mk.inj hye;obtain⟨gs,cs,cu,rfl,hgs,hsc,hsv⟩:=hsy;have hs0:w2.cell? ⟨gs,0,none⟩=some (.int .i64 (jj:Nat)):=(cell_of_row w2 gs 0 _ _ _ hgs).trans (hsv 0 Nat.zero_lt_one);have hlz:jj<(zeros j).length:=(by rw[HLP.o.dn];exact hjn)
    have cl0:w2.cell? ⟨w.heap.size,jj,none⟩=some (.int .i64 (((zeros j).getD jj 0:Nat):Int)):=by
     rw[HLP.o.len.cell (j:=jj) (by rw[up_length];exact hlz),up_at _ _ hlz]
    have zl0:=HLP.o.len.frozen jj;generalize (zeros j).getD jj 0=old at cl0
    have HD1:Hid (depths c=(zeros j).set jj 1):=by
     have:=HDE.o
     rw[HTE.o]at this;exact this
    have I3:Hid (IsI (w2.setCell ⟨w.heap.size,jj,none⟩ (.int .i64 1)) w.heap.size 2 (up (depths c))):=by
     have:=HLP.o.len.set jj 1
     unfold Hid;rw[HD1.o];rw[show ((1:Int))=((1:Nat):Int) from rfl,up_set]at this;exact this
    have B3:Hid (Below w.heap.size w (w2.setCell ⟨w.heap.size,jj,none⟩ (.int .i64 1))):=HLP.o.low.setCell (by simp) _;obtain⟨r0,r1⟩:=hr;rw[Nat.zero_mul]at r0;rw[show 0*2+1=1 from rfl]at r1;have hjn':(jj:Int)<j:=(by omega);clear hbk hcs hct hgs hsv hlz hmx HINV HNS HDE HLP;(go_wp2_with fail);clear cl0 zl0 r0 r1 hs0;generalize w2.setCell ⟨w.heap.size,jj,none⟩ (.int .i64 1)=w4 at I3 B3 ⊢
    go_loopw [5] (fun tv wr=>tv=.slice (some ⟨g,0,none⟩) 1 q2/\wr=w4) (fun _ _=>0)
    case atStart=>exact⟨rfl,rfl⟩
    case round =>
     obtain⟨rfl,hw⟩:=hrel;subst wr;(go_wp2_with fail);have DL:=hideH ((depths_length c).trans HN.o);generalize hD:depths c=D at I3 DL;have HD:=hideH hD;clear hD;generalize w4=wz at I3 B3 ⊢
     go_loopw [8,7] (fun iv mv wr=>∃ i:Nat,iv=.int .i64 i/\i<=j/\mv=.int .i64 (mxN D i:Nat)/\wr=wz) (fun iv _ _=>j-(intOf iv).toNat)
     case atStart=>exact⟨0,rfl,Nat.zero_le _,rfl,rfl⟩
     case round =>
      obtain⟨i,rfl,hi3,rfl,hw⟩:=hrel;subst wr;by_cases hlt3:i<j
      ·have hil:i<D.length:=by rw[DL.o];exact hlt3
       have ci:wz.cell? ⟨w.heap.size,i,none⟩=some (.int .i64 (D.getD i 0:Nat)):=by
        rw[I3.o.cell (j:=i) (by rw[up_length];exact hil),up_at _ _ hil]
       have NX:Hid (mxN D (i+1)=max (mxN D i) (D.getD i 0)):=rfl;have hii:(i:Int)<j:=(by omega);generalize D.getD i 0=x at ci NX;generalize mxN D i=p at NX ⊢;clear hil;(go_wp2_with fail);refine(max_any p x wz).mono ?_;rintro e w8 ⟨rfl,hw8⟩;subst w8;(go_wp2_with fail)
       go_roundw
       case rel=>exact⟨i+1,by go_num,by omega,by rw[NX.o],by trivial⟩
       case measure=>simp[intOf];omega
      ·obtain rfl:i=j:=by omega
       (go_wp2_with fail);go_ret2;exact⟨by rw[HD.o];rfl,by rw[HD.o];exact I3.o,B3.o⟩
   ·have h1':((k:Int)==1)=false:=by simp;omega
    have HRUN:Hid (depths c=run m.length (mt m) (zeros j)):=by
     have:=HDE.o
     rw[<-HMT.o,mt_length,<-HK.o,if_neg h1]at this;rw[<-HK.o];exact this
    (go_wp2_with fail)
    go_loopw [5] (fun tv wr=>∃ (m:List MT) (d:List Nat) (x:Option Addr) (k q:Nat),tv=.slice x k q/\k=m.length/\k<=j/\depths c=run m.length (mt m) d/\LpS w1.heap.size w.heap.size j c.sum w wr (.slice x k q) m d) (fun tv _=>match tv with|.slice _ k _=>k|_=>0)
    case atStart=>exact⟨m,zeros j,x2,k,q2,rfl,HK.o,by omega,HRUN.o,HLP.o⟩
    case round =>
     obtain⟨m,d,x,k,q,rfl,hk,hkn,hrun,hlp⟩:=hrel;have HRU:=hideH hrun;have HL:=hideH hlp;have HKM:=hideH hk;clear hrun hlp hk HMT HLP HRUN HK;by_cases h2:1<k
     ·obtain⟨k2,rfl⟩:∃ k2,k=k2+2:=⟨k-2,by omega⟩
      have hm1:m.length=k2+2:=HKM.o.symm;obtain⟨g,q',cur,hv,hgb,hmc,hmx,hbk,hcs,hct⟩:=(own0_own (m:=m) (by rw[hm1];have:=HL.o.own;rw[hm1]at this;exact this) (by omega)).parts (by omega);rw[hm1]at hv hmc
      obtain⟨rfl,rfl⟩:x=some ⟨g,0,none⟩/\q=q':=by simp at hv;exact hv
      have hinv:=HL.o.inv;have h2l:2<=(mt m).length:=(by rw[mt_length];omega);have hsum:=HSUM.o;have hjw:=hinv.weights h2l;have hjinv:=hinv.join h2l;have hjns:=ns_join (mt m) h2l;have hrm:=run_more (mt m) d (by omega)
      have hbd:∀ z∈m,z.1.2.length<=257:=fun z hz=>by
       have h3:=ns_mem (mt m) z.1 (List.mem_map.2 ⟨z,hz,rfl⟩);have h4:=HL.o.few;omega
      have hlt:∀ z∈m,∀ s∈z.1.2,s<d.length:=fun z hz=>hinv.lt z.1 (List.mem_map.2 ⟨z,hz,rfl⟩)
      have hsm:∀ i,d.getD i 0<=3000000:=fun i=>by
       have:=hinv.small i
       omega
      have HJ:=hideH (joinS_any g w.heap.size k2 q j j m d cur wr hm1 (by omega) hbk hct HL.o.sym hbd HL.o.ne hlt HL.o.len HL.o.dn hsm (by omega))
      have HNX:Hid (∀ v' m' w',mt m'=join (mt m)->OwnT w' 213 wr.heap.size v' m'->Syms w' m'->IsI w' w.heap.size 2 (up (incs (incs d (first (mt m)).2) (second (mt m)).2))->Wr w.heap.size w.heap.size wr w'->∃ x q,v'=.slice x (k2+1) q/\k2+1=m'.length/\depths c=run m'.length (mt m') (incs (incs d (first (mt m)).2) (second (mt m)).2)/\LpS w1.heap.size w.heap.size j c.sum w w' v' m' (incs (incs d (first (mt m)).2) (second (mt m)).2)):=by
       intro v' m' w' e1 e2 e3 e4 e5
       have hl':m'.length=k2+1:=by
        rw[<-mt_length,e1,join_length _ h2l,mt_length,hm1];omega
       obtain⟨g9,q9,_,hv9,_⟩:=e2.parts (by omega);have hlow:=HL.o.low
       have hw1:w1.heap.size<=wr.heap.size:=by
        have:=lt_row hbk
        omega
       refine⟨_,q9,by rw[hv9,hl'],hl'.symm,?_,⟨.inr (e2.mono hw1),e3,e4,by rw[e1];exact hjinv,by rw[e1,hjns];exact HL.o.few,by rw[incs_length,incs_length];exact HL.o.dn,?_,?_,HL.o.lo,HL.o.hi⟩⟩
       ·have h3:=HRU.o
        rw[mt_length]at hrm;rw[hrm,<-e1,mt_length]at h3;exact h3
       ·intro z hz
        have hz':z.1∈join (mt m):=by rw[<-e1];exact List.mem_map.2 ⟨z,hz,rfl⟩
        exact join_ne m h2l HL.o.ne z.1 hz'
       ·exact⟨e5.os.trans hlow.os,e5.tape.trans hlow.tape,e5.output.trans hlow.output,Nat.le_trans hlow.size e5.size,fun b hb=>(e5.block b (Nat.lt_of_lt_of_le hb hlow.size) (by omega) (by omega)).trans (hlow.block b hb)⟩
      clear hv hgb hmc hmx hbk hcs hct hinv hsum hjw hjinv hjns hrm hbd hlt hsm h2l hm1;(go_wp2_with fail);refine HJ.o.mono ?_;rintro e w5 ⟨v5,m5,rfl,h51,h52,h53,h54,h55⟩;obtain⟨x5,q5,rfl,hl5,hr5,hlp5⟩:=HNX.o v5 m5 w5 h51 h52 h53 h54 h55;have R5:=hideH hr5;have L5:=hideH hlp5;have E5:=hideH hl5;clear h51 h52 h53 h54 h55 hr5 hlp5 hl5 HJ HNX;(go_wp2_with fail)
      go_roundw
      case rel=>exact⟨m5,_,x5,k2+1,q5,rfl,E5.o,by omega,R5.o,L5.o⟩
      case measure=>simp
     ·have h2':decide ((1:Int)<(k:Int))=false:=by simp;omega
      have HF:Hid (depths c=d):=HRU.o.trans (run_done _ _ _ (by rw[mt_length,<-HKM.o];omega));have I3:Hid (IsI wr w.heap.size 2 (up (depths c))):=(by rw[HF.o];exact HL.o.len);have B3:=hideH HL.o.low;clear HRU HL HKM HF HINV HNS HDE;(go_wp2_with fail);generalize wr=w4 at I3 B3 ⊢;have DL:=hideH ((depths_length c).trans HN.o);generalize hD:depths c=D at I3 DL;have HD:=hideH hD;clear hD;generalize w4=wz at I3 B3 ⊢
      go_loopw [8,7] (fun iv mv wr=>∃ i:Nat,iv=.int .i64 i/\i<=j/\mv=.int .i64 (mxN D i:Nat)/\wr=wz) (fun iv _ _=>j-(intOf iv).toNat)
      case atStart=>exact⟨0,rfl,Nat.zero_le _,rfl,rfl⟩
      case round =>
       obtain⟨i,rfl,hi3,rfl,hw⟩:=hrel;subst wr;by_cases hlt3:i<j
       ·have hil:i<D.length:=by rw[DL.o];exact hlt3
        have ci:wz.cell? ⟨w.heap.size,i,none⟩=some (.int .i64 (D.getD i 0:Nat)):=by
         rw[I3.o.cell (j:=i) (by rw[up_length];exact hil),up_at _ _ hil]
        have NX:Hid (mxN D (i+1)=max (mxN D i) (D.getD i 0)):=rfl;have hii:(i:Int)<j:=(by omega);generalize D.getD i 0=x at ci NX;generalize mxN D i=p at NX ⊢;clear hil;(go_wp2_with fail);refine(max_any p x wz).mono ?_;rintro e w8 ⟨rfl,hw8⟩;subst w8;(go_wp2_with fail)
        go_roundw
        case rel=>exact⟨i+1,by go_num,by omega,by rw[NX.o],by trivial⟩
        case measure=>simp[intOf];omega
       ·obtain rfl:i=j:=by omega
        (go_wp2_with fail);go_ret2;exact⟨by rw[HD.o];rfl,by rw[HD.o];exact I3.o,B3.o⟩
end Hf
namespace Hf
open In (IsI IsO irow Ints OwnI)
open Bi (within within_yes)
open Ap (Own0 wpList_append_own0k)
def midG (c:List Nat) (j:Nat):List Nat:=(flat c).take j++c.drop j
theorem midG_length (c:List Nat) (j:Nat) (h:j<=c.length):(midG c j).length=c.length:=by
 unfold midG;rw[List.length_append,List.length_take,flat_length,List.length_drop];omega
theorem midG_at (c:List Nat) (j:Nat) (h:j<c.length):(midG c j)[j]? = some c[j]:=by
 unfold midG
 have hl:((flat c).take j).length=j:=by rw[List.length_take,flat_length];omega
 rw[List.getElem?_append_right (by omega),hl,Nat.sub_self,List.getElem?_drop,Nat.add_zero,List.getElem?_eq_getElem h]
theorem midG_next (c:List Nat) (j:Nat) (h:j<c.length):(midG c j).set j (if 0<c[j] then c[j]/2+1 else 0)=midG c (j+1):=by
 have hf:(flat c)[j]'(by rw[flat_length];exact h)=if 0<c[j] then c[j]/2+1 else 0:=by
  unfold flat;rw[List.getElem_map]
 have hl:((flat c).take j).length=j:=by rw[List.length_take,flat_length];omega
 unfold midG;rw[<-hf,List.set_append,if_neg (by omega),hl,Nat.sub_self,List.drop_eq_getElem_cons h,List.set_cons_zero,List.take_add_one,List.getElem?_eq_getElem (by rw[flat_length];exact h),List.append_assoc];rfl
theorem midG_yes (c:List Nat) (j:Nat) (h:j<c.length) (h0:0<c[j]):(midG c j).set j (c[j]/2+1)=midG c (j+1):=by
 have:=midG_next c j h
 rw[if_pos h0]at this;exact this
theorem midG_no (c:List Nat) (j:Nat) (h:j<c.length) (h0:¬0<c[j]):midG c j=midG c (j+1):=by
 have:=midG_next c j h
 rw[if_neg h0]at this;rw[<-this]
 have e:(midG c j)[j]? = some 0:=by rw[midG_at c j h];congr 1;omega
 obtain⟨h1,h2⟩:=List.getElem?_eq_some_iff.1 e
 apply List.ext_getElem?
 intro i;rw[List.getElem?_set];by_cases hi:j=i
 ·subst hi
  rw[if_pos rfl,if_pos h1,e]
 ·rw[if_neg hi]
theorem midG_zero (c:List Nat):midG c 0=c:=by
 unfold midG;simp
theorem midG_all (c:List Nat):midG c c.length=flat c:=by
 unfold midG;rw[List.drop_length,List.append_nil,List.take_of_length_le (by rw[flat_length];exact Nat.le_refl _)]
theorem up_news {W:World} {b off:Nat} {l:List Int} (hc:∀ j (h:j<l.length),W.cell? ⟨b,off+j,none⟩=some (.int .i64 l[j])):∀ j u,(l.map (Value.int .i64))[j]? = some u->W.cell? ((⟨b,off,none⟩:Addr).add j)=some u:=by
 intro j u hu
 have hj:j<l.length:=by
  have:=(List.getElem?_eq_some_iff.1 hu).1
  rwa[List.length_map]at this
 rw[List.getElem?_map,List.getElem?_eq_getElem hj]at hu;rw[Addr.add_lit,hc j hj];exact hu
theorem ints_one (l:List Int):∀ u∈l.map (Value.int .i64),u.oneCell'=true:=by
 intro u hu;obtain⟨x,_,rfl⟩:=List.mem_map.1 hu;rfl
theorem ofS_any (a:Option Addr) (cap n:Nat) (c0:List Nat) (w:World) (h:Ints w w.heap.size a (up c0)) (hn:c0.length=n) (h0:0<n) (h257:n<=257) (hm:∀ x∈c0,x<=10000) :
  Calls prog 99 #[.slice a n cap] w fun e w'=>∃ v,e=.returned v/\OwnI w' w.heap.size v (up (lenOf c0))/\Below w.heap.size w w':=by
 obtain⟨i0,hi,hz0,hz1,hz2⟩:=info_parts In.Tryz.infoI2;have HN:=hideH hn;obtain⟨b,off,rfl,hbz,hcl⟩:=h.some (by rw[up_length];omega);have HCL:=hideH (fun (W:World) (hW:Below w.heap.size w W)=>up_news (W:=W) fun j hj=>(hW.cell (p:=⟨b,off+j,none⟩) hbz).trans (hcl j hj));have HM:=hideH hm
 have HLU:Hid ((up c0).length=n):=by unfold Hid;rw[up_length];exact hn
 obtain⟨R,hR⟩:∃ R,R=lenOf c0:=⟨_,rfl⟩;have HRR:=hideH hR;rw[<-hR];clear hR hm hn h hcl;go_enter func99,ntmps99
 go_wp2_with (at_builtin;refine wpList_append_own0k _ rfl (.tmp 7) (.tmp 8) 69 rfl w.heap.size 2 i0 (.int .i64 0) 1 8 underlying69 hi hz0 hz1 hz2 rfl (by decide) _ 0 [] rfl (.inl ⟨_,rfl,rfl,rfl⟩) ⟨b,off,none⟩ n cap ((up c0).map (Value.int .i64)) rfl (by rw[List.length_map,HLU.o];omega) (HCL.o _ ((Below.refl _ _).alloc (Nat.le_refl _) _)) (ints_one _) h0 (by unfold maxLen;omega) (by omega) (by simp) ?_)
 intro v1 w1 hown hbel _
 have O1:Hid (OwnI w1 w.heap.size v1 (up c0)):=by
  unfold Hid OwnI;rw[HLU.o]
  simpa using hown
 have B1:Hid (Below w.heap.size w w1):=((Below.refl _ _).alloc (Nat.le_refl _) _).trans (hbel _ (Nat.le_refl _));clear hown hbel HCL
 obtain⟨gx,q,hv,hgx,hnq,ho⟩:∃ g cap,v1=.slice (some ⟨g,0,none⟩) (up c0).length cap/\w.heap.size<=g/\(up c0).length<=cap/\IsO w1 g 2 (up c0):=by
  rcases O1.o.split with⟨_,h⟩|h
  ·have:=HLU.o
   rw[h]at this;simp at this;omega
  ·exact h
 rw[HLU.o]at hv;subst hv;have X1:=hideH ho;clear ho hnq O1
 go_wp2_with fail
 go_loopw [4,5,6] (fun _ _ _ wr=>∃ c:List Nat,c.length=n/\(∀ y∈c,y<=10000)/\R=lenOf c/\IsO wr gx 2 (up c)/\Below w.heap.size w wr) (fun _ _ _ wr=>sumAt wr (.slice (some ⟨gx,0,none⟩) n q))
 case atStart=>exact⟨c0,HN.o,HM.o,HRR.o,X1.o,B1.o⟩
 case round =>
  obtain⟨c,hcn,hcm,hcr,hxo,hbw⟩:=hrel;have CN:=hideH hcn;have CM:=hideH hcm;have CR:=hideH hcr;have XO:=hideH hxo;have BW:=hideH hbw;have hzw:=hbw.size;have hgz:=hxo.lt
  have HOM:Hid (okay (depths c)=decide (mxN (depths c) n<=12)):=by
   unfold Hid;rw[okay_mx,depths_length,hcn]
  clear hcn hcm hcr hxo hbw
  go_wp2_with fail
  refine(lensS_any (some ⟨gx,0,none⟩) q n c wr (XO.o.ints hgz) CN.o h257 CM.o).mono ?_;rintro e w3 ⟨rfl,hi3,hb3⟩;have I3:=hideH hi3;have B3:=hideH (BW.o.trans (hb3.mono hzw));have X3:=hideH (XO.o.below hb3 hgz);have E3:=hideH (sumAt_ints (q:=q) (XO.o.ints hgz) CN.o);clear hi3 hb3;by_cases hok:mxN (depths c) n<=12
  ·have hok':((mxN (depths c) n:Nat):Int)<=12:=by omega
   have HF:Hid (R=depths c):=CR.o.trans (lenOf_yes c (by rw[HOM.o];exact decide_eq_true hok));clear HOM hok;generalize mxN (depths c) n=mx at hok' ⊢
   go_wp2_with fail
   go_ret;exact⟨_,rfl,by rw[HF.o];exact own_of I3.o hzw (by rw[up_length,depths_length,CN.o]) (by omega),B3.o⟩
  ·have hok':decide (((mxN (depths c) n:Nat):Int)<=12)=false:=by simp;omega
   have hno:¬okay (depths c)=true:=by rw[HOM.o];simp;omega
   have HNO:=hideH (lenOf_no c (by have:=CN.o;omega) hno);have HLT:=hideH (flat_more c (by have:=CN.o;omega) hno);clear HOM hok hno I3;generalize mxN (depths c) n=mx at hok' ⊢;have hz3:=B3.o.size
   go_wp2_with fail
   go_loopw [6] (fun iv wr=>∃ j:Nat,iv=.int .i64 j/\j<=n/\IsO wr gx 2 (up (midG c j))/\Below w.heap.size w wr) (fun iv _=>n-(intOf iv).toNat)
   case atStart=>exact⟨0,rfl,Nat.zero_le _,by rw[midG_zero];exact X3.o,B3.o⟩
   case round =>
    obtain⟨j,rfl,hj,hoj,hbj⟩:=hrel;have OJ:=hideH hoj;have BJ:=hideH hbj;clear hoj hbj;by_cases hlt:j<n
    ·have hjc:j<c.length:=by rw[CN.o];exact hlt
     have hml:j<(midG c j).length:=by rw[midG_length c j (by omega)];exact hjc
     have ci:wr.cell? ⟨gx,j,none⟩=some (.int .i64 (c[j]:Nat)):=by
      rw[OJ.o.cell (j:=j) (by rw[up_length];exact hml),up_at _ _ hml,List.getD_eq_getElem?_getD,midG_at c j hjc];rfl
     have zl:=OJ.o.frozen j;have HY:=hideH (midG_yes c j hjc);have HNN:=hideH (midG_no c j hjc);have hcm:=CM.o c[j] (List.getElem_mem hjc);have hjl:(j:Int)<n:=(by omega);generalize c[j]=cj at ci HY HNN hcm;clear hml hjc;by_cases hc0:0<cj
     ·have h0':(0:Int)<(cj:Int):=by omega
      have hq:(cj:Int).tdiv 2=((cj/2:Nat):Int):=by rw[Int.tdiv_eq_ediv_of_nonneg (by omega)];rfl
      (go_wp2_with fail)
      go_roundw
      case rel =>
       refine⟨j+1,by go_num,by omega,?_,BJ.o.setCell (by simp;omega) _⟩;rw[<-HY.o hc0,<-up_set];exact OJ.o.set j _
      case measure=>simp[intOf];omega
     ·have h0':cj=0:=by omega
      subst h0';(go_wp2_with fail)
      go_roundw
      case rel=>exact⟨j+1,by go_num,by omega,by rw[<-HNN.o hc0];exact OJ.o,BJ.o⟩
      case measure=>simp[intOf];omega
    ·obtain rfl:j=n:=by omega
     have OF:Hid (IsO wr gx 2 (up (flat c))):=by
      have:=OJ.o
      rw[<-CN.o,midG_all]at this;exact this
     have FN:Hid ((flat c).length=j):=by rw[flat_length];exact CN.o
     (go_wp2_with fail)
     go_roundw
     case rel=>exact⟨flat c,FN.o,flat_small c CM.o,CR.o.trans HNO.o,OF.o,BJ.o⟩
     case measure =>
      have e2:=sumAt_ints (q:=q) (OF.o.ints OF.o.lt) FN.o;have e3:=HLT.o;rw[<-E3.o,<-e2]at e3;exact e3
end Hf
namespace Hf
open Bi (csum above part whole right within within_of csum_snoc above_snoc)
def kr (K:Nat) (d s:List Nat):Nat:=(s.map fun k=>2 ^ (K-dep d k)).sum
theorem kr_append (K:Nat) (d s t:List Nat):kr K d (s++t)=kr K d s+kr K d t:=by
 unfold kr;rw[List.map_append,List.sum_append]
theorem kr_perm (K:Nat) (d:List Nat) {s t:List Nat} (p:s.Perm t):kr K d s=kr K d t:=(p.map _).sum_nat
theorem kr_congr (K:Nat) (d d' s:List Nat) (h:∀ k∈s,dep d' k=dep d k):kr K d' s=kr K d s:=by
 unfold kr;rw[List.map_congr_left fun k hk=>by rw[h k hk]]
theorem kr_up (K:Nat) (d d' s:List Nat) (h:∀ k∈s,dep d' k=dep d k+1/\dep d k+1<=K):2*kr K d' s=kr K d s:=by
 induction s with
 |nil=>rfl
 |cons k s ih =>
  have h1:=ih fun x hx=>h x (List.mem_cons_of_mem _ hx);obtain⟨h2,h3⟩:=h k (List.mem_cons_self ..);unfold kr at h1 ⊢;rw[List.map_cons,List.sum_cons,List.map_cons,List.sum_cons,Nat.mul_add,h1,h2]
  have:2*2 ^ (K-(dep d k+1))=2 ^ (K-dep d k):=by
   rw[show K-dep d k=(K-(dep d k+1))+1 by omega,Nat.pow_succ];omega
  rw[this]
def KrInv (K:Nat) (l:List Tree) (d:List Nat):Prop:=∀ t∈l,kr K d t.2=2 ^ K
def alls (l:List Tree):List Nat:=l.flatMap fun t=>t.2
theorem alls_perm {l l':List Tree} (p:l.Perm l'):(alls l).Perm (alls l'):=p.flatMap_right _
theorem alls_join (l:List Tree) (h:2<=l.length):(alls (join l)).Perm (alls l):=by
 have e:alls (both l :: rest2 l)=alls (first l :: second l :: rest2 l):=by
  unfold alls both;rw[List.flatMap_cons,List.flatMap_cons,List.flatMap_cons,List.append_assoc]
 exact(alls_perm (join_perm l)).trans (e ▸ (alls_perm (two_perm l h)).symm)
theorem dep_join {l:List Tree} {d:List Nat} {n:Nat} (h:Inv l d n) (h2:2<=l.length) (s:Nat):dep (incs (incs d (first l).2) (second l).2) s=if s∈(first l).2++(second l).2 then dep d s+1 else dep d s:=by
 have h':=h.perm (two_perm l h2);obtain⟨pa,_⟩:=List.pairwise_cons.1 h'.pw;exact two_dep d _ _ (h'.nd _ (List.mem_cons_self ..)) (h'.nd _ (List.mem_cons_of_mem _ (List.mem_cons_self ..))) (pa _ (List.mem_cons_self ..)).2.2 (h'.lt _ (List.mem_cons_self ..)) (h'.lt _ (List.mem_cons_of_mem _ (List.mem_cons_self ..))) s
theorem KrInv.join {K:Nat} {l:List Tree} {d:List Nat} {n:Nat} (hk:KrInv K l d) (h:Inv l d n) (h2:2<=l.length) (hn:n<=K):KrInv K (join l) (incs (incs d (first l).2) (second l).2):=by
 have hd:=dep_join h h2;have hj:=h.join h2;have hp:=two_perm l h2;have h':=h.perm hp;obtain⟨pa,pb'⟩:=List.pairwise_cons.1 h'.pw;obtain⟨pb,_⟩:=List.pairwise_cons.1 pb'
 have hup:∀ s,s∈(first l).2++(second l).2->dep (incs (incs d (first l).2) (second l).2) s=dep d s+1/\dep d s+1<=K:=by
  intro s hs;have e:=hd s;rw[if_pos hs]at e;refine⟨e,?_⟩
  have:=hj.small s
  unfold dep at e ⊢;omega
 intro t ht
 rcases List.mem_cons.1 ((join_perm l).mem_iff.1 ht) with rfl|hr
 ·have h3:=kr_up K d _ (first l).2 fun k hk=>hup k (List.mem_append_left _ hk)
  have h4:=kr_up K d _ (second l).2 fun k hk=>hup k (List.mem_append_right _ hk);rw[hk _ (hp.mem_iff.2 (List.mem_cons_self ..))]at h3;rw[hk _ (hp.mem_iff.2 (List.mem_cons_of_mem _ (List.mem_cons_self ..)))]at h4
  show kr K _ ((first l).2++(second l).2)=_
  rw[kr_append];omega
 ·rw[kr_congr K d _ t.2 fun k hk=>?_]
  ·exact hk t (hp.mem_iff.2 (List.mem_cons_of_mem _ (List.mem_cons_of_mem _ hr)))
  ·rw[hd,if_neg]
   intro hx
   rcases List.mem_append.1 hx with hx|hx
   ·exact(pa t (List.mem_cons_of_mem _ hr)).2.2 k hx hk
   ·exact(pb t hr).2.2 k hx hk
theorem run_kraft {K:Nat} (f:Nat):∀ (l:List Tree) (d:List Nat) (n:Nat),Inv l d n->n<=K->l.length<=f->0<l.length->KrInv K l d->kr K (run f l d) (alls l)=2 ^ K:=by
 induction f with
 |zero=>intro l d n _ _ h1 h2;omega
 |succ f ih =>
  intro l d n h hn hf h0 hk;rw[run];by_cases h1:l.length<=1
  ·rw[if_pos h1]
   obtain⟨t,rfl⟩:=List.length_eq_one_iff.1 (show l.length=1 by omega)
   have:=hk t (List.mem_singleton.2 rfl)
   unfold alls;rw[List.flatMap_cons,List.flatMap_nil,List.append_nil];exact this
  ·rw[if_neg h1]
   have hjl:=join_length l (by omega);rw[<-kr_perm K _ (alls_join l (by omega))];exact ih (join l) _ n (h.join (by omega)) hn (by omega) (by omega) (hk.join h (by omega) hn)
theorem run_out (f:Nat):∀ (l:List Tree) (d:List Nat) (n s:Nat),Inv l d n->s ∉ alls l->dep (run f l d) s=dep d s:=by
 induction f with
 |zero=>intro l d n s _ _;rfl
 |succ f ih =>
  intro l d n s h hs;rw[run];by_cases h1:l.length<=1
  ·rw[if_pos h1]
  ·rw[if_neg h1,ih (join l) _ n s (h.join (by omega)) (fun hx=>hs ((alls_join l (by omega)).mem_iff.1 hx)),dep_join h (by omega),if_neg]
   intro hx;refine hs ((alls_perm (two_perm l (by omega))).mem_iff.2 ?_);unfold alls;rw[List.flatMap_cons,List.flatMap_cons]
   rcases List.mem_append.1 hx with hx|hx
   ·exact List.mem_append_left _ hx
   ·exact List.mem_append_right _ (List.mem_append_left _ hx)
def syms (c:List Nat) (n:Nat):List Nat:=(List.range n).filter fun i=>decide (0<c.getD i 0)
theorem syms_succ (c:List Nat) (n:Nat):syms c (n+1)=if 0<c.getD n 0 then syms c n++[n] else syms c n:=by
 unfold syms;rw[List.range_succ,List.filter_append,List.filter_cons,List.filter_nil];by_cases h:0<c.getD n 0
 ·rw[if_pos h,if_pos (decide_eq_true h)]
 ·rw[if_neg h,if_neg (by simpa using h),List.append_nil]
theorem alls_trees (c:List Nat):∀ n,alls (trees c n)=syms c n
 |0=>rfl
 |n+1=>by
  have ih:=alls_trees c n;rw[syms_succ,trees]
  split
  ·unfold alls at ih ⊢
   rw[List.flatMap_append,ih];rfl
  ·exact ih
theorem trees_syms (c:List Nat):∀ n,(trees c n).length=(syms c n).length
 |0=>rfl
 |n+1=>by
  have ih:=trees_syms c n;rw[syms_succ,trees]
  split
  ·rw[List.length_append,List.length_append,ih]
   rfl
  ·exact ih
theorem mem_syms {c:List Nat} {n i:Nat}:i∈syms c n↔i<n/\0<c.getD i 0:=by
 unfold syms;rw[List.mem_filter,List.mem_range,decide_eq_true_eq]
theorem kr_pos (K:Nat) (d:List Nat) (s:List Nat) (h:0<s.length):0<kr K d s:=by
 cases s with
 |nil=>exact absurd h (by decide)
 |cons k s =>
  unfold kr;rw[List.map_cons,List.sum_cons]
  have:=Nat.two_pow_pos (K-dep d k)
  omega
theorem kr_shift (K:Nat) (d s:List Nat) (hK:12<=K) (h:∀ k∈s,dep d k<=12):kr K d s=2 ^ (K-12)*kr 12 d s:=by
 unfold kr
 induction s with
 |nil=>rfl
 |cons k s ih =>
  have h1:=h k (List.mem_cons_self ..);rw[List.map_cons,List.sum_cons,List.map_cons,List.sum_cons,ih (fun x hx=>h x (List.mem_cons_of_mem _ hx)),Nat.mul_add,<-Nat.pow_add,show K-12+(12-dep d k)=K-dep d k by omega]
theorem dep_okay {D:List Nat} (h:okay D=true) (i:Nat):dep D i<=12:=by
 unfold okay at h;rw[List.all_eq_true]at h;unfold dep;by_cases hi:i<D.length
 ·rw[List.getD_eq_getElem?_getD,List.getElem?_eq_getElem hi]
  exact of_decide_eq_true (h _ (List.getElem_mem hi))
 ·rw[List.getD_eq_getElem?_getD,List.getElem?_eq_none (by omega)]
  exact Nat.zero_le _
theorem depths_two (c:List Nat) (h2:2<=(syms c c.length).length) (ho:okay (depths c)=true):(∀ i,0<dep (depths c) i↔i∈syms c c.length)/\kr 12 (depths c) (syms c c.length)=4096:=by
 have hinv:=trees_inv c c.length (Nat.le_refl _);rw[List.take_length]at hinv;have hl:=trees_syms c c.length
 have hD:depths c=run (trees c c.length).length (trees c c.length) (zeros c.length):=by
  unfold depths;rw[if_neg (by omega)]
 have hK:KrInv (c.sum+12) (trees c c.length) (zeros c.length):=by
  intro t ht;obtain⟨j,_,_,rfl⟩:=trees_mem c c.length t ht;unfold kr;simp[dep_zeros]
 have hkr:=run_kraft (K:=c.sum+12) _ (trees c c.length) (zeros c.length) c.sum hinv (by omega) (Nat.le_refl _) (by omega) hK;rw[alls_trees,<-hD]at hkr;refine⟨fun i=>⟨fun hi=>?_,fun hi=>?_⟩,?_⟩
 ·refine Classical.byContradiction fun hn=>?_
  have:=run_out (trees c c.length).length (trees c c.length) (zeros c.length) c.sum i hinv (by rw[alls_trees];exact hn)
  rw[<-hD,dep_zeros]at this;omega
 ·refine Nat.pos_of_ne_zero fun h0=>?_
  have hp:=List.perm_cons_erase hi;rw[kr_perm _ _ hp]at hkr
  have hp2:=kr_pos (c.sum+12) (depths c) ((syms c c.length).erase i) (by
   have:=hp.length_eq
   rw[List.length_cons]at this
   omega)
  unfold kr at hkr hp2;rw[List.map_cons,List.sum_cons,h0,Nat.sub_zero]at hkr;omega
 ·have hs:=kr_shift (c.sum+12) (depths c) (syms c c.length) (by omega) fun k _=>dep_okay ho k
  rw[hkr,Nat.pow_add,Nat.add_sub_cancel]at hs
  have:=Nat.eq_of_mul_eq_mul_left (Nat.two_pow_pos c.sum) hs
  rw[<-this]
theorem sums_syms (D:List Nat) (S:Nat->Bool) (h:∀ i,i<D.length->(S i=true↔0<dep D i)):∀ k,k<=D.length->csum (up (D.take k))=kr 12 D ((List.range k).filter S)/\above (up (D.take k))=((List.range k).filter S).length
 |0,_=>⟨rfl,rfl⟩
 |k+1,hk=>by
  obtain⟨h1,h2⟩:=sums_syms D S h k (by omega)
  have hd:dep D k=D[k]:=by
   unfold dep;rw[List.getD_eq_getElem?_getD,List.getElem?_eq_getElem (by omega)];rfl
  have e:up (D.take (k+1))=up (D.take k)++[((D[k]:Nat):Int)]:=by
   rw[List.take_add_one,List.getElem?_eq_getElem (by omega)];unfold up;rw[List.map_append];rfl
  rw[e,csum_snoc,above_snoc,h1,h2,List.range_succ,List.filter_append,kr_append,List.length_append,List.filter_cons,List.filter_nil];have hi:=h k (by omega);rw[hd]at hi;by_cases hp:0<D[k]
  ·rw[if_pos (hi.2 hp)]
   unfold Bi.part kr;rw[if_pos (by omega),if_pos (by omega),List.map_cons,List.map_nil,List.sum_cons,List.sum_nil,hd];exact⟨rfl,rfl⟩
  ·rw[if_neg (fun hx=>hp (hi.1 hx))]
   unfold Bi.part;rw[if_neg (by omega),if_neg (by omega)];exact⟨rfl,rfl⟩
theorem syms_all (c:List Nat) (D:List Nat) (hl:D.length=c.length) (h:∀ i,0<dep D i↔i∈syms c c.length):csum (up D)=kr 12 D (syms c c.length)/\above (up D)=(syms c c.length).length:=by
 have:=sums_syms D (fun i=>decide (0<c.getD i 0)) (fun i hi=>by
  rw[decide_eq_true_eq,h i,mem_syms]
  exact⟨fun x=>⟨by omega,x⟩,fun x=>x.2⟩) D.length (Nat.le_refl _)
 rw[List.take_length,hl]at this;exact this
theorem depths_one (c:List Nat) (h1:(syms c c.length).length=1):(∀ i,0<dep (depths c) i↔i∈syms c c.length)/\kr 12 (depths c) (syms c c.length)=2048:=by
 have hl:=trees_syms c c.length;obtain⟨t,ht⟩:=List.length_eq_one_iff.1 (hl.trans h1);obtain⟨j,hj,hc,hte⟩:=trees_mem c c.length t (by rw[ht];exact List.mem_singleton.2 rfl)
 have hs:syms c c.length=[j]:=by
  rw[<-alls_trees,ht,hte];rfl
 have hD:depths c=(zeros c.length).set j 1:=by
  unfold depths;rw[if_pos (by omega),ht,hte];rfl
 have hd:∀ i,dep (depths c) i=if i=j then 1 else 0:=by
  intro i;rw[hD];unfold dep;rw[getD_set _ _ _ _ (by unfold zeros;rw[List.length_replicate];exact hj)]
  split
  ·rfl
  ·exact dep_zeros _ _
 rw[hs];refine⟨fun i=>?_,?_⟩
 ·rw[hd i,List.mem_singleton]
  split<;>rename_i e<;>simp[e]
 ·unfold kr
  rw[List.map_cons,List.map_nil,List.sum_cons,List.sum_nil,hd j,if_pos rfl];rfl
theorem depths_none (c:List Nat) (h0:(syms c c.length).length=0):∀ i,0<dep (depths c) i↔i∈syms c c.length:=by
 have hl:=trees_syms c c.length;have hs:=List.eq_nil_of_length_eq_zero h0;have ht:trees c c.length=[]:=List.eq_nil_of_length_eq_zero (hl.trans h0);intro i;rw[hs];unfold depths;rw[ht,if_neg (by decide)]
 have:run ([]:List Tree).length [] (zeros c.length)=zeros c.length:=rfl
 rw[this,dep_zeros];simp
theorem whole_depths (c:List Nat) (hl:c.length<=257) (ho:okay (depths c)=true):(∀ i,0<dep (depths c) i↔i∈syms c c.length)/\(0<(syms c c.length).length->whole (up (depths c))=true):=by
 have hw:within (up (depths c)) 12=true:=by rw[within_okay _ (by rw[depths_length];exact hl)];exact ho
 by_cases h0:(syms c c.length).length=0
 ·exact⟨depths_none c h0,fun h=>by omega⟩
 ·by_cases h1:(syms c c.length).length=1
  ·obtain⟨ha,hb⟩:=depths_one c h1
   obtain⟨hc,hd⟩:=syms_all c (depths c) (depths_length c) ha;refine⟨ha,fun _=>?_⟩;unfold whole right;rw[hw,hc,hb,hd,h1];rfl
  ·obtain⟨ha,hb⟩:=depths_two c (by omega) ho
   obtain⟨hc,hd⟩:=syms_all c (depths c) (depths_length c) ha;refine⟨ha,fun _=>?_⟩;unfold whole right;rw[hw,hc,hb];rfl
theorem syms_flat (c:List Nat) (n:Nat):syms (flat c) n=syms c n:=by
 unfold syms
 congr 1
 funext i
 have:(flat c).getD i 0=if 0<c.getD i 0 then c.getD i 0/2+1 else 0:=by
  unfold flat;rw[List.getD_eq_getElem?_getD,List.getElem?_map,List.getD_eq_getElem?_getD]
  cases c[i]? with
  |none=>rfl
  |some x=>rfl
 rw[this];by_cases h:0<c.getD i 0
 ·rw[if_pos h,decide_eq_true h,decide_eq_true (by omega)]
 ·rw[if_neg h,decide_eq_false h]
  rfl
theorem lenOf_facts (c:List Nat) (hl:c.length<=257):(lenOf c).length=c.length/\(∀ i,dep (lenOf c) i<=12)/\(∀ i,0<dep (lenOf c) i↔i∈syms c c.length)/\(0<(syms c c.length).length->whole (up (lenOf c))=true):=by
 obtain⟨k,hk⟩:∃ k,c.sum=k:=⟨_,rfl⟩
 induction k using Nat.strongRecOn generalizing c with
 |_ k ih =>
  by_cases ho:okay (depths c)=true
  ·rw[lenOf_yes c ho]
   exact⟨depths_length c,dep_okay ho,whole_depths c hl ho⟩
  ·have hlt:=flat_more c hl ho
   rw[lenOf_no c hl ho];obtain⟨h1,h2,h3,h4⟩:=ih (flat c).sum (by omega) (flat c) (by rw[flat_length];exact hl) rfl;rw[flat_length]at h1 h3 h4;rw[syms_flat]at h3 h4;exact⟨h1,h2,h3,h4⟩
end Hf
namespace Pk
open St (Strs IsS made_strs)
open In (Ints IsI OwnI made_ints)
open Nu (putS)
open Hf (up up_length up_at up_set incs incs_next incs_length incs_le dep)
def countsN (s:List Int):List Nat:=incs (Hf.zeros 257) (Hf.nats s)
theorem nats_at (s:List Int) (k:Nat) (h:k<s.length):(Hf.nats s)[k]'(by unfold Hf.nats;rw[List.length_map];exact h)=s[k].toNat:=by
 unfold Hf.nats;rw[List.getElem_map]
theorem zeros_length (n:Nat):(Hf.zeros n).length=n:=List.length_replicate ..
theorem countsN_length (s:List Int):(countsN s).length=257:=by
 unfold countsN;rw[incs_length,zeros_length]
theorem counts_le (s:List Int) (h:∀ x∈s,0<=x/\x<=256) (k j:Nat):(incs (Hf.zeros 257) ((Hf.nats s).take k)).getD j 0<=s.length:=by
 have h1:=incs_le ((Hf.nats s).take k) (Hf.zeros 257) j (fun y hy=>by
  obtain⟨x,hx,rfl⟩:=List.mem_map.1 (List.mem_of_mem_take hy)
  have:=h x hx
  rw[zeros_length]
  omega)
 have h2:=Hf.dep_zeros 257 j;unfold Hf.dep at h2;rw[List.length_take]at h1;have h3:(Hf.nats s).length=s.length:=List.length_map ..;omega
theorem counts_impl (s:List Int) (a:Option Addr) (cap n:Nat) (w:World) (h:Ints w w.heap.size a s) (hn:s.length=n) (hn2:n<=400) (hr:∀ x∈s,0<=x/\x<=256) :
  Calls prog 90 #[.slice a n cap] w fun e w'=>e=.returned (.slice (some ⟨w.heap.size,0,none⟩) 257 257)/\IsI w' w.heap.size 2 (up (countsN s))/\Below w.heap.size w w':=by
 obtain⟨i0,hi,hz0,hz1,hz2⟩:=info_parts In.Tryz.infoI2;have HN:=hideP hn;have HS:=hideP h;have HR:=hideP hr;have HCL:=hideP (counts_le s hr);have HNL:Hid ((Hf.nats s).length=s.length):=List.length_map ..;clear h hn hr
 have HZ:Hid (up (incs (Hf.zeros 257) ((Hf.nats s).take 0))=List.replicate 257 0):=by
  unfold Hid;rw[List.take_zero]
  show up (Hf.zeros 257)=_
  unfold up Hf.zeros;rw[List.map_replicate];rfl
 go_enter func90,ntmps90
 go_wp2_with (at_make;refine wpList_make_full _ rfl (.const (.int .i64 257)) (.const (.int .i64 257)) 69 rfl w.heap.size 2 i0 (.int .i64 0) 1 underlying69 hi hz0 hz1 .i64 .i64 _ _ 257 rfl rfl (by omega) (by omega) (by rw[hz2];omega) (by unfold maxLen;omega) (Nat.le_refl _) ?_;intro w1 hown hgrow;have HI1:=hideP (made_ints hown);have HB1:=hideP ((Below.refl w.heap.size w).grown hgrow (Nat.le_refl _) (by simp));clear hown hgrow)
 go_loopw [9,5] (fun iv _ wr=>∃ j:Nat,iv=.int .i64 j/\j<=n/\IsI wr w.heap.size 2 (up (incs (Hf.zeros 257) ((Hf.nats s).take j)))/\Below w.heap.size w wr) (fun iv _ _=>n-(intOf iv).toNat)
 case atStart=>exact⟨0,rfl,Nat.zero_le _,by rw[HZ.o];exact HI1.o,HB1.o⟩
 case round =>
  obtain⟨j,rfl,hj,hij,hbw⟩:=hrel;have IJ:=hideP hij;have BW:=hideP hbw;clear hij hbw;by_cases hlt:j<n
  ·have hjl:j<s.length:=by rw[HN.o];exact hlt
   obtain⟨b,off,rfl,hb,hcl⟩:=(HS.o.below BW.o).some (by omega);have ci:=hcl j hjl;have hx:=HR.o s[j] (List.getElem_mem hjl);have HNX:=hideP (incs_next (Hf.zeros 257) (Hf.nats s) j (by rw[HNL.o];exact hjl));rw[nats_at s j hjl]at HNX;generalize s[j]=x at ci hx HNX;obtain⟨y,rfl⟩:∃ y:Nat,x=y:=⟨x.toNat,by omega⟩;rw[Int.toNat_natCast]at HNX
   have hlen:y<(incs (Hf.zeros 257) ((Hf.nats s).take j)).length:=by rw[incs_length,zeros_length];omega
   have cl0:wr.cell? ⟨w.heap.size,y,none⟩=some (.int .i64 (((incs (Hf.zeros 257) ((Hf.nats s).take j)).getD y 0:Nat):Int)):=by
    rw[IJ.o.cell (j:=y) (by rw[up_length];exact hlen),up_at _ _ hlen]
   have zl0:=IJ.o.frozen y;have hdb:=HCL.o j y;obtain⟨dv,hdv⟩:∃ dv,dv=(incs (Hf.zeros 257) ((Hf.nats s).take j)).getD y 0:=⟨_,rfl⟩;have HDV:=hideP hdv;rw[<-hdv]at cl0 hdb
   have hdv2:dv<=400:=by have:=HN.o;omega
   have hy:(y:Int)<257:=by omega
   clear hdv hcl hjl hlen hdb
   go_wp2_with fail
   go_roundw
   case rel =>
    refine⟨j+1,by go_num,by omega,?_,BW.o.setCell (by simp) _⟩
    have:=IJ.o.set y ((dv:Int)+1)
    rw[HNX.o,<-HDV.o,<-up_set];exact this
   case measure=>simp[intOf];omega
  ·obtain rfl:j=n:=by omega
   have HE:Hid (IsI wr w.heap.size 2 (up (countsN s))):=by
    have:=IJ.o
    rw[List.take_of_length_le (by rw[HNL.o,HN.o];exact Nat.le_refl _)]at this;exact this
   go_wp2_with fail
   go_ret;exact⟨rfl,HE.o,BW.o⟩
def rowT (d:List Nat):Nat->List Int
 |0=>[]
 |k+1=>if 0<d.getD k 0 then rowT d k++[(k:Int),((d.getD k 0:Nat):Int)] else rowT d k
theorem rowT_length (d:List Nat):∀ k,(rowT d k).length<=2*k
 |0=>Nat.le_refl _
 |k+1=>by
  have:=rowT_length d k
  rw[rowT]
  split
  ·rw[List.length_append]
   simp;omega
  ·omega
theorem rowT_mem (d:List Nat) (m:Nat) (hm:∀ i,d.getD i 0<=m):∀ k x,x∈rowT d k->0<=x/\(x<=k∨x<=m)
 |0,x,h=>absurd h (List.not_mem_nil)
 |k+1,x,h=>by
  rw[rowT]at h
  split at h
  ·rcases List.mem_append.1 h with h|h
   ·have:=rowT_mem d m hm k x h
    omega
   ·have:=hm k
    generalize d.getD k 0=y at h this
    rcases List.mem_cons.1 h with rfl|h
    ·omega
    ·rw[List.mem_singleton.1 h]
     omega
  ·have:=rowT_mem d m hm k x h
   omega
theorem two_newI (W:World) (x y:Int) (t:TypeId):∀ (j:Nat) (u:Value),[Value.int .i64 x,Value.int .i64 y][j]? = some u->(W.alloc (.cells #[.int .i64 x,.int .i64 y] t)).cell? ((⟨W.heap.size,0,none⟩:Addr).add j)=some u:=by
 intro j u hj
 match j,hj with
 |0,hj=>simp at hj;subst hj;simp[Addr.add]
 |1,hj=>simp at hj;subst hj;simp[Addr.add]
theorem table_impl (d:List Nat) (a:Option Addr) (cap n:Nat) (w:World) (h:Ints w w.heap.size a (up d)) (hn:d.length=n) (hn2:n<=257) (hm:∀ i,d.getD i 0<=12) :
  Calls prog 95 #[.slice a n cap] w fun e w'=>e=.returned (.string ⟨(numsL (rowT d n)).toArray⟩)/\Below w.heap.size w w':=by
 obtain⟨i0,hi,hz0,hz1,hz2⟩:=info_parts In.Tryz.infoI2;have HN:=hideP hn;have HS:=hideP h;have HM:=hideP hm;have HRL:=hideP (rowT_length d);have HRM:=hideP (rowT_mem d 12 hm);clear h hn hm;go_enter func95,ntmps95
 go_wp2_with fail
 go_loopw [8,3,4,5] (fun iv tv _ _ wr=>∃ j:Nat,iv=.int .i64 j/\j<=n/\OwnI wr w.heap.size tv (rowT d j)/\Below w.heap.size w wr) (fun iv _ _ _ _=>n-(intOf iv).toNat)
 case atStart=>exact⟨0,rfl,Nat.zero_le _,OwnI.nil _ _,Below.refl _ _⟩
 case round =>
  obtain⟨j,rfl,hj,ho,hbw⟩:=hrel;have O:=hideP ho;have BW:=hideP hbw;have hz:=hbw.size;clear ho hbw;by_cases hlt:j<n
  ·have hjd:j<d.length:=by rw[HN.o];exact hlt
   obtain⟨b,off,rfl,hb,hcl⟩:=(HS.o.below BW.o).some (by rw[up_length];omega);have ci:=Hf.up_get hcl j hjd
   have hg:d.getD j 0=d[j]:=by rw[List.getD_eq_getElem?_getD,List.getElem?_eq_getElem hjd];rfl
   have hx:=HM.o j;have HNX:Hid (rowT d (j+1)=if 0<d.getD j 0 then rowT d j++[(j:Int),((d.getD j 0:Nat):Int)] else rowT d j):=rfl;rw[<-hg]at ci;have hrl:=HRL.o j;generalize d.getD j 0=x at ci hx HNX hg;clear hg hcl hjd;by_cases h0:0<x
   ·have h0':(0:Int)<x:=by omega
    rw[if_pos h0]at HNX
    go_wp2_with (at_builtin;refine wpList_append_own _ rfl (.tmp 15) (.tmp 18) 69 rfl w.heap.size 2 i0 (.int .i64 0) 1 8 underlying69 hi hz0 hz1 hz2 rfl (by decide) _ _ _ rfl (World.ownsRow.alloc O.o _) ⟨wr.heap.size,0,none⟩ 2 2 [.int .i64 (j:Nat),.int .i64 (x:Nat)] rfl rfl (two_newI wr _ _ _) (Hf.two_one rfl rfl) (by unfold maxLen;omega) (by omega) (by simp;omega) ?_)
    intro v3 w3 hown hgrow _
    have O3:Hid (OwnI w3 w.heap.size v3 (rowT d (j+1))):=by
     rw[HNX.o];unfold OwnI;rw[List.length_append,List.map_append];exact hown
    have B3:=hideP (In.app_one BW.o hz (Nat.le_refl _) O.o hgrow);clear hown hgrow O;(go_wp2_with fail)
    go_roundw
    case rel=>exact⟨j+1,by go_num,by omega,O3.o,B3.o⟩
    case measure=>simp[intOf];omega
   ·have h0':x=0:=by omega
    subst h0';rw[if_neg h0]at HNX;(go_wp2_with fail)
    go_roundw
    case rel=>exact⟨j+1,by go_num,by omega,by rw[HNX.o];exact O.o,BW.o⟩
    case measure=>simp[intOf];omega
  ·obtain rfl:j=n:=by omega
   have hrl:=HRL.o j;obtain⟨x,c,hv,_,hi2⟩:=O.o.ints;obtain⟨m,hm⟩:∃ m,m=(rowT d j).length:=⟨_,rfl⟩;have HJ:=hideP (nums_any (rowT d j) x c m wr hi2 hm.symm (by omega) (fun y hy=>by have:=HRM.o j y hy;omega));rw[<-hm]at hv;subst hv;clear hi2 hm
   go_wp2_with fail
   refine HJ.o.mono ?_;rintro e w2 ⟨rfl,hb2⟩;have B2:=hideP (BW.o.trans (hb2.mono hz));clear hb2
   go_wp2_with fail
   go_ret;exact⟨rfl,B2.o⟩
end Pk
namespace Pk
open Hf (up up_length up_at incs incs_length dep lenOf lenOf_facts syms mem_syms nats)
open Bi (putR putR_yes putR_no putL okS whole whole_no above above_zero csum right right_yes packR)
open Go.Proofs.YtbdcffjcogglbaaGreatDoor.So (bwtT bwtA)
open Fr (frontR frontR_len)
open Ze (zerosR zerosR_len zerosR_no zeros_back backR_no numsR numsR_yes upTo_yes)
open Se (sealV)
theorem zerosR_mem (l:List Int):∀ x∈zerosR l,0<=x/\x<=256:=by
 intro x hx
 cases h1:numsR l 255 with
 |false =>
  rw[zerosR_no h1]at hx;exact absurd hx (List.not_mem_nil)
 |true =>
  cases h2:numsR (zerosR l) 256 with
  |true=>exact upTo_yes (numsR_yes h2).2 x hx
  |false =>
   have h3:=zeros_back h1;rw[backR_no h2]at h3;subst h3
   have:=zerosR_len []
   rw[List.eq_nil_of_length_eq_zero (show (zerosR []).length=0 by simpa using this)]at hx;exact absurd hx (List.not_mem_nil)
noncomputable def symS (b:ByteArray):List Int:=zerosR (frontR (bwtT b).data.toList)
theorem symS_mem (b:ByteArray):∀ x∈symS b,0<=x/\x<=256:=zerosR_mem _
theorem symS_len (b:ByteArray):(symS b).length<=400:=Nat.le_trans (zerosR_len _) (frontR_len _)
noncomputable def lenS (b:ByteArray):List Nat:=lenOf (countsN (symS b))
noncomputable def headS (b:ByteArray):List Int:=[(b.size:Int),((bwtA b:Nat):Int),((symS b).length:Int),((above (up (lenS b)):Nat):Int)]
noncomputable def bitsS (b:ByteArray):ByteArray:=packR (putR (up (lenS b)) (symS b))
noncomputable def shortL (b:ByteArray):List UInt8:=[1]++(numsL (headS b)++(numsL (rowT (lenS b) 257)++(bitsS b).data.toList))
noncomputable def shortV (b:ByteArray):ByteArray:=⟨(shortL b).toArray⟩
noncomputable def plainV (b:ByteArray):ByteArray:=⟨(0 :: b.data.toList).toArray⟩
noncomputable def innerV (b:ByteArray):ByteArray:=if (shortV b).size<b.size+1 then shortV b else plainV b
noncomputable def packB (b:ByteArray):ByteArray:=if 48<b.size then ⟨#[]⟩ else sealV (innerV b)
theorem plainV_size (b:ByteArray):(plainV b).size=b.size+1:=by
 show (0 :: b.data.toList).toArray.size=_
 simp
theorem lenS_facts (b:ByteArray):(lenS b).length=257/\(∀ i,(lenS b).getD i 0<=12)/\(∀ i,0<(lenS b).getD i 0↔i∈syms (countsN (symS b)) 257)/\(0<(syms (countsN (symS b)) 257).length->whole (up (lenS b))=true):=by
 have h:=lenOf_facts (countsN (symS b)) (by rw[countsN_length];decide);rw[countsN_length]at h;exact h
theorem incs_mono (s:List Nat):∀ (d:List Nat) (j:Nat),(∀ k∈s,k<d.length)->d.getD j 0<=(incs d s).getD j 0:=by
 unfold incs
 induction s with
 |nil=>intro d j _;exact Nat.le_refl _
 |cons k s ih =>
  intro d j h;have hk:=h k (List.mem_cons_self ..);rw[List.foldl_cons];refine Nat.le_trans ?_ (ih (d.set k (d.getD k 0+1)) j fun x hx=>by rw[List.length_set];exact h x (List.mem_cons_of_mem _ hx));rw[Hf.getD_set _ _ _ _ hk]
  split
  ·rename_i e
   subst e;omega
  ·exact Nat.le_refl _
theorem incs_pos (s:List Nat):∀ (d:List Nat) (j:Nat),(∀ k∈s,k<d.length)->j∈s->0<(incs d s).getD j 0:=by
 induction s with
 |nil=>intro d j _ hj;exact absurd hj (List.not_mem_nil)
 |cons k s ih =>
  intro d j h hj;have hk:=h k (List.mem_cons_self ..)
  have hr:∀ x∈s,x<(d.set k (d.getD k 0+1)).length:=fun x hx=>by rw[List.length_set];exact h x (List.mem_cons_of_mem _ hx)
  have e:incs d (k :: s)=incs (d.set k (d.getD k 0+1)) s:=rfl;rw[e]
  rcases List.mem_cons.1 hj with rfl|hj
  ·have:=incs_mono s (d.set j (d.getD j 0+1)) j hr
   rw[Hf.getD_set _ _ _ _ hk,if_pos rfl]at this;omega
  ·exact ih _ j hr hj
theorem nats_lt (s:List Int) (h:∀ x∈s,0<=x/\x<=256):∀ k∈nats s,k<(Hf.zeros 257).length:=by
 intro k hk;obtain⟨x,hx,rfl⟩:=List.mem_map.1 hk
 have:=h x hx
 rw[zeros_length];omega
theorem symS_ok (b:ByteArray):∀ x∈symS b,okS (up (lenS b)) x:=by
 intro x hx;have h:=symS_mem b x hx;obtain⟨h1,h2,h3,_⟩:=lenS_facts b;refine⟨h.1,by rw[up_length,h1];omega,?_⟩;have hp:0<(lenS b).getD x.toNat 0:=(h3 x.toNat).2 (mem_syms.2 ⟨by omega,incs_pos (nats (symS b)) _ _ (nats_lt _ (symS_mem b)) (List.mem_map.2 ⟨x,hx,rfl⟩)⟩)
 have hl:x.toNat<(lenS b).length:=by omega
 have:=up_at (lenS b) x.toNat hl
 rw[List.getD_eq_getElem?_getD,List.getElem?_eq_getElem (show x.toNat<(up (lenS b)).length by rw[up_length];exact hl),this]
 show (0:Int)<(((lenS b).getD x.toNat 0:Nat):Int)
 omega
theorem above_pos {l:List Int} (h:0<above l):∃ x∈l,0<x:=by
 refine Classical.byContradiction fun hn=>?_
 have:above l=0:=by
  unfold above;rw[List.countP_eq_zero];intro x hx;simp only[decide_eq_true_eq];exact fun h0=>hn ⟨x,hx,h0⟩
 omega
theorem lenS_whole (b:ByteArray) (h:0<above (up (lenS b))):whole (up (lenS b))=true:=by
 obtain⟨_,_,h3,h4⟩:=lenS_facts b;obtain⟨x,hx,h0⟩:=above_pos h;obtain⟨j,hj,rfl⟩:=List.getElem_of_mem hx;rw[up_length]at hj;rw[up_at _ _ hj]at h0;exact h4 (List.length_pos_of_mem ((h3 j).1 (by omega)))
theorem bits_none (b:ByteArray) (h:above (up (lenS b))=0):putR (up (lenS b)) (symS b)=⟨#[]⟩:=by
 refine putR_no (.inr ?_);obtain⟨h1,_⟩:=above_zero _ h;unfold whole;rw[h,h1];simp
theorem bits_some (b:ByteArray) (h:0<above (up (lenS b))):putR (up (lenS b)) (symS b)=⟨(putL (up (lenS b)) (symS b)).toArray⟩:=putR_yes (by have:=symS_len b;omega) (lenS_whole b h) (symS_ok b)
theorem bits_size (b:ByteArray):(putR (up (lenS b)) (symS b)).size<=4800:=by
 by_cases h:above (up (lenS b))=0
 ·rw[bits_none b h]
  decide
 ·rw[bits_some b (by omega)]
  have h1:=Bi.putL_le (up (lenS b)) (Bi.whole_ok (lenS_whole b (by omega))) (symS b);have h2:=symS_len b
  show (putL (up (lenS b)) (symS b)).toArray.size<=4800
  rw[List.size_toArray];omega
theorem lens_counts (b:ByteArray):Hf.lensR (up (countsN (symS b)))=up (lenS b):=by
 have hn:nats (up (countsN (symS b)))=countsN (symS b):=by
  unfold nats up;rw[List.map_map]
  conv=>rhs;rw[<-List.map_id (countsN (symS b))]
  exact List.map_congr_left fun x _=>by simp
 unfold Hf.lensR;rw[if_pos,hn]
 ·rfl
 ·refine Bi.within_of (by rw[up_length,countsN_length];decide) fun x hx=>?_
  obtain⟨y,hy,rfl⟩:=List.mem_map.1 hx;obtain⟨j,hj,rfl⟩:=List.getElem_of_mem hy;have h1:=counts_le (symS b) (symS_mem b) (nats (symS b)).length j;rw[List.take_length]at h1;have h2:=symS_len b
  have e:(countsN (symS b)).getD j 0=(countsN (symS b))[j]:=by rw[List.getD_eq_getElem?_getD,List.getElem?_eq_getElem hj];rfl
  have h3:(countsN (symS b)).getD j 0<=(symS b).length:=h1;omega
end Pk
namespace Up
open Pk
open Hf (up up_length up_at dep lenOf)
open Bi (putR putL okS whole above packR packV openR getR good open_all get_put put_good)
open Go.Proofs.YtbdcffjcogglbaaGreatDoor.So (bwtT bwtA unR unR_bwt tOut bwtT_size)
open Fr (frontR fbackR front_back frontR_yes fst_full look_some fst_more)
open Ze (zerosR backR zeros_back numsR upTo_of)
def syL (d:List Nat) (k:Nat):List Nat:=(List.range k).filter fun i=>decide (0<d.getD i 0)
theorem syL_lt {d:List Nat} {k:Nat}:∀ i∈syL d k,i<k:=fun _ hi=>List.mem_range.1 (List.mem_filter.1 hi).1
theorem rowT_eq (d:List Nat) (k:Nat):rowT d k=(syL d k).flatMap fun (i:Nat)=>[(i:Int),((d.getD i 0:Nat):Int)]:=by
 induction k with
 |zero=>rfl
 |succ k ih =>
  rw[rowT];unfold syL at ih ⊢;rw[List.range_succ,List.filter_append,List.flatMap_append,<-ih];by_cases h:0<d.getD k 0
  ·rw[if_pos h,List.filter_cons_of_pos (by simpa using h)]
   simp
  ·rw[if_neg h,List.filter_cons_of_neg (by simpa using h)]
   simp
theorem above_eq (d:List Nat):above (up d)=(syL d d.length).length:=by
 have e:d=(List.range d.length).map fun i=>d.getD i 0:=by
  refine List.ext_getElem (by simp) fun i h1 h2=>?_;rw[List.getElem_map,List.getElem_range,List.getD_eq_getElem?_getD,List.getElem?_eq_getElem h1];rfl
 unfold above up syL;rw[List.countP_map,List.countP_eq_length_filter]
 conv=>lhs;rw[e]
 rw[List.filter_map,List.length_map]
 congr 1
 refine List.filter_congr fun i _=>?_;simp
def tabL (d a:List Nat) (s:List Nat):List Nat:=s.foldl (fun a i=>a.set i (d.getD i 0)) a
theorem tabL_length (d:List Nat) (s:List Nat):∀ a,(tabL d a s).length=a.length:=by
 induction s with
 |nil=>intro a;rfl
 |cons i s ih =>
  intro a
  show (tabL d (a.set i (d.getD i 0)) s).length=_
  rw[ih,List.length_set]
theorem tabL_next (d a s:List Nat) (k:Nat) (h:k<s.length):tabL d a (s.take (k+1))=(tabL d a (s.take k)).set s[k] (d.getD s[k] 0):=by
 unfold tabL;rw[List.take_succ_eq_append_getElem h,List.foldl_append];rfl
theorem tabL_get (d:List Nat) (s:List Nat):∀ (a:List Nat),(∀ i∈s,i<a.length)->∀ j,(tabL d a s).getD j 0=if j∈s then d.getD j 0 else a.getD j 0:=by
 induction s with
 |nil=>intro a _ j;rw[if_neg (List.not_mem_nil)];rfl
 |cons i s ih =>
  intro a h j;have hi:=h i (List.mem_cons_self ..)
  show (tabL d (a.set i (d.getD i 0)) s).getD j 0=_
  rw[ih _ (fun x hx=>by rw[List.length_set];exact h x (List.mem_cons_of_mem _ hx)),Hf.getD_set _ _ _ _ hi];by_cases hj:j∈s
  ·rw[if_pos hj,if_pos (List.mem_cons_of_mem _ hj)]
  ·rw[if_neg hj]
   by_cases e:j=i
   ·subst e
    rw[if_pos rfl,if_pos (List.mem_cons_self ..)]
   ·rw[if_neg (by simpa using e),if_neg (by simp[hj,e])]
theorem tabL_all (d:List Nat) (h:d.length=257):tabL d (Hf.zeros 257) (syL d 257)=d:=by
 have hl:(tabL d (Hf.zeros 257) (syL d 257)).length=257:=by rw[tabL_length,zeros_length]
 refine List.ext_getElem (by rw[hl,h]) fun i h1 h2=>?_;have hg:=tabL_get d (syL d 257) (Hf.zeros 257) (fun i hi=>by rw[zeros_length];exact syL_lt i hi) i;rw[List.getD_eq_getElem?_getD,List.getElem?_eq_getElem h1]at hg
 have hd:d.getD i 0=d[i]:=by rw[List.getD_eq_getElem?_getD,List.getElem?_eq_getElem h2];rfl
 have hz:(Hf.zeros 257).getD i 0=0:=by
  unfold Hf.zeros;rw[List.getD_eq_getElem?_getD,List.getElem?_replicate]
  split<;>rfl
 rw[hd,hz]at hg;rw[show (tabL d (Hf.zeros 257) (syL d 257))[i]=_ from hg]
 split
 ·rfl
 ·rename_i hn
  have:¬0<d.getD i 0:=fun h0=>hn (List.mem_filter.2 ⟨List.mem_range.2 (by omega),by simpa using h0⟩)
  omega
def Good (s b:ByteArray):Prop:=b.size<=48/\s=shortV b/\(shortV b).size<b.size+1
theorem front_nums (l:List UInt8) (h:l.length<=400):numsR (frontR l) 255=true:=by
 have h0:=fst_full l l.length (Nat.le_refl _);rw[List.take_length]at h0;rw[frontR_yes h]
 have hall:∀ k,k<=l.length->∀ x∈(Fr.fst' (l.take k)).1,0<=x/\x<=255:=by
  intro k
  induction k with
  |zero=>intro _ x hx;cases hx
  |succ k ih =>
   intro hk x hx;have hf:=(fst_full l k (by omega)).1;obtain⟨h1,_,_⟩:=look_some hf (c:=l[k].toNat) (UInt8.toNat_lt _);rw[fst_more hk]at hx
   rcases List.mem_append.1 hx with hx|hx
   ·exact ih (by omega) x hx
   ·rw[List.mem_singleton.1 hx]
    omega
 have:=hall l.length (Nat.le_refl _)
 rw[List.take_length]at this;unfold numsR;rw[decide_eq_true (by omega),upTo_of this];rfl
theorem bwt_len {b:ByteArray} (h:b.size<=48):(bwtT b).data.toList.length=b.size:=by
 rw[Array.length_toList];exact bwtT_size h
theorem sym_back {b:ByteArray} (h:b.size<=48):backR (symS b)=frontR (bwtT b).data.toList:=zeros_back (front_nums _ (by rw[bwt_len h];omega))
theorem text_of_sym {b:ByteArray} (h:b.size<=48):(⟨(fbackR (backR (symS b))).toArray⟩:ByteArray)=bwtT b:=by
 rw[sym_back h,front_back _ (by rw[bwt_len h];omega)]
theorem block_back {b:ByteArray} (h:b.size<=48):unR ⟨(fbackR (backR (symS b))).toArray⟩ ((bwtA b:Nat):Int)=tOut b 0 0:=by
 rw[text_of_sym h];exact unR_bwt h
theorem sym_some {b:ByteArray} (h:b.size<=48) (h0:0<b.size):0<above (up (lenS b)):=by
 cases hs:symS b with
 |nil =>
  exfalso
  have h1:=text_of_sym h;rw[hs]at h1;have h2:=bwtT_size h
  have e:(fbackR (backR []))=[]:=by
   have:backR []=[]:=by decide
   rw[this];decide
  rw[e]at h1;rw[<-h1]at h2;have h3:0=b.size:=h2;omega
 |cons x l =>
  obtain⟨h1,h2,h3⟩:=symS_ok b x (by rw[hs];exact List.mem_cons_self ..);unfold above;rw[List.countP_pos_iff]
  have hl:x.toNat<(up (lenS b)).length:=by omega
  rw[List.getD_eq_getElem?_getD,List.getElem?_eq_getElem hl]at h3;exact⟨_,List.getElem_mem hl,by simpa using h3⟩
theorem good_pos {s b:ByteArray} (h:Good s b):0<b.size:=by
 have h1:=h.2.2
 have h2:1<=(shortV b).size:=by
  show 1<=(shortL b).toArray.size
  rw[List.size_toArray];unfold shortL;simp
 omega
theorem bits_back {s b:ByteArray} (h:Good s b):getR (up (lenS b)) (openR (bitsS b) (8*((bitsS b).size:Int))) ((symS b).length:Int)=(symS b,((putL (up (lenS b)) (symS b)).length:Int),0):=by
 have ha:=sym_some h.1 (good_pos h)
 have hb:bitsS b=packV ⟨(putL (up (lenS b)) (symS b)).toArray⟩:=by
  unfold bitsS;rw[bits_some b ha]
  have:=bits_size b
  rw[bits_some b ha]at this;exact Bi.packR_yes _ (by omega) (put_good _ _)
 have hz:(⟨(putL (up (lenS b)) (symS b)).toArray⟩:ByteArray).size<=4800:=by
  have:=bits_size b
  rw[bits_some b ha]at this;exact this
 obtain⟨z,h1,h2⟩:=open_all (put_good (up (lenS b)) (symS b)) (by omega);rw[<-hb]at h1 h2;rw[show (8*((bitsS b).size:Int))=((8*(bitsS b).size:Nat):Int) by omega];refine get_put (lenS_whole b ha) (symS_ok b) (symS_len b) (z:=z) (by rw[h1]) ?_ h2
 have hbs:(bitsS b).size<=601:=by rw[hb,Bi.packV_size];omega
 have:(openR (bitsS b) ((8*(bitsS b).size:Nat):Int)).size<=8*(bitsS b).size:=by
  rw[Bi.openR_yes _ _ (by omega) (Nat.le_refl _)];exact Nat.le_of_eq (Sh.strF_size _ _)
 omega
end Up
namespace Up
open Pk
open Hf (up up_length)
open Bi (above)
open Go.Proofs.YtbdcffjcogglbaaGreatDoor.So (bwtA)
open Nu (numB zz putS)
open Gn (rd)
open Nm2 (num_back extract_list)
noncomputable def numsAll (b:ByteArray):List Int:=headS b++rowT (lenS b) 257
noncomputable def posK (b:ByteArray) (k:Nat):Nat:=1+(numsL ((numsAll b).take k)).length
theorem numsL_append (a c:List Int):numsL (a++c)=numsL a++numsL c:=by unfold numsL;rw[List.flatMap_append]
theorem short_list {s b:ByteArray} (h:Good s b):s.data.toList=[1]++(numsL (numsAll b)++(bitsS b).data.toList):=by
 rw[h.2.1]
 show (shortL b).toArray.toList=_
 unfold shortL numsAll;rw[numsL_append];simp
theorem bwtA_le {b:ByteArray} (h:b.size<=48):bwtA b<=b.size:=by unfold bwtA;rw[if_pos h];exact So.atK_le _ _
theorem above_le (b:ByteArray):above (up (lenS b))<=257:=by
 have h:=(lenS_facts b).1;unfold above;refine Nat.le_trans (List.countP_le_length) ?_;rw[up_length,h];exact Nat.le_refl _
theorem numsAll_mem {b:ByteArray} (h:b.size<=48):∀ x∈numsAll b,0<=x/\x<=400:=by
 intro x hx;have h1:=bwtA_le h;have h2:=symS_len b;have h3:=above_le b
 rcases List.mem_append.1 hx with hx|hx
 ·unfold headS at hx
  simp only[List.mem_cons,List.not_mem_nil,or_false]at hx;omega
 ·have:=rowT_mem (lenS b) 12 (lenS_facts b).2.1 257 x hx
  omega
theorem rd_good {s b:ByteArray} (h:Good s b) (k:Nat) (hk:k<(numsAll b).length):rd s (posK b k:Int)=((numsAll b)[k],posK b (k+1),0):=by
 have hm:=numsAll_mem h.1 _ (List.getElem_mem hk)
 have hs:s.size<=8000:=by have:=h.2.2;have:=h.1;rw[h.2.1];omega
 have hl:s.data.toList=([1]++numsL ((numsAll b).take k))++(numB (zz (numsAll b)[k])++(numsL ((numsAll b).drop (k+1))++(bitsS b).data.toList)):=by
  rw[short_list h]
  conv=>lhs;rw[<-List.take_append_drop k (numsAll b),List.drop_eq_getElem_cons hk]
  rw[numsL_append]
  have:numsL ((numsAll b)[k] :: (numsAll b).drop (k+1))=numB (zz (numsAll b)[k])++numsL ((numsAll b).drop (k+1)):=by
   unfold numsL;rw[List.flatMap_cons];rfl
  rw[this];simp
 have:=num_back s (numsAll b)[k] _ _ (by omega) (by omega) hs hl
 have e1:(([1]++numsL ((numsAll b).take k)).length:Nat)=posK b k:=by unfold posK;simp;omega
 rw[e1]at this;rw[this]
 have e2:posK b k+(putS (numsAll b)[k]).size=posK b (k+1):=by
  unfold posK;rw[List.take_succ_eq_append_getElem hk,numsL_append,List.length_append]
  have:(numsL [(numsAll b)[k]]).length=(putS (numsAll b)[k]).size:=by
   unfold numsL;simp
  omega
 rw[e2]
theorem pair_get {f g:Nat->Int} (s:List Nat):∀ (j:Nat) (hj:j<s.length),(s.flatMap fun i=>[f i,g i])[2*j]? = some (f s[j])/\(s.flatMap fun i=>[f i,g i])[2*j+1]? = some (g s[j]):=by
 induction s with
 |nil=>intro j hj;exact absurd hj (Nat.not_lt_zero _)
 |cons x s ih =>
  intro j hj;rw[List.flatMap_cons]
  cases j with
  |zero=>exact⟨rfl,rfl⟩
  |succ j =>
   have:=ih j (by simpa using hj)
   rw[show 2*(j+1)=2*j+2 by omega,show 2*j+2+1=2*j+1+2 by omega]
   simpa using this
theorem numsAll_len (b:ByteArray):(numsAll b).length=4+2*above (up (lenS b)):=by
 unfold numsAll headS;rw[List.length_append,rowT_eq,above_eq,(lenS_facts b).1];generalize syL (lenS b) 257=s
 have:(s.flatMap fun (i:Nat)=>[(i:Int),(((lenS b).getD i 0:Nat):Int)]).length=2*s.length:=by
  induction s with
  |nil=>rfl
  |cons x s ih=>rw[List.flatMap_cons,List.length_append,ih];simp;omega
 rw[this];simp
theorem numsAll_head (b:ByteArray):(numsAll b)[0]? = some (b.size:Int)/\(numsAll b)[1]? = some ((bwtA b:Nat):Int)/\(numsAll b)[2]? = some ((symS b).length:Int)/\(numsAll b)[3]? = some ((above (up (lenS b)):Nat):Int):=by
 unfold numsAll headS;exact⟨rfl,rfl,rfl,rfl⟩
theorem numsAll_pair (b:ByteArray) (j:Nat) (hj:j<(syL (lenS b) 257).length):(numsAll b)[4+2*j]? = some ((syL (lenS b) 257)[j]:Int)/\(numsAll b)[4+2*j+1]? = some (((lenS b).getD (syL (lenS b) 257)[j] 0:Nat):Int):=by
 have h:=pair_get (f:=fun i=>(i:Int)) (g:=fun i=>(((lenS b).getD i 0:Nat):Int)) (syL (lenS b) 257) j hj;unfold numsAll headS;rw[rowT_eq];rw[List.getElem?_append_right (by simp),List.getElem?_append_right (by simp;omega)];simp only[List.length_cons,List.length_nil];rw[show 4+2*j-(0+1+1+1+1)=2*j by omega,show 4+2*j+1-(0+1+1+1+1)=2*j+1 by omega];exact h
theorem posK_all {s b:ByteArray} (h:Good s b):posK b (numsAll b).length<=s.size/\s.extract (posK b (numsAll b).length) s.size=bitsS b:=by
 have hl:=short_list h
 have hs:s.size=1+(numsL (numsAll b)).length+(bitsS b).data.toList.length:=by
  show s.data.size=_
  rw[<-Array.length_toList,hl];simp;omega
 unfold posK;rw[List.take_length];refine⟨by omega,Bi.ext_list ?_⟩;rw[extract_list,hl,<-List.append_assoc,List.drop_left' (by simp;omega),List.take_of_length_le];omega
end Up
end Go.Proofs.YtbdcffjcogglbaaGreatDoor
