import Derived.Test.YtoojegpaofdbfaaGreatDoorKz21
import Derived.Test.YtoojegpaofdbfaaGreatDoorKz23
set_option maxRecDepth 100000
set_option maxHeartbeats 8000000
set_option linter.unusedSimpArgs false
namespace Go.Proofs.YtoojegpaofdbfaaGreatDoor
open Go.RowKit
open Go.Proofs.Tryz
namespace Ls
open Gn (rd zjm handle rt zl8 QE zev)
def HH(w:zW):Prop:=w.cell? ⟨1,0,none⟩=some handle
theorem qS{w w':zW}(h:HH w)(a:zU w w'):HH w':=QE a h
end Ls
namespace Hf
open In (IsI zdB Ints qe)
structure Lp (base gl n S:Nat) (w:zW) (wr:zW) (v:Value) (m:List MT) (d:List Nat):Prop where
 own:zcT wr 282 base v m
 sym:zg3 wr m
 len:IsI wr gl 2 (up d)
 inv:Inv (mt m) d S
 few:ns (mt m)<=n
 dn:d.length=n
 ne:∀z∈m,0<z.1.2.length
 low:zU w wr
 lo:w.heap.size<=gl
 hi:gl<base
theorem depths_any(a:Option Addr)(ci n:Nat)(c:List Nat)(w:zW)(h:Ints w w.heap.size a (up c))(hn:c.length=n)(cj:n<=257)(hm:∀x∈c,x<=10000):
  Calls prog 220 #[.slice a n ci] w fun e w'=>e=.returned (.slice (some ⟨w.heap.size,0,none⟩) n n)/\IsI w' w.heap.size 2 (up (zy c))/\zU w w':=by
 obtain⟨i0,hi,d2,d3,d4⟩:=E4 In.Tryz.infoI2;obtain⟨j0,dv,ds,dt,du⟩:=E4 Tryz.infoTree;have HN:=zj hn;have HS:=zj h;have cf:=zj (zpj c (by omega) hm);have b2:=zj (zbG c n (by omega));have di:=zj (zin c n)
 have b0:Hid (zy c=if (trees c n).length=1 then (zeros n).set ((at0 (trees c n) 0).2.getD 0 0) 1 else run (trees c n).length (trees c n) (zeros n)):=by
  unfold Hid;rw[<-hn];rfl
 have dm:Hid ((c.take n).sum=c.sum):=by
  unfold Hid;rw[<-hn,Fb]
 clear hn h hm;go_enter func220,ntmps220
 go_wp2_with (at_make;refine Fi _ rfl (.tmp 9) (.tmp 9) 41 rfl w.heap.size 2 i0 (.int .i64 0) 1 underlying41 hi d2 d3 .i64 .i64 _ _ n rfl rfl (by omega) (by omega) (by rw[d4];omega) (by unfold maxLen;omega) (Ea _) ?_;intro w1 B b;have da:=zj (qe B);have al:=zj ((Eb w.heap.size w).grown b (Ea _) (by simp));have a9:=(qe B).lt;clear B b)
 have dk:=zj (((HS.o.below al.o).mono al.o.size));refine(zlx a ci n c w1 dk.o HN.o cj).mono ?_;rintro e w2 ⟨v2,m,rfl,S,cv,ah,K⟩;have an:=zj S
 have ct:m.length<=n:=by rw[<-qz,S];exact JB c n
 have p:Hid (Lp w1.heap.size w.heap.size n c.sum w w2 v2 m (zeros n)):=⟨cv,ah,by
  have:up (zeros n)=List.replicate n 0:=by unfold up zeros;rw[Lv];rfl
  rw[this]
  exact da.o.below K a9,by
  have:=b2.o
  rw[HN.o,dm.o]at this;rw[S]
  exact this,by rw[S];exact di.o,Fj ..,fun z r=>by
  obtain⟨j,_,_,e⟩:=jZ c n z.1 (by rw[<-S];exact Ft.2 ⟨z,r,rfl⟩);rw[e]
  exact Mx,al.o.trans (K.mono al.o.size),Ea _,a9⟩
 clear S cv ah K
 have d0:∃x q,v2=.slice x m.length q:=by
  obtain⟨_,h⟩:=p.o.own
  rcases h with⟨h,h0⟩|⟨g,q,_,hv,_⟩
  ·exact⟨none,0,by rw[h,h0]⟩
  ·exact⟨_,q,hv⟩
 obtain⟨x2,q2,rfl⟩:=d0;obtain⟨k,L⟩:∃k,k=m.length:=⟨_,rfl⟩;have HK:=zj L;rw[<-L]at ct p ⊢;clear L;by_cases h1:k=1
 ·subst h1
  obtain⟨y,hy⟩:=Om.1 HK.o.symm;subst hy;obtain⟨g,q',dq,hv,co,bp,av,Z,aq,R⟩:=p.o.own.parts Mx
  obtain⟨rfl,rfl⟩:x2=some ⟨g,0,none⟩/\q2=q':=by simp at hv;exact hv
  have hr:=zeq (m:=[y]) Z R 0 Mx;obtain⟨j,dw,_,c5⟩:=jZ c n y.1 (by rw[<-an.o];exact Ft.2 ⟨y,Ej.2 rfl,rfl⟩);have c3:=p.o.sym y (Ej.2 rfl);have cg:Hid (trees c n=[y.1]):=an.o.symm;obtain⟨⟨yw,ys⟩,yv⟩:=y
  simp only at hr c5 c3 cg
  obtain⟨rfl,rfl⟩:=Prod.mk.inj c5;obtain⟨gs,cs,cu,rfl,cp,ei,cz⟩:=c3;have eh:w2.cell? ⟨gs,0,none⟩=some (.int .i64 (j:Nat)):=(El w2 gs 0 _ _ _ cp).trans (cz 0 Mx)
  have bo:j<(zeros n).length:=by rw[p.o.dn];exact dw
  have dp:w2.cell? ⟨w.heap.size,j,none⟩=some (.int .i64 (((zeros n).getD j 0:Nat):Int)):=by
   rw[p.o.len.cell (j:=j) (by rw[zm];exact bo),zaw _ _ bo]
  have em:=p.o.len.frozen j;generalize (zeros n).getD j 0=el at dp
  have c9:Hid (zy c=(zeros n).set j 1):=by
   have:=b0.o
   rw[cg.o]at this;exact this
  have dc:Hid (IsI (w2.setCell ⟨w.heap.size,j,none⟩ (.int .i64 1)) w.heap.size 2 (up (zy c))):=by
   have:=p.o.len.set j 1
   unfold Hid;rw[c9.o];rw[show ((1:Int))=((1:Nat):Int) from rfl,QS]at this;exact this
  have c8:Hid (zU w (w2.setCell ⟨w.heap.size,j,none⟩ (.int .i64 1))):=p.o.low.setCell (by simp) _;obtain⟨r0,r1⟩:=hr;rw[Uc]at r0;rw[show 0*2+1=1 from rfl]at r1
  have d5:(j:Int)<n:=by omega
  clear Z aq R cp cz bo av
  go_wp2_with fail
  go_loopw [4,5,6,7] (fun tv _ _ _ wr=>tv=.slice (some ⟨g,0,none⟩) 1 q2/\wr=w2.setCell ⟨w.heap.size,j,none⟩ (.int .i64 1)) (fun _ _ _ _ _=>0)
  case atStart=>exact⟨rfl,rfl⟩
  case round=>
   obtain⟨rfl,hw⟩:=hrel;subst wr
   go_wp2_with fail
   go_ret;exact⟨rfl,dc.o,c8.o⟩
 ·have ec:((k:Int)==1)=false:=by simp;omega
  have ay:Hid (zy c=run m.length (mt m) (zeros n)):=by
   have:=b0.o
   rw[<-an.o,qz,<-HK.o,Eh h1]at this;rw[<-HK.o];exact this
  go_wp2_with fail
  go_loopw [4,5,6,7] (fun tv _ _ _ wr=>∃(m:List MT) (d:List Nat) (x:Option Addr) (k q:Nat),tv=.slice x k q/\k=m.length/\k<=n/\zy c=run m.length (mt m) d/\Lp w1.heap.size w.heap.size n c.sum w wr (.slice x k q) m d) (fun tv _ _ _ _=>match tv with|.slice _ k _=>k|_=>0)
  case atStart=>exact⟨m,zeros n,x2,k,q2,rfl,HK.o,ct,ay.o,p.o⟩
  case round=>
   obtain⟨m,d,x,k,q,rfl,L,eg,a7,cr⟩:=hrel;have cc:=zj a7;have l:=zj cr;have b4:=zj L;clear a7 cr L an p ay HK;by_cases h2:1<k
   ·obtain⟨i,rfl⟩:∃i,k=i+1:=⟨k-1,by omega⟩
    obtain⟨t,F⟩:∃t,i=t+1:=⟨i-1,by omega⟩;have be:=zj F;have d6:t<=255:=(by omega);have au:m.length=i+1:=b4.o.symm;obtain⟨g,q',dq,hv,co,bp,av,Z,aq,R⟩:=l.o.own.parts (by omega);rw[au]at hv bp R
    obtain⟨rfl,rfl⟩:x=some ⟨g,0,none⟩/\q=q':=by simp at hv;exact hv
    obtain⟨D,c4,C,G,ae,aa,f⟩:=taken m i au;obtain⟨P,ah,ai,a8,a4,a2,ag⟩:=taken (m.eraseIdx (least (mt m) (i+1))) t (by rw[aa];exact F);have E:=l.o.inv;have ap:2<=(mt m).length:=(by rw[qz];omega);have aw:P.1=second (mt m):=(by rw[a8,ae];rfl);have cw:mt ((m.eraseIdx (least (mt m) (i+1))).eraseIdx (least (mt (m.eraseIdx (least (mt m) (i+1)))) (t+1)))=zjX (mt m):=(by rw[a4,ae];rfl);have d7:=cf.o;have dx:=E.weights ap;have ac:=E.join ap;have a3:=zq2 (mt m) ap;have cx:=QA (mt m) d (by omega)
    have Q:∀z∈m,z.1.2.length<=257:=fun z r=>by
     have h3:=zvV (mt m) z.1 (Ft.2 ⟨z,r,rfl⟩);have h4:=l.o.few;omega
    have ar:∀z∈m,∀s∈z.1.2,s<d.length:=fun z r=>E.lt z.1 (Ft.2 ⟨z,r,rfl⟩)
    have br:∀j,d.getD j 0<=2570000:=fun j=>by
     have:=E.small j
     omega
    have M0:=zj (Mid.start Z aq R l.o.len)
    have ao:Hid (∀(W:zW) (a5 b5 a6 b6:Value),Mid wr W g w.heap.size q (i+1) m d a5 b5 a6 b6->Calls prog 252 #[.slice (some ⟨g,0,none⟩) (i+1) q,.slice (some ⟨w.heap.size,0,none⟩) n n] W fun e w'=>e=.returned (.tuple #[.agg #[.int .i64 (D.1.1:Nat),D.2],.slice (some ⟨g,0,none⟩) i q])/\Hid (Mid wr w' g w.heap.size q i (m.eraseIdx (least (mt m) (i+1))) (qR d D.1.2) a5 b5 a6 b6)):=fun W a5 b5 a6 b6 hM=>by
     obtain⟨cu,e1,e2,e3⟩:=hM.row;refine(zeH g w.heap.size i q n n m d cu W au bp (by omega) e1 e2 e3 (l.o.sym.keeps hM.kp) Q ar hM.len l.o.dn (fun j=>by have:=br j;omega) D c4).mono ?_;rintro e w' ⟨rfl,hr,hd,hw⟩;exact⟨rfl,hM.take hr hd hw⟩
    have V:Hid (∀(W:zW) (a5 b5 a6 b6:Value),Mid wr W g w.heap.size q i (m.eraseIdx (least (mt m) (i+1))) (qR d D.1.2) a5 b5 a6 b6->Calls prog 252 #[.slice (some ⟨g,0,none⟩) i q,.slice (some ⟨w.heap.size,0,none⟩) n n] W fun e w'=>e=.returned (.tuple #[.agg #[.int .i64 (P.1.1:Nat),P.2],.slice (some ⟨g,0,none⟩) t q])/\Hid (Mid wr w' g w.heap.size q t ((m.eraseIdx (least (mt m) (i+1))).eraseIdx (least (mt (m.eraseIdx (least (mt m) (i+1)))) (t+1))) (qR (qR d D.1.2) P.1.2) a5 b5 a6 b6)):=fun W a5 b5 a6 b6 hM=>by
     obtain⟨cu,e1,e2,e3⟩:=hM.row;have cn:(qR d D.1.2).length=d.length:=qg _ _
     have:=zeH g w.heap.size t q n n (m.eraseIdx (least (mt m) (i+1))) (qR d D.1.2) cu W (by rw[aa];exact F) (by omega) (by omega) e1 e2 (by rw[<-F];exact e3) ((l.o.sym.sub f).keeps hM.kp) (fun z r=>Q z (f z r)) (fun z r s hs=>by rw[cn];exact ar z (f z r) s hs) hM.len (cn.trans l.o.dn) (fun j=>by
      have h3:=zfO D.1.2 d j (ar D C);have h4:=br j;have h5:=Q D C
      omega) P ah
     rw[<-F]at this;refine this.mono ?_;rintro e w' ⟨rfl,hr,hd,hw⟩;rw[F]at hr hM;exact⟨rfl,by rw[F];exact hM.take hr hd hw⟩
    have az:=l.o.sym D C;have a0:=l.o.sym P (f P ai);have bk:=Q D C;have K:=Q P (f P ai);have af:=l.o.ne D C;have bs:=G
    have ab:mt ((m.eraseIdx (least (mt m) (i+1))).eraseIdx (least (mt (m.eraseIdx (least (mt m) (i+1)))) (t+1)))++[(D.1.1+P.1.1,D.1.2++P.1.2)]=join (mt m):=by
     rw[cw,G,aw];rfl
    have a1:qR (qR d D.1.2) P.1.2=qR (qR d (first (mt m)).2) (second (mt m)).2:=by rw[G,aw]
    have d1:D.1.1+P.1.1<=2570000:=by rw[G,aw];omega
    have O:∀z∈(m.eraseIdx (least (mt m) (i+1))).eraseIdx (least (mt (m.eraseIdx (least (mt m) (i+1)))) (t+1)),z∈m:=fun z r=>f z (ag z r);have M:((m.eraseIdx (least (mt m) (i+1))).eraseIdx (least (mt (m.eraseIdx (least (mt m) (i+1)))) (t+1))).length=t:=a2;generalize (m.eraseIdx (least (mt m) (i+1))).eraseIdx (least (mt (m.eraseIdx (least (mt m) (i+1)))) (t+1))=m3 at V ab O M;generalize m.eraseIdx (least (mt m) (i+1))=m2 at ao V;have b3:=zj ab;have bc:=zj a1;have ce:=zj O;have am:=zj M;have dd:=zj ac;have de:=zj a3;have dj:=zj cx;obtain⟨⟨u,H⟩,v1⟩:=D;obtain⟨⟨o,I⟩,v2⟩:=P
    simp only at ao V b3 bc az a0 bk K af d1
    obtain⟨g1,c1,d9,rfl,bl,dy,cl⟩:=az;obtain⟨g2,c2,ea,rfl,bm,dz,cm⟩:=a0
    have bb:Hid (∀(W:zW) (gb:Nat),W.heap[gb]?=some (.cells #[.slice (some ⟨g1,0,none⟩) H.length c1,.slice (some ⟨g2,0,none⟩) I.length c2] 280 (0,0))->qW wr W->Calls prog 253 #[.slice (some ⟨gb,0,none⟩) 2 2] W fun e w'=>∃v,e=.returned v/\Sym w' v (H++I)/\zU W w'):=fun W gb hg L=>
     zn9 gb g1 c1 g2 c2 H I _ W af bk K hg (ZG (L g1 _ bl)) (ZG (L g2 _ bm)) (fun j hj=>(El W g1 j _ _ _ (L g1 _ bl)).trans (cl j hj)) (fun j hj=>(El W g2 j _ _ _ (L g2 _ bm)).trans (cm j hj))
    clear ab a1 O M ac a3 cx C ai G a8 bs ae a4 aa a2 f ag c4 ah aw cw E Q ar br bl dy cl bm dz cm hv Z aq R ap dx F au;have df:=zj av;clear av
    have dh:Hid (0<(H++I).length):=by
     unfold Hid;rw[Ek];omega
    generalize H.length=n1 at ao bb bk af;generalize I.length=n2 at V bb K;(go_wp2_with fail);refine(ao.o _ _ _ _ _ M0.o).mono ?_;rintro e w3 ⟨rfl,M3⟩;obtain⟨X,Y,aj,ak⟩:=M3.o.cells5;(go_wp2_with fail);have M4:=zj (M3.o.set5 (.int .i64 (u:Nat)) (.slice (some ⟨g1,0,none⟩) n1 c1));refine(V.o _ _ _ _ _ M4.o).mono ?_;rintro e w5 ⟨rfl,M5⟩;clear X Y aj ak;obtain⟨X,Y,aj,ak⟩:=M5.o.cells5;obtain⟨bi,bj,bw,bz⟩:=M5.o.cells6;(go_wp2_with fail);have M6:=zj (M5.o.set6 (.int .i64 (o:Nat)) (.slice (some ⟨g2,0,none⟩) n2 c2));have bu:((w5.setCell ⟨wr.heap.size+1,0,none⟩ (.int .i64 (o:Nat))).setCell ⟨wr.heap.size+1,1,none⟩ (.slice (some ⟨g2,0,none⟩) n2 c2)).heap.size=w5.heap.size:=(by simp[World.setCell]);generalize (w5.setCell ⟨wr.heap.size+1,0,none⟩ (.int .i64 (o:Nat))).setCell ⟨wr.heap.size+1,1,none⟩ (.slice (some ⟨g2,0,none⟩) n2 c2)=w6 at M6 bu ⊢
    have b1:Hid ((w6.alloc (.cells #[.slice (some ⟨g1,0,none⟩) n1 c1,.slice (some ⟨g2,0,none⟩) n2 c2] 280)).heap[w5.heap.size]?=some (.cells #[.slice (some ⟨g1,0,none⟩) n1 c1,.slice (some ⟨g2,0,none⟩) n2 c2] 280 (0,0))):=by
     unfold Hid;rw[<-bu];exact E2 w6 _
    have bh:=zj (M6.o.below (W':=w6.alloc (.cells #[.slice (some ⟨g1,0,none⟩) n1 c1,.slice (some ⟨g2,0,none⟩) n2 c2] 280)) ((Eb _ _).alloc (Ea _) _));clear X Y aj ak bi bj bw bz bu;refine(bb.o _ w5.heap.size b1.o bh.o.kp).mono ?_;rintro e w7 ⟨v7,rfl,cy,ck⟩;have U:=zj (bh.o.below ck);have S7:=zj cy;obtain⟨g7,c7,eb,rfl,_,_,_⟩:=cy;clear ck M3 M4 M5 M6 bh b1;obtain⟨n7,bq⟩:∃n7,n7=(H++I).length:=⟨_,rfl⟩;have d8:=zj bq;rw[<-bq]at S7 ⊢;clear bq;obtain⟨X,Y,aj,ak⟩:=U.o.cells5;obtain⟨bi,bj,bw,bz⟩:=U.o.cells6
    have ca:Hid (zcT w7 282 w1.heap.size (.slice (some ⟨g,0,none⟩) t q) m3):=by
     obtain⟨cu,e1,e2,e3⟩:=U.o.row;exact zcT.of am.o co e1 (by have:=be.o;omega) df.o e2 e3
    have cb:Hid (w7.ownsRow w1.heap.size 282 2 (.slice (some ⟨g,0,none⟩) t q) t (cells m3)):=by
     have:=ca.o
     unfold zcT at this;rw[am.o]at this;exact this
    have ej:=U.o.wrt.size;have ek:=l.o.low.size;have dr:w1.heap.size<=w7.heap.size:=(by have:=U.o.hg;omega)
    go_wp2_with (at_builtin;refine Eu _ rfl (.tmp 45) (.tmp 53) 278 rfl w1.heap.size 282 j0 _ 2 32 underlying278 dv ds dt du rfl (by decide) _ _ _ rfl (cb.o.alloc _) ⟨w7.heap.size,0,none⟩ 1 1 [.int .i64 ((u:Int)+o),.slice (some ⟨g7,0,none⟩) n7 c7] rfl rfl (zfP _ _ _ _) (zdL rfl rfl) (by unfold maxLen;omega) (by omega) (by simp;omega) ?_)
    intro v9 w9 B b _;have b9:=zj (zcT.snoc (x:=((u + o,H++I),.slice (some ⟨g7,0,none⟩) n7 c7)) (m:=m3) (by rw[am.o];exact B));have ee:w.heap.size<g:=(by have:=l.o.hi;omega);have ef:=U.o.hg;have ad:zU w w7:=⟨U.o.wrt.os.trans l.o.low.os,U.o.wrt.tape.trans l.o.low.tape,U.o.wrt.output.trans l.o.low.output,by omega,fun k L=>(U.o.wrt.block k (by omega) (by omega) (by omega)).trans (l.o.low.block k L)⟩
    have c6:Hid (zU w w9):=by
     refine(ad.alloc (by omega) _).grown b (by simp;omega) ?_;intro k L
     have:=(Lx cb.o k L).1
     omega
    have bn:qW w7 w9:=(qW.below ((Eb _ _).alloc (Ea _) _)).trans (qW.grown b ((ca.o.alloc _).rowT (by decide)))
    have dl:Hid (zg3 w9 (m3++[((u + o,H++I),.slice (some ⟨g7,0,none⟩) n7 c7)])):=by
     intro z r
     rcases Fl.1 r with r|r
     ·exact((l.o.sym.sub ce.o).keeps (U.o.kp.trans bn)) z r
     ·rw[Ej.1 r]
      exact S7.o.keeps bn
    have db:Hid (IsI w9 w.heap.size 2 (up (qR (qR d H) I))):=by
     unfold Hid IsI;rw[b.block w.heap.size (by simp;omega) (by simp[Value.ownBlock];omega),Nt _ _ _ (by omega)];exact U.o.len
    have bg:Hid (mt (m3++[((u + o,H++I),.slice (some ⟨g7,0,none⟩) n7 c7)])=join (mt m)):=by
     unfold Hid;rw[<-b3.o];unfold mt;rw[Fg];rfl
    have bf:Hid ((m3++[(((u + o,H++I),.slice (some ⟨g7,0,none⟩) n7 c7):MT)]).length=t+1):=by
     unfold Hid;rw[Ek,am.o];rfl
    have b8:Hid (∀z∈m3++[(((u + o,H++I),.slice (some ⟨g7,0,none⟩) n7 c7):MT)],0<z.1.2.length):=by
     intro z r
     rcases Fl.1 r with r|r
     ·exact l.o.ne z (ce.o z r)
     ·rw[Ej.1 r]
      exact dh.o
    obtain⟨x9,q9,ax⟩:∃x q,v9=.slice x (t+1) q:=by
     obtain⟨g9,q9,_,ax,_⟩:=b9.o.parts (by rw[bf.o];omega);rw[bf.o]at ax;exact⟨_,q9,ax⟩
    subst ax
    have b7:Hid (Lp w1.heap.size w.heap.size n c.sum w w9 (.slice x9 (t+1) q9) (m3++[((u + o,H++I),.slice (some ⟨g7,0,none⟩) n7 c7)]) (qR (qR d H) I)) :=
     ⟨b9.o,dl.o,db.o,by rw[bg.o,bc.o];exact dd.o,by rw[bg.o,de.o];exact l.o.few,by rw[qg,qg];exact l.o.dn,b8.o,c6.o,l.o.lo,l.o.hi⟩
    have cd:Hid (zy c=run (m3++[(((u + o,H++I),.slice (some ⟨g7,0,none⟩) n7 c7):MT)]).length (mt (m3++[((u + o,H++I),.slice (some ⟨g7,0,none⟩) n7 c7)])) (qR (qR d H) I)):=by
     have h3:=cc.o;have h4:=dj.o;rw[qz]at h4;rw[h4,<-bc.o,<-bg.o,qz]at h3;exact h3
    clear B b ad bn X Y aj ak bi bj bw bz;have cq:t+1<=n:=(by have:=be.o;omega);(go_wp2_with fail)
    go_roundw
    case rel=>exact⟨_,_,x9,t+1,q9,rfl,bf.o.symm,cq,cd.o,b7.o⟩
    case measure=>have:=be.o;simp;omega
   ·have ed:decide ((1:Int)<(k:Int))=false:=by simp;omega
    have HF:Hid (zy c=d):=cc.o.trans (znk _ _ _ (by rw[qz,<-b4.o];omega));(go_wp2_with fail);go_ret;exact⟨rfl,by rw[HF.o];exact l.o.len,l.o.low⟩
end Hf
namespace Hf
open In (IsI zdB Ints zx)
open Bi (within qb J5 zao)
def sumAt(W:zW):Value->Nat
 |.slice (some ⟨b,off,_⟩) n _=>((List.range n).map fun j=>match W.cell? ⟨b,off+j,none⟩ with|some (.int _ x)=>x.toNat|_=>0).sum
 |_=>0
theorem zbP{W:zW}{B n q:Nat}{x:Option Addr}{c:List Nat}(h:Ints W B x (up c))(f:c.length=n): sumAt W (.slice x n q)=c.sum:=by rcases h with g | ⟨b,off,rfl,_,i⟩;{have d:c=[]:=by{have:=Mn List.length g;rw [zm] at this;exact Fu this};subst d;subst f;cases x<;>rfl};{have e:((List.range n).map fun j=>match W.cell? ⟨b,off + j,none⟩ with | some (.int _ x)=>x.toNat | _=>0)=c:=by{apply Li;{simp [f]};{intro j k a;rw [Lj,Ny,i j (by rw [zm];exact a),zaw c j a,Eg,Ef a];simp}};exact Mn List.sum e}
theorem zv6{W:zW}{g base n:Nat}{l:List Int}(h:IsI W g 2 l)(a:base<=g)(b:l.length=n)(c:n<=1048576):zx W base (.slice (some ⟨g,0,none⟩) n n) l:=by subst b;refine⟨by simp,.inr ⟨g,l.length,zdB l,rfl,a,h,Ea _,by unfold maxLen;omega,by rw[In.zss,K3],?_⟩⟩;unfold zdB;rw[Ez (by simp)]
theorem zfq(d:List Nat)(h:d.length<=257):within (up d) 12=zgQ d:=by cases a:zgQ d with|true=>{refine J5 (by rw[zm];exact h) fun x e=>?_;obtain⟨y,b,rfl⟩:=Ft.1 e;have:=Fh (Nb.1 a y b);omega}|false=>{refine Px.2 fun c=>?_;have:=(qb c).2;rw[Px]at a;refine a (Nb.2 fun y b=>Eo ?_);have:=(this (y:Int) (Ft.2 ⟨y,b,rfl⟩)).2;omega}
def zaW(l:List Int):List Nat:=l.map Int.toNat
theorem zwd(l:List Int)(m:Int)(h:within l m=true):up (zaW l)=l:=by
 have:=(qb h).2
 unfold up zaW;rw[Pz]
 conv=>rhs;rw[<-List.map_id l]
 refine Mw fun x a=>?_
 have:=this x a
 show ((x.toNat:Nat):Int)=x
 omega
def znT(l:List Int):List Int:=if within l 10000=true then up (lenOf (zaW l)) else []
theorem zdK(c:List Nat)(h:∀x∈c,x<=10000):∀x∈flat c,x<=10000:=by intro x a;obtain⟨y,b,rfl⟩:=Ft.1 a;have:=h y b;split<;>omega
theorem zkb(a:Option Addr)(k:Nat)(l:List Int)(w:zW)(h:Ints w w.heap.size a l)(hl:l.length<=1048576): Calls prog 178 #[.slice a l.length k] w fun e w'=>∃v,e=.returned v/\zx w' w.heap.size v (znT l)/\zU w w':=by have C:=zj (zao l 10000 a k w.heap.size w h hl);cases p:within l 10000 with|false=>{have O:Hid (znT l=[]):=Eh (by rw[p];decide);rw[p]at C;generalize l.length=n at C ⊢;go_enter func178,ntmps178;(go_wp2_with fail);refine C.o.mono ?_;rintro e w1 ⟨rfl,aa⟩;subst w1;(go_wp2_with fail);go_ret;exact⟨_,rfl,by rw[O.o];exact zx.nil _ _,Eb _ _⟩}|true=>{have b:=(qb p).1;have I:=zwd l 10000 p;have O:Hid (znT l=up (lenOf (zaW l))):=Ei p;have P:Hid (Ints w w.heap.size a (up (zaW l))):=by{rw[I];exact h};have U:Hid (∀x∈zaW l,x<=10000):=by{intro x hx;obtain⟨y,hy,rfl⟩:=Ft.1 hx;have:=(qb p).2 y hy;omega};have M:Hid ((zaW l).length=l.length):=Fc ..;rw[p]at C;rw[O.o];generalize zaW l=c0 at P U M;generalize l.length=n at C b M ⊢;clear p I h hl O;obtain⟨R,Y⟩:∃R,R=lenOf c0:=⟨_,rfl⟩;have W:=zj Y;rw[<-Y];clear Y;go_enter func178,ntmps178;(go_wp2_with fail);refine C.o.mono ?_;rintro e w1 ⟨rfl,aa⟩;subst w1;(go_wp2_with fail);refine(depths_any a k n c0 w P.o M.o b U.o).mono ?_;rintro e w2 ⟨rfl,u,D⟩;have Q:=zj u;have s:=zj D;have ad:=u.lt;clear u D;(go_wp2_with fail);(go_loopw [0,3] (fun X lv wr=>∃(c:List Nat) (x:Option Addr) (q g:Nat),X=.slice x n q/\lv=.slice (some ⟨g,0,none⟩) n n/\Ints wr wr.heap.size x (up c)/\c.length=n/\(∀y∈c,y<=10000)/\R=lenOf c/\IsI wr g 2 (up (zy c))/\w.heap.size<=g/\zU w wr) (fun X _ wr=>sumAt wr X));(case atStart=>exact⟨c0,a,k,w.heap.size,rfl,rfl,(P.o.below s.o).mono s.o.size,M.o,U.o,W.o,Q.o,Ea _,s.o⟩);(case round=>obtain⟨c,x,q,g,rfl,rfl,K,i,F,G,o,Z,t⟩:=hrel;have XI:=zj K;have B:=zj i;have CM:=zj F;have CR:=zj G;have GI:=zj o;have BW:=zj t;have f:=zj (zao (up (zy c)) 12 (some ⟨g,0,none⟩) n wr.heap.size wr (o.ints o.lt) (by rw[zm,qv,i];omega));rw[zm,qv,i,zfq _ (by rw[qv,i];exact b)]at f;have ac:=t.size;clear K i F G o t;cases d:zgQ (zy c) with|true=>{have HF:Hid (R=zy c):=CR.o.trans (zf6 c d);rw[d]at f;clear d;(go_wp2_with fail);refine f.o.mono ?_;rintro e w3 ⟨rfl,ab⟩;subst w3;(go_wp2_with fail);go_ret;exact⟨_,rfl,by rw[HF.o];exact zv6 GI.o Z (by rw[zm,qv,B.o]) (by omega),BW.o⟩}|false=>{have V:=zj (zhY c (by have:=B.o;omega) (by rw[d];decide));have S:=zj (zag c (by have:=B.o;omega) (by rw[d];decide));rw[d]at f;clear d;(go_wp2_with fail);refine f.o.mono ?_;rintro e w3 ⟨rfl,ab⟩;subst w3;(go_wp2_with fail);refine(ztP x q n c wr XI.o B.o b CM.o).mono ?_;rintro e w4 ⟨rfl,z,E⟩;have I4:=zj z;have B4:=zj (BW.o.trans (E.mono ac));have L:=z.lt;clear z E;(go_wp2_with fail);have r:Hid ((flat c).length=n):=by{rw[qh];exact B.o};refine(depths_any (some ⟨wr.heap.size,0,none⟩) n n (flat c) w4 (I4.o.ints L) r.o b (zdK c CM.o)).mono ?_;rintro e w5 ⟨rfl,H,m⟩;have I5:=zj H;have j:=zj ((I4.o.below m L));have B5:=zj (B4.o.trans (m.mono (by omega)));have ae:=m.size;clear H m;(go_wp2_with fail);(go_roundw);(case rel=>exact⟨flat c,some ⟨wr.heap.size,0,none⟩,n,w4.heap.size,rfl,rfl,j.o.ints j.o.lt,r.o,zdK c CM.o,CR.o.trans V.o,I5.o,by omega,B5.o⟩);(case measure=>have e1:=zbP (q:=q) XI.o B.o;have e2:=zbP (q:=n) (j.o.ints j.o.lt) r.o;have e3:=S.o;rw[<-e1,<-e2]at e3;exact e3)})}
end Hf
namespace Hf
open In (IsI zdB Ints zx)
open Bi (within qb J5 zcw zhG)
end Hf
namespace Hf
theorem zn8(g n D a:Nat)(j:Int)(m:List MT)(w:zW)(M:m.length=n)(I:n<=257)(o:∀i,i<n->((i:Int)=j↔i=a))(K:∀i (h:i<m.length),w.cell? ⟨g,i*2,none⟩=some (.int .i64 (m[i].1.1:Nat))): Calls prog 285 #[.slice (some ⟨g,0,none⟩) n D,.int .i64 j] w fun e w'=>e=.returned (.int .i64 (oi (lb (mt m) a n)))/\∃d,w'=w.drewN d:=by have H:=zj M;have B:=zj o;have C:=zj K;have G:=zj (zwN (mt m) a);clear M o K;go_enter func285,ntmps285;(go_wp2_with fail);(go_loopw [6,5] (fun F S wr=>∃(i:Nat) (k:Int),F=.int .i64 i/\S=.int .i64 k/\i<=n/\k=oi (lb (mt m) a i)/\∃d,wr=w.drewN d) (fun F _ _=>n-(intOf F).toNat));(case atStart=>exact⟨0,-1,rfl,rfl,En _,rfl,0,rfl⟩);(case round=>obtain⟨i,k,rfl,rfl,U,L,d,W⟩:=hrel;subst wr;have p:=zj L;clear L;by_cases r:i<n;{have hi':i<m.length:=by{rw[H.o];exact r};by_cases c:i=a;{obtain rfl:=(B.o i r).2 c;have f:Hid (k=oi (lb (mt m) a (i+1))):=by{unfold Hid;rw[lb,Ei c];exact p.o};clear c B p G C;(go_wp2_with fail);(go_big_quiet (fail));(go_wp2_with fail);(go_roundw);(case rel=>exact⟨i+1,k,by go_num,rfl,by omega,f.o,_,rfl⟩);(case measure=>simp[intOf];omega)};{have u:¬((i:Int)=j):=fun e=>c ((B.o i r).1 e);have V:((i:Int) != j)=true:=by{simp;exact u};clear u;have s:=zj c;clear c;cases b:lb (mt m) a i with|none=>{have f:=zj (zw9 b s.o);have t:k<0:=by{rw[p.o,b];decide};have E:decide (k<0)=true:=Eo t;clear p b;(go_wp2_with fail);(go_big_quiet (fail));(go_wp2_with fail);(go_roundw);(case rel=>exact⟨i+1,i,by go_num,rfl,by omega,by rw[f.o];rfl,_,rfl⟩);(case measure=>simp[intOf];omega)}|some l=>{have R:=G.o i l b;have q:l<m.length:=by{rw[H.o];omega};have f:=zj (zxS b s.o);rw[zt1 m i hi',zt1 m l q]at f;obtain rfl:k=(l:Int):=by{rw[p.o,b];rfl};have O:=C.o i hi';have P:=C.o l q;generalize m[i].1.1=x at O f;generalize m[l].1.1=y at P f;have E:decide ((l:Int)<0)=false:=Ed (by omega);have Q:(i:Int)<(n:Int):=by{omega};have t:(l:Int)<(n:Int):=by{omega};clear p b hi' q;by_cases v:x<y;{have z:(x:Int)<(y:Int):=by{omega};rw[Ei v]at f;(go_wp2_with fail);(go_big_quiet (fail));(go_wp2_with fail);(go_roundw);(case rel=>exact⟨i+1,i,by go_num,rfl,by omega,by rw[f.o];rfl,_,rfl⟩);(case measure=>simp[intOf];omega)};{have z:decide ((x:Int)<(y:Int))=false:=by{simp;omega};rw[Eh v]at f;(go_wp2_with fail);(go_big_quiet (fail));(go_wp2_with fail);(go_roundw);(case rel=>exact⟨i+1,l,by go_num,rfl,by omega,by rw[f.o];rfl,_,rfl⟩);(case measure=>simp[intOf];omega)}}}};{obtain rfl:i=n:=by{omega};(go_wp2_with fail);go_ret;exact⟨by rw[p.o];rfl,_,rfl⟩})
theorem zee{α:Type}(X:List α)(y:α)(k:Nat):(X++[y]).eraseIdx k=if k<X.length then X.eraseIdx k++[y] else if k=X.length then X else X++[y]:=by by_cases h:k<X.length;{rw[Ei h,List.eraseIdx_append_of_lt_length h]};{rw[Eh h,List.eraseIdx_append_of_length_le (by omega)];by_cases a:k=X.length;{rw[Ei a,a,Lq];simp};{rw[Eh a,Mt (by simp;omega)]}}
def ze2(m:List MT)(a b i:Nat):List MT:=((m.take i).eraseIdx a).eraseIdx b
theorem zf1(m:List MT)(i:Nat)(a:i<m.length):m.take (i+1)=m.take i++[m[i]]:=by rw[Ll,Ef a];rfl
theorem zjt(m:List MT)(a b i:Nat)(j:i<m.length):ze2 m a b (i+1)=if i=a∨i=shift a b then ze2 m a b i else ze2 m a b i++[m[i]]:=by have e:(m.take i).length=i:=by{rw[E7];omega};unfold ze2;rw[zf1 m i j];generalize m[i]=y;generalize m.take i=X at e ⊢;rw[zee,e];by_cases g:a<i;{rw[Ei g,zee];have f:(X.eraseIdx a).length=i-1:=by{rw[Mk,Ei (by omega),e]};rw[f];by_cases c:b<i-1;{rw[Ei c,Eh];unfold shift;split<;>omega};{rw[Eh c,Mt (l:=X.eraseIdx a) (k:=b) (by omega)];by_cases d:b=i-1;{rw[Ei d,Ei];unfold shift;rw[Eh (by omega)];omega};{rw[Eh d,Eh];unfold shift;rw[Eh (by omega)];omega}}};{rw[Eh g,Mt (l:=X) (k:=a) (by omega)];by_cases c:a=i;{rw[Ei c,Ei (.inl c.symm)]};{rw[Eh c,zee,e];by_cases d:b<i;{rw[Ei d,Eh];unfold shift;rw[Ei (by omega)];omega};{rw[Eh d,Mt (l:=X) (k:=b) (by omega)];by_cases h:b=i;{rw[Ei h,Ei];unfold shift;rw[Ei (by omega)];omega};{rw[Eh h,Eh];unfold shift;split<;>omega}}}}
theorem zpx(m:List MT)(a b i:Nat)(c:i<m.length)(h:i=a∨i=shift a b):ze2 m a b (i+1)=ze2 m a b i:=by rw[zjt m a b i c,Ei h]
theorem zpR(m:List MT)(a b i:Nat)(c:i<m.length)(h:¬i=a)(d:¬i=shift a b):ze2 m a b (i+1)=ze2 m a b i++[m[i]]:=by rw[zjt m a b i c,Eh (by omega)]
theorem zlp(m:List MT)(a b i:Nat):(ze2 m a b i).length<=i:=by unfold ze2;rw[Mk,Mk,E7];split<;>split<;>omega
theorem zuy(m:List MT)(a b i:Nat)(x:MT)(h:x∈ze2 m a b i):x∈m :=
 Nm (Pj (Pj h))
theorem ztv(m:List MT)(a b:Nat):ze2 m a b m.length=(m.eraseIdx a).eraseIdx b:=by unfold ze2;rw[Fb]
theorem zuS(m:List MT)(a b:Nat):(m.eraseIdx a)[b]?=m[shift a b]?:=by unfold shift;split;{rw[Ri (by assumption)]};{rw[Rj (by omega)]}
theorem ztQ(l:List Tree)(n:Nat)(b:l.length=n)(a:0<n):lb l n n=some (least l n):=by have h:=zp1 l n n (Ea _);rw[Eh (by omega),Mt (by omega)]at h;rw[h];have:=least_le l n;unfold shift;rw[Ei (by omega)]
theorem zuH(d s t:List Nat):qR d (s++t)=qR (qR d s) t:=by unfold qR;rw[K5]
structure Two (m:List MT) (n a b:Nat) (y1 y2:MT):Prop where
 an:a<n+2
 bn:b<n+2
 ne:¬a=b
 fa:lb (mt m) (n+2) (n+2)=some a
 fb:lb (mt m) a (n+2)=some b
 at1:m[a]?=some y1
 at2:m[b]?=some y2
 jn:∃b',b=shift a b'/\mt (ze2 m a b' (n+2))++[(y1.1.1+y2.1.1,y1.1.2++y2.1.2)]=join (mt m)/\y1.1=first (mt m)/\y2.1=second (mt m)
theorem zyM(m:List MT)(n:Nat)(f:m.length=n+2):∃a b k l,Two m n a b k l:=by obtain⟨k,i,_,d,c,g,_⟩:=taken m (n+1) f;obtain⟨l,j,_,e,h,q,_⟩:=taken (m.eraseIdx (least (mt m) (n+1+1))) n g;have r:=least_le (mt m) (n+2);have o:=least_le (mt (m.eraseIdx (least (mt m) (n+2)))) (n+1);have p:(mt m).eraseIdx (least (mt m) (n+2))=mt (m.eraseIdx (least (mt m) (n+2))):=by{unfold mt;rw[zgo]};refine⟨least (mt m) (n+2),shift (least (mt m) (n+2)) (least (mt (m.eraseIdx (least (mt m) (n+2)))) (n+1)),k,l,by omega,?_,?_,ztQ _ _ (by rw[qz];exact f) (by omega),?_,i,?_,_,rfl,?_,d,?_⟩;{unfold shift;split<;>omega};{unfold shift;split<;>omega};{have:=zyc (mt m) (least (mt m) (n+2)) (n+2) (by omega) (by omega);rw[this,p];rfl};{rw[<-zuS];exact j};{rw[<-f,ztv,f,h,c,d,e,c];rfl};{rw[e,c];rfl}
end Hf
namespace So
open Go.RowKit Go.Sort Go.Proofs
theorem zsQ(T:Nat->zY)(blk aw a b:Nat)(d:Array Nat)(w:zW)(hH:HoldsK (qU T) 2 w blk 0 d)(o:blk<w.heap.size)(ax:a+1<b)(hb:b<=d.size)(a4:d.size<=1048576)(aj:Ris (clT T) (a+1) b (dF d))(P:Sep a (a+1) b (dF d)): Calls prog 283 #[.slice (some ⟨blk,0,none⟩) d.size aw,.int .i64 a,.int .i64 (a+1:Nat),.int .i64 b,.func (.func 250) #[] #[]] w fun e w'=>e=.returned (.tuple #[])/\∃n d' os,w'=sortWorldK (qU T) 2 w blk 0 n d' os/\d'.size=d.size/\qt a b (dF d) (dF d')/\Ris (clT T) a b (dF d'):=by have mixed:=mixed;have ar:=zc (qH hH);have HH:=zc hH;have p:=zc aj;have U:=zc P;clear hH aj P;obtain⟨z,hz⟩:∃z,z=d.size:=⟨_,rfl⟩;have HZ:=zc hz;rw[<-hz]at hb a4 ⊢;clear hz;obtain⟨f,hf⟩:∃f,f=dF d:=⟨_,rfl⟩;have R:=zc hf;rw[<-hf]at p U ⊢;clear hf;obtain⟨m,hm⟩:∃m,m=a+1:=⟨_,rfl⟩;have a1:(m:Int)-(a:Int)=1:=by{omega};have az:a<m:=by{omega};rw[<-hm]at ax p U ⊢;have HM:=zc hm;clear hm;go_enter func283,ntmps283;(go_wp2_with fail);clear a1;(go_loopw [10,11] (fun u v wr=>∃(i j n:Nat) (os:Array Obj),u=.int .i64 i/\v=.int .i64 j/\m<=i/\i<=j/\j<=b/\(m<i->lx (clT T) (f (i-1)) (f a))/\(j<b->lx (clT T) (f a) (f j))/\wr=sortWorldK (qU T) 2 w blk 0 n d os) (fun u v _=>(intOf v).toNat-(intOf u).toNat));(case atStart=>exact⟨m,b,0,#[],rfl,rfl,Ea _,by omega,Ea _,fun h=>absurd h (by omega),fun h=>absurd h (by omega),ar.o⟩);(case round=>obtain⟨i,j,n,os,rfl,rfl,a2,bg,af,ah,ae,c⟩:=hrel;have ac:=zc ah;have ab:=zc ae;have HW:=zc c;clear ah ae;by_cases bk:i<j;{obtain⟨h,hh⟩:∃h,h=(i+j)/2:=⟨_,rfl⟩;have e1:((i:Int)+(j:Int))/2=(h:Int):=by{omega};have bc:h<z:=by{omega};have bf:i<=h:=by{omega};have be:h<j:=by{omega};have Y:HoldsK (qU T) 2 wr blk 0 d:=by{rw[c];exact zt HH.o o n d os rfl};have B:blk<wr.heap.size:=by{rw[c];exact Ey o (zX n d os)};obtain⟨C,ak,D,al⟩:=Zn Y (i:=h) (by have:=HZ.o;omega);obtain⟨E,am,F,an⟩:=Zn Y (i:=a) (by have:=HZ.o;omega);obtain⟨x,hx⟩:∃x,x=d[h]!:=⟨_,rfl⟩;obtain⟨y,hy⟩:∃y,y=d[a]!:=⟨_,rfl⟩;have H:Hid (x=f h/\y=f a):=⟨by rw[hx,R.o];rfl,by rw[hy,R.o];rfl⟩;rw[<-hx]at C D;rw[<-hy]at E F;have g0:=fun M l=>cell_grown (a:=⟨blk,h*2,none⟩) B C M l;have g1:=fun M l=>cell_grown (a:=⟨blk,h*2+1,none⟩) B D M l;have g2:=fun M l=>cell_grown (a:=⟨blk,a*2,none⟩) B E M l;have g3:=fun M l=>cell_grown (a:=⟨blk,a*2+1,none⟩) B F M l;have Q:Hid (∀W,Calls prog 250 #[.agg #[.int .i64 x,.string (T x)],.agg #[.int .i64 y,.string (T y)]] W fun e w'=>e=.returned (.int .i64 (cfT T x y))/\∃q l,w'=grow (W.drewN q) l):=fun W=>ztt T x y W;have g:=zid T x y;obtain⟨r,hr⟩:∃r,r=cfT T x y:=⟨_,rfl⟩;rw[<-hr]at g Q;have bn:(h:Int)<(z:Int):=by{omega};have bo:(a:Int)<(z:Int):=by{omega};have t:=zc (fun M l=>sortWorldK_grown_c (qU T) 2 w blk 0 n M d os l);rw[<-c]at t;clear hr hx hy c hh C ak D al E am F an Y B;cases I:clT T x y with|true=>{rw[I]at g;have a0:r<0:=Fh g;have S:Hid (lx (clT T) (f h) (f a)):=by{unfold Hid;rw[<-H.o.1,<-H.o.2];exact zcq I};clear g;(go_wp2_with fail);(go_quiet_grown (first|(go_at_call 250;refine Calls.grown_of (Q.o _))));have V:Hid (grow (wr.drewN nq) osq=sortWorldK (qU T) 2 w blk 0 (n+nq) d (os++osq)):=t.o nq osq;dsimp only;clear g0 g1 g2 g3;(go_wp2_with fail);(go_roundw);(case rel=>exact⟨h+1,j,n+nq,os++osq,by go_num,rfl,by omega,by omega,af,fun _=>S.o,ab.o,V.o⟩);(case measure=>simp[intOf];omega)}|false=>{rw[I]at g;have a0:¬r<0:=Le g;have S:Hid (lx (clT T) (f a) (f h)):=by{unfold Hid;have ai:=U.o a h (Ea _) az (by omega) (by omega);rw[<-H.o.1,<-H.o.2]at ai ⊢;exact zgw I ai};clear g;(go_wp2_with fail);(go_quiet_grown (first|(go_at_call 250;refine Calls.grown_of (Q.o _))));have V:Hid (grow (wr.drewN nq) osq=sortWorldK (qU T) 2 w blk 0 (n+nq) d (os++osq)):=t.o nq osq;dsimp only;clear g0 g1 g2 g3;(go_wp2_with fail);(go_roundw);(case rel=>exact⟨i,h,n+nq,os++osq,rfl,rfl,a2,by omega,by omega,ac.o,fun _=>S.o,V.o⟩);(case measure=>simp[intOf];omega)}};{obtain rfl:i=j:=by{omega};have aq:Hid (Ris (clT T) a b (qO a m i f)):=by{unfold Hid;have a3:=HM.o;rw[a3]at p ⊢;exact zvG (Zq T) p.o (by omega) (by omega) (fun k h1 h2=>p.o.le h1 (show k<=i-1 by omega) (by omega) (Zq T) (ac.o (by omega))) (fun k h1 h2=>p.o.ge (by omega) h1 h2 (Zq T) (ab.o (by omega)))};have ap:Hid (qt a b f (qO a m i f)):=(zaD f (by omega) (by omega)).mono (Ea _) (by omega) af;clear c;(go_wp2_with fail);(go_loopw [13] (fun u a5=>∃(k n:Nat) (s:Array Nat) (os:Array Obj),u=.int .i64 k/\a<=k/\k+1<=i/\s.size=z/\dF s=qO a m (k+1) f/\a5=sortWorldK (qU T) 2 w blk 0 n s os) (fun u _=>i-(intOf u).toNat));(case atStart=>exact⟨a,n,d,os,rfl,Ea _,by omega,HZ.o.symm,by rw[HM.o,zp0];exact R.o.symm,HW.o⟩);(case round=>obtain⟨k,n2,s,O,rfl,ay,bh,L,K,c⟩:=hrel;have G:=zc L;have ao:=zc K;obtain⟨ip,Z⟩:∃ip,i=ip+1:=⟨i-1,by omega⟩;have a9:(i:Int)-1=(ip:Int):=by{omega};have a6:IntKind.i64.wrap (ip:Int)=(ip:Int):=by{rw[E1];omega};have a8:=zc Z;by_cases a7:k+1<i;{obtain⟨q,hq⟩:∃q,q=k+1:=⟨_,rfl⟩;have bb:(k:Int)+1=(q:Int):=by{omega};have X:HoldsK (qU T) 2 wr blk 0 s:=by{rw[c];exact zt HH.o o n2 s O (L.trans HZ.o)};obtain⟨C,ak,D,al⟩:=Zn X (i:=k) (by omega);obtain⟨E,am,F,an⟩:=Zn X (i:=q) (by omega);obtain⟨x,hx⟩:∃x,x=s[k]!:=⟨_,rfl⟩;obtain⟨y,hy⟩:∃y,y=s[q]!:=⟨_,rfl⟩;have aa:=sortWorldK_swp_c (qU T) 2 w blk 0 (zcd T) n2 s O o k q (by omega) (by omega);rw[<-hx,<-hy,<-c,Ff,Ff]at aa;rw[<-hx]at C D;rw[<-hy]at E F;have au:=zc aa;have bj:(k:Int)<(z:Int):=by{omega};have bm:(q:Int)<(z:Int):=by{omega};have bl:IntKind.i64.wrap (q:Int)=(q:Int):=by{rw[E1];omega};have ag:(k:Int)<(ip:Int):=by{omega};have bi:k<q:=by{omega};have HQ:=zc hq;have ad:Hid (So.swp (qO a m (k+1) f) k q=qO a m (k+2) f):=by{unfold Hid;rw[HM.o,hq];exact zvU a k f ay};clear c X hx hy aa L K Z hq;(go_wp2_with fail);(go_region);(all_goals (try go_wp2_with fail));(all_goals go_roundw);(case rel=>refine⟨q,n2+1,Go.Sort.swp s k q,O,rfl,by omega,by have:=HQ.o;omega,by rw[Nc];exact G.o,?_,au.o⟩;rw[zej s k q (by have:=G.o;have:=HQ.o;omega) (by have:=G.o;have:=HQ.o;omega),ao.o,ad.o,HQ.o]);(case measure=>have:=HQ.o;simp[intOf];omega)};{have ag:¬(k:Int)<(ip:Int):=by{omega};have av:=zc c;have HE:Hid (dF s=qO a m i f):=by{unfold Hid;rw[K,show k+1=i by omega]};clear c L K Z;(go_wp2_with fail);refine Ec (v:=.tuple #[]) (by simp[results,results283,go_sem]) rfl ⟨rfl,n2,s,⟨O,av.o⟩,G.o,by rw[HE.o];exact ap.o,by rw[HE.o];exact aq.o⟩})})
end So
namespace Ze
open Bi (QC zO ZA JR)
open In (Ints zx zV zD z8)
open In.Tryz (infoI2)
theorem zx.empty(w:zW):zx (w.alloc (.cells #[] 2)) w.heap.size (.slice (some ⟨w.heap.size,0,none⟩) 0 0) [] :=
 ⟨rfl,.inr ⟨w.heap.size,0,#[],rfl,Ea _,heap_alloc_last w _,Ea _,by decide,rfl,rfl⟩⟩
theorem zep(l:List Int)(a:Option Addr)(K B:Nat)(w:zW)(L:Ints w B a l)(hB:B<=w.heap.size)(V:l.length<=1048576): Calls prog 176 #[.slice a l.length K] w fun e w'=>∃v,e=.returned v/\zx w' w.heap.size v (QL l)/\zU w w':=by obtain⟨i0,aa,ac,ad,ae⟩:=E4 infoI2;by_cases f:400<l.length;{rw[zbm (Jb f)];clear L;generalize l.length=n at f V ⊢;go_enter func176,ntmps176;(go_wp2_with fail);go_ret;exact⟨_,rfl,zx.nil _ _,Eb _ _⟩};{have F:=zh (QC l 255 a K B w L V);cases D:ziW l 255 with|false=>{rw[zbm ((Qz (by omega)).trans D)];rw[D]at F;clear L D;generalize l.length=n at F f V ⊢;have hd:decide (400<(n:Int))=false:=Ed (by omega);go_enter func176,ntmps176;(go_wp2_with fail);refine F.o.mono ?_;rintro e w' ⟨rfl,hw⟩;subst w';(go_wp2_with fail);go_ret;exact⟨_,rfl,zx.nil _ _,Eb _ _⟩}|true=>{rw[zbW ((Qz (by omega)).trans D)];have X:=zh (Zv D);rw[D]at F;have HS:=zh (L.mono hB);clear L D;obtain⟨n,C⟩:∃n,n=l.length:=⟨_,rfl⟩;have H:=zh C;rw[<-C]at F f ⊢;clear C V;have hd:decide (400<(n:Int))=false:=Ed (by omega);go_enter func176,ntmps176;(go_wp2_with fail);refine F.o.mono ?_;rintro e w' ⟨rfl,hw⟩;subst w';(go_wp2_with fail);(go_loopw [17,3,4] (fun i u m wr=>∃k z:Nat,i=.int .i64 k/\m=.int .i64 z/\k<=n/\z=(zst (l.take k)).2/\zx wr w.heap.size u (zst (l.take k)).1/\zU w wr) (fun i _ _ _=>n-(intOf i).toNat));(case atStart=>exact⟨0,0,rfl,rfl,En _,rfl,zx.nil _ _,Eb _ _⟩);(case round=>obtain⟨k,z,rfl,rfl,hk,hz,p,j⟩:=hrel;have Q:=zma (l.take k);rw[E7]at Q;have af:(zst (l.take k)).1.length+z<=k:=by{omega};have R:=zh p;have U:=zh j;have I:=zh hz;have ai:=j.size;clear Q;obtain⟨a',s,rfl,_,_⟩:=p.ints;generalize P:(zst (l.take k)).1.length=nl at af R;have y:=zh P;clear hz p j P;by_cases ab:k<n;{have r:k<l.length:=by{rw[<-H.o];exact ab};obtain⟨b,off,rfl,hb,hc⟩:=(HS.o.below U.o).some (by omega);have ci:=hc k r;have E:=X.o _ (Er r);obtain⟨x,hx⟩:∃x,x=l[k]:=⟨_,rfl⟩;have Y:=zh hx;rw[<-hx]at ci E;clear hc hx;by_cases G:x=0;{have g:Hid (zst (l.take (k+1))=((zst (l.take k)).1,z+1)):=by{unfold Hid;rw[zcX r (by rw[<-Y.o];exact G),I.o]};have Z:(x==0)=true:=Lb.2 G;clear G;(go_wp2_with fail);(go_roundw);(case rel=>exact⟨k+1,z+1,by go_num,by go_num,by omega,by rw[g.o],by rw[g.o];exact R.o,U.o⟩);(case measure=>simp[intOf];omega)};{have g:Hid (zst (l.take (k+1))=((zst (l.take k)).1++JT z++[x+1],0)):=by{unfold Hid;rw[zbe r (by rw[<-Y.o];exact G),I.o,Y.o]};have Z:(x==0)=false:=Es.2 G;have h:=zh (zex (zst (l.take k)).1 z w.heap.size (.slice a' nl s) wr R.o (by omega) (by have:=y.o;omega));have ah:=zeR z;clear G;(go_wp2_with fail);refine h.o.mono ?_;rintro e w4 ⟨v4,rfl,c,d⟩;have t:Hid (((zst (l.take k)).1++JT z).length<=400):=by{unfold Hid;rw[Ek,y.o];omega};obtain⟨l4,O⟩:∃l4,l4=(zst (l.take k)).1++JT z:=⟨_,rfl⟩;rw[<-O]at c g t;have S:=zh c;have W:=zh (U.o.trans d);have z4:=d.size;obtain⟨a4,ag,rfl,_,_⟩:=c.ints;clear c d O;(go_wp2_with (at_builtin;refine Eu _ rfl (.tmp 27) (.tmp 30) 41 rfl w.heap.size 2 i0 (.int .i64 0) 1 8 underlying41 aa ac ad ae rfl (by decide) _ _ _ rfl (zx.alloc S.o _) ⟨w4.heap.size,0,none⟩ 1 1 [.int .i64 (x+1)] rfl rfl (zV _ _ _) (zD _) (by unfold maxLen;have:=t.o;omega) (by have:=t.o;omega) (by simp;omega) ?_));intro v' w5 q o _;have N5:=zh (zx.snoc q);have b5:=zh (z8 W.o (by omega) (Ea _) S.o o);clear q o;(go_wp2_with fail);(go_roundw);(case rel=>exact⟨k+1,0,by go_num,rfl,by omega,by rw[g.o],by rw[g.o];exact N5.o,b5.o⟩);(case measure=>simp[intOf];omega)}};{have M:k=l.length:=by{have:=H.o;omega};have HT:Hid (l.take k=l):=by{unfold Hid;rw[M,Fb]};have h:=zh (zex (zst (l.take k)).1 z w.heap.size (.slice a' nl s) wr R.o (by omega) (by have:=y.o;omega));rw[HT.o]at h I;rw[I.o]at h ⊢;clear M I;(go_wp2_with fail);refine h.o.mono ?_;rintro e w4 ⟨v4,rfl,c,d⟩;have S:=zh c;have W:=zh (U.o.trans d);clear c d;(go_wp2_with fail);go_ret;exact⟨_,rfl,S.o,W.o⟩})}}
end Ze
namespace Ze
open Bi (zO ZA JR)
open In (Ints zx IsO zV zD z8)
open In.Tryz (infoI2)
theorem zbC(l:List Int)(m:Int)(a:Option Addr)(t B:Nat)(w:zW)(E:Ints w B a l)(K:l.length<=1048576): Calls prog 231 #[.slice a l.length t,.int .i64 m] w fun e w'=>e=.returned (.bool (j7 l m))/\w'=w:=by have F:=zh E;clear E;obtain⟨n,f⟩:∃n,n=l.length:=⟨_,rfl⟩;have c:=zh f;rw[<-f]at K ⊢;clear f;go_enter func231,ntmps231;(go_wp2_with fail);(go_loopw [5] (fun i wr=>∃k:Nat,i=.int .i64 k/\k<=n/\(∀j (o:j<l.length),j<k->0<=l[j]/\l[j]<=m)/\wr=w) (fun i _=>n-(intOf i).toNat));(case atStart=>exact⟨0,rfl,En _,fun j o g=>absurd g (Kd j),rfl⟩);(case round=>obtain⟨k,rfl,O,d,y⟩:=hrel;subst y;have z:=zh d;clear d;by_cases v:k<n;{have p:k<l.length:=by{rw[<-c.o];exact v};obtain⟨b,off,rfl,M,D⟩:=F.o.some (by omega);have H:=D k p;obtain⟨x,q⟩:∃x,x=l[k]:=⟨_,rfl⟩;have C:=zh q;rw[<-q]at H;clear D q;by_cases g:x<0∨m<x;{have h:Hid (j7 l m=false):=by{have:=ze3 (m:=m) p (by rw[<-C.o];exact g);unfold Hid j7;rw[this,Ry]};have r:=zh (JR x 0 m wr g);clear g;(go_wp2_with fail);refine r.o.mono ?_;rintro e w' ⟨rfl,y⟩;subst w';(go_wp2_with fail);go_ret;exact⟨zO h.o.symm,rfl⟩};{have r:=zh (ZA x 0 m wr (by omega) (by omega));have s:Hid (0<=x/\x<=m):=by{unfold Hid;omega};clear g;(go_wp2_with fail);refine r.o.mono ?_;rintro e w' ⟨rfl,y⟩;subst w';(go_wp2_with fail);(go_roundw);(case rel=>refine⟨k+1,by go_num,by omega,fun j o I=>?_,trivial⟩;by_cases e:j=k;{subst e;rw[<-C.o];exact s.o};{exact z.o j o (by omega)});(case measure=>simp[intOf];omega)}};{have G:Hid (ziW l m=true):=zcO (fun x q=>by{obtain⟨j,o,rfl⟩:=Fn q;exact z.o j o (by have:=c.o;omega)});by_cases L:n<=400;{have h:Hid (j7 l m=true):=by{unfold Hid;rw[Qz (by have:=c.o;omega)];exact G.o};have u:(n:Int)<=400:=by{omega};(go_wp2_with fail);go_ret;exact⟨zO h.o.symm,rfl⟩};{have h:Hid (j7 l m=false):=Jb (by have:=c.o;omega);have u:decide ((n:Int)<=400)=false:=Ed (by omega);(go_wp2_with fail);go_ret;exact⟨zO h.o.symm,rfl⟩}})
theorem zvm(r:Nat)(w:zW)(L:r<=1048576): Calls prog 263 #[.int .i64 r] w fun e w'=>∃v,e=.returned v/\zx w' w.heap.size v (JT r)/\v≠.slice none 0 0/\zU w w':=by obtain⟨G,n,q,s,t⟩:=E4 infoI2;have H:=zh (zx.empty w);go_enter func263,ntmps263;(go_wp2_with fail);(go_loopw [3,0] (fun u m wr=>∃(h:List Int) (c:Nat),m=.int .i64 c/\zx wr w.heap.size u h/\u≠.slice none 0 0/\h++JT c=JT r/\h.length+c<=1048576/\zU w wr) (fun _ m _=>(intOf m).toNat));(case atStart=>exact⟨[],r,rfl,H.o,by simp,rfl,by simpa using L,(Eb _ _).alloc (Ea _) _⟩);(case round=>obtain⟨h,c,rfl,g,o,F,p,d⟩:=hrel;have k:=zh g;have x:=zh d;have y:=zh F;have P:=d.size;have j:=zh p;have M:c<=1048576:=by{omega};clear F d p;obtain⟨a',D,rfl,_,_⟩:=g.ints;have z:=zh o;clear g o;by_cases I:0<c;{by_cases E:c % 2=1;{have K:(c:Int).tmod 2=1:=by{rw[Lw (by omega)];omega};have hd:((c:Int)-1).tdiv 2=(((c - 1)/2:Nat):Int):=by{rw[K7 (by omega)];omega};have l:Hid (h++([0]++JT ((c - 1)/2))=JT r):=by{unfold Hid;rw[<-y.o,zdk E];rfl};(go_wp2_with (at_builtin;refine Eu _ rfl (.tmp 10) (.tmp 11) 41 rfl w.heap.size 2 G (.int .i64 0) 1 8 underlying41 n q s t rfl (by decide) _ _ _ rfl (zx.alloc k.o _) ⟨wr.heap.size,0,none⟩ 1 1 [.int .i64 0] rfl rfl (zV _ _ _) (zD _) (by unfold maxLen;have:=j.o;omega) (by have:=j.o;omega) (by simp;omega) ?_));intro v' O b a f;have B:=zh (zx.snoc b);have C:=zh (z8 x.o (by omega) (Ea _) k.o a);have i:Hid (v'≠.slice none 0 0):=f;clear b a f;(go_wp2_with fail);(go_roundw);(case rel=>exact⟨h++[0],(c - 1)/2,by go_num,B.o,i.o,by rw[Fa];exact l.o,by have:=j.o;simp;omega,C.o⟩);(case measure=>simp[intOf];omega)};{have K:(c:Int).tmod 2=0:=by{rw[Lw (by omega)];omega};have hd:((c:Int)-2).tdiv 2=(((c - 2)/2:Nat):Int):=by{rw[K7 (by omega)];omega};have l:Hid (h++([1]++JT ((c - 2)/2))=JT r):=by{unfold Hid;rw[<-y.o,zbl I E];rfl};(go_wp2_with (at_builtin;refine Eu _ rfl (.tmp 16) (.tmp 17) 41 rfl w.heap.size 2 G (.int .i64 0) 1 8 underlying41 n q s t rfl (by decide) _ _ _ rfl (zx.alloc k.o _) ⟨wr.heap.size,0,none⟩ 1 1 [.int .i64 1] rfl rfl (zV _ _ _) (zD _) (by unfold maxLen;have:=j.o;omega) (by have:=j.o;omega) (by simp;omega) ?_));intro v' O b a f;have B:=zh (zx.snoc b);have C:=zh (z8 x.o (by omega) (Ea _) k.o a);have i:Hid (v'≠.slice none 0 0):=f;clear b a f;(go_wp2_with fail);(go_roundw);(case rel=>exact⟨h++[1],(c - 2)/2,by go_num,B.o,i.o,by rw[Fa];exact l.o,by have:=j.o;simp;omega,C.o⟩);(case measure=>simp[intOf];omega)}};{obtain rfl:c=0:=by{omega};have l:Hid (h=JT r):=by{unfold Hid;rw[<-y.o,zbz,Kj]};(go_wp2_with fail);go_ret;exact⟨_,rfl,by rw[<-l.o];exact k.o,z.o,x.o⟩})
theorem zeJ{w:zW}{base:Nat}{v:Value}{l:List Int}(h:zx w base v l)(d:v≠.slice none 0 0): ∃g a,v=.slice (some ⟨g,0,none⟩) l.length a/\base<=g/\g<w.heap.size/\IsO w g 2 l:=by rcases h.split with⟨rfl,_⟩|⟨g,a,rfl,c,_,b⟩;{exact absurd rfl d};{exact⟨g,a,rfl,c,b.lt,b⟩}
theorem zc4{w:zW}{g:Nat}{l:List Int}(h:IsO w g 2 l):∀(j:Nat) (u:Value),(l.map (Value.int .i64))[j]?=some u->w.cell? ((⟨g,0,none⟩:Addr).add j)=some u:=by intro j u b;rw[Kl]at b;cases c:l[j]? with|none=>{rw[c]at b;cases b}|some x=>{rw[c]at b;obtain⟨d,e⟩:=Ki.1 c;have a:(⟨g,0,none⟩:Addr).add j=⟨g,j,none⟩:=by{unfold Addr.add;split<;>simp_all};rw[a,h.cell d,e];exact b}
theorem Qg(l:List Int):∀u∈l.map (Value.int .i64),u.oneCell'=true:=by intro u a;obtain⟨x,_,rfl⟩:=Ft.1 a;rfl
theorem zx.joined{w:zW}{base:Nat}{v:Value}{l p:List Int}(h:w.ownsRow base 2 1 v (l.length+p.length) (l.map (Value.int .i64)++p.map (Value.int .i64))):zx w base v (l++p):=by unfold zx;rw[Ek,Fg];exact h
theorem zaP{B base:Nat}{e:TypeId}{w0 w w1:zW}{v:Value}{n size:Nat}{xs:List Value}(b:Below B w0 w)(f:B<=w.heap.size)(d:B<=base)(c:w.ownsRow base e size v n xs)(a:w.grownBy w1 v.ownBlock):Below B w0 w1:=by refine b.grown a f ?_;intro k g;exact Fe d (c.lt k g).1
end Ze
namespace Fr
open Sh (IsB qN upd qB zb9 zbH ZX)
open Ze (zh j7 ziW Zv Qz Jb jQ zbC)
open Bi (QC)
open St (Aft)
open In (Ints)
open Nu (zr bv qI Qi)
def zij(b:List UInt8):Nat->Nat:=fun j=>(b.getD j 0).toNat
theorem zup(b:List UInt8)(j:Nat):zij b j<256:=Mf _
theorem zo5(b:List UInt8)(k:Nat)(x:Int)(a:b.length=k)(c:0<=x)(d:x<256)(j:Nat): upd (fun j=>((zij b j:Nat):Int)) k x j=((zij (b++[UInt8.ofNat x.toNat]) j:Nat):Int):=by unfold upd zij;subst a;by_cases e:j=b.length;{subst e;rw[Ei rfl,Eg,Fx (Ea _)];simp;omega};{rw[Eh e];simp only[Eg];by_cases h:j<b.length;{rw[Kq h]};{rw[Lf (by omega),Lf (by simp;omega)]}}
theorem zqo(b:List UInt8):ZX b.length (zij b)=⟨b.toArray⟩:=by unfold ZX;congr 1;congr 1;apply Li;{simp};{intro i a d;have c:i<b.length:=by{simpa using a};simp[zij,Eg,Ef c]}
theorem zcp(l:List Int)(a:Option Addr)(Q B:Nat)(w:zW)(Y:Ints w B a l)(hB:B<=w.heap.size)(hn:l.length<=1048576): Calls prog 211 #[.slice a l.length Q] w (zB w (.string ⟨(QM l).toArray⟩)):=by obtain⟨i0,ah,am,an,ao⟩:=E4 Nu.Tryz.infoJ5;by_cases h:400<l.length;{rw[zc3 (Jb h)];clear Y;generalize l.length=n at h hn ⊢;go_enter func211,ntmps211;(go_wp2_with fail);go_ret;exact⟨rfl,Eb _ _⟩};{have E:=zh (QC l 255 a Q B w Y hn);cases L:ziW l 255 with|false=>{rw[zc3 ((Qz (by omega)).trans L)];rw[L]at E;clear Y L;generalize l.length=n at E h hn ⊢;have hd:decide (400<(n:Int))=false:=Ed (by omega);go_enter func211,ntmps211;(go_wp2_with fail);refine E.o.mono ?_;rintro e w' ⟨rfl,hw⟩;subst w';(go_wp2_with fail);go_ret;exact⟨rfl,Eb _ _⟩}|true=>{rw[zcc ((Qz (by omega)).trans L)];have O:=zh (Zv L);rw[L]at E;have HS:=zh (Y.mono hB);clear Y L;obtain⟨n,K⟩:∃n,n=l.length:=⟨_,rfl⟩;have z:=zh K;rw[<-K]at E h ⊢;clear K hn;have hd:decide (400<(n:Int))=false:=Ed (by omega);go_enter func211,ntmps211;(go_wp2_with fail);refine E.o.mono ?_;rintro e w' ⟨rfl,hw⟩;subst w';(go_wp2_with fail);refine(zfC w).mono ?_;rintro e w1 ⟨rfl,G⟩;have aa:=zh G;have z1:=G.size;clear G;(go_wp2_with (first|((with_reducible refine QQ Tryz.zeroA251 ?_);intro w2 R q ak ai;have G2:=zh R;have ab:=zh (aa.o.trans (q _ z1));clear R q ai)|((with_reducible refine Sh.jK G2.o Tryz.sizeA251 zql ?_ ?_ ?_);(· rfl);(· rfl);intro w3 S r al aj;have G3:=zh S;have ac:=zh (ab.o.trans (r _ z1));clear S r aj)|(at_make;refine Fi _ rfl (.tmp 17) (.tmp 17) 22 rfl w3.heap.size 5 i0 (.int .u8 0) 1 underlying22 ah am an .i64 .i64 _ _ n rfl rfl (by simp) (by simp) (by rw[ao];omega) (by unfold maxLen;omega) (Ea _) ?_;intro w4 s o;have t:=zh (qB s);have H:=(Eb w3.heap.size w3).grown o (Ea _) (by simp);have G4:=zh (G3.o.below H (by omega));have ad:=zh (ac.o.trans (H.mono (by omega)));clear s o H)));obtain⟨g1,W⟩:∃g1,g1=w1.heap.size:=⟨_,rfl⟩;have e3:w3.heap.size=w1.heap.size+1:=by{omega};rw[e3]at t;have aq:w.heap.size<=g1:=by{omega};rw[<-W]at G4 t ⊢;obtain⟨g2,X⟩:∃g2,g2=g1+1:=⟨_,rfl⟩;have ap:g1<g2:=by{omega};rw[<-X]at t ⊢;clear e3;clear W X ak al z1 E;(go_loopw [21] (fun i wr=>∃k:Nat,i=.int .i64 k/\k<=n/\IsB wr g1 251 .u8 256 (kst (l.take k)).2/\IsB wr g2 5 .u8 n (fun j=>((zij (kst (l.take k)).1 j:Nat):Int))/\zU w wr) (fun i _=>n-(intOf i).toNat));(case atStart=>exact⟨0,rfl,En _,G4.o,t.o.congr (fun j _=>by simp[zij,kst]),ad.o⟩);(case round=>obtain⟨k,rfl,hk,g,c,v⟩:=hrel;obtain⟨m,d⟩:=ziJ l O.o k (by have:=z.o;omega);have R1:=zh g;have T1:=zh c;have GB:=zh v;clear v;by_cases Z:k<n;{have I:k<l.length:=by{rw[<-z.o];exact Z};obtain⟨b,off,rfl,hb,hc⟩:=(HS.o.below GB.o).some (by omega);have ci:=hc k I;have M:=O.o _ (Er I);have C:=zh (ziz I);obtain⟨x,hx⟩:∃x,x=l[k]:=⟨_,rfl⟩;rw[<-hx]at ci M C;obtain⟨p,rfl⟩:∃p:Nat,x=p:=⟨x.toNat,by omega⟩;have hp:p<256:=by{omega};have u:=m.2 p hp;rw[Kf]at C;obtain⟨f,hf⟩:∃f,f=(kst (l.take k)).2:=⟨_,rfl⟩;obtain⟨bs,V⟩:∃bs,bs=(kst (l.take k)).1:=⟨_,rfl⟩;rw[<-hf]at R1 C g u;rw[<-V]at T1 C d c;have c1:=g.cell (j:=p) hp;have c2:=c.cell (j:=k) Z;have f2:=c.frozen k;obtain⟨y,hy⟩:∃y,y=f p:=⟨_,rfl⟩;have HY:=zh hy;rw[<-hy]at c1 u;have D:=zh ((c.set k y).congr (fun j _=>zo5 bs k y d u.1 u.2 j));have af:=zh (g.set_other ⟨g2,k,none⟩ (.int .u8 y) (by simp;omega));have ae:=zh (zhE g1 p 251 f _ af.o hp);rw[<-hy]at C;clear hc hx hf V g c m d hy;(go_wp2_with fail);refine ae.o.mono ?_;rintro e w5 ⟨rfl,U,F⟩;have G5:=zh U;have T5:=zh (D.o.of_heap (F.2.2.2.2 g2 D.o.lt (by omega)));have B5:=zh (Aft.below (GB.o.setCell (p:=⟨g2,k,none⟩) (by simp;omega) (.int .u8 y)) F (by omega) (by have:=D.o.lt;omega));clear U F;(go_wp2_with fail);(go_roundw);(case rel=>exact⟨k+1,by go_num,by omega,by rw[C.o];exact G5.o,by rw[C.o];exact T5.o,B5.o⟩);(case measure=>simp[intOf];omega)};{obtain rfl:k=n:=by{omega};have HT:Hid (l.take k=l):=by{unfold Hid;rw[z.o,Fb]};rw[HT.o]at c d;have ag:=c.str (P:=prog) (src:=22) (dst:=9) k k (Ea _) (fun j _=>zup _ j) underlying22 underlying5 underlying9;have HF:Hid (ZX k (zij (kst l).1)=⟨(kst l).1.toArray⟩):=by{unfold Hid;rw[<-d];exact zqo _};rw[HF.o]at ag;clear g c m d;(go_wp2_with fail);go_ret;exact⟨rfl,GB.o⟩})}}
end Fr
namespace Kp
open St (IsO qA qV)
open Ls (Jz Zc jB zk)
abbrev MR:=Rec × Value
def zAl(x:MR):Value:=.agg #[.int .i64 x.1.1,.string x.1.2.1,x.2]
def zAn:Value:=.agg #[.int .i64 0,.string ⟨#[]⟩,.slice none 0 0]
def cellsR:List MR->List Value
 |[]=>[]
 |x :: m=>.int .i64 x.1.1 :: .string x.1.2.1 :: x.2 :: cellsR m
theorem zaG:∀m k:List MR,cellsR (m++k)=cellsR m++cellsR k
 |[],k=>rfl
 |x :: m,k=>by
  rw[Mm,cellsR,cellsR,zaG m k];rfl
theorem zfK:∀(m:List MR) (i:Nat) (h:i<m.length),(cellsR m)[i*3]?=some (.int .i64 m[i].1.1)/\(cellsR m)[i*3+1]?=some (.string m[i].1.2.1)/\(cellsR m)[i*3+2]?=some m[i].2
 |x :: m,0,_=>⟨rfl,rfl,rfl⟩
 |x :: m,i+1,h=>by
  have:=zfK m i (Ps h)
  rw[cellsR,show (i+1)*3=i*3+3 by omega,show i*3+3+1=(i*3+1)+3 by omega,show i*3+3+2=(i*3+2)+3 by omega];exact this
def qq(W W':zW):Prop:=∀(g:Nat) (cur:Array Value),W.heap[g]?=some (.cells cur 9 (0,0))->W'.heap[g]?=some (.cells cur 9 (0,0))
theorem qq.trans{W W' a:zW}(h:qq W W')(k:qq W' a):qq W a:=fun g b e=>k g b (h g b e)
theorem qq.below{W W':zW}(h:zU W W'):qq W W':=fun g _ e=>(h.block g (qC e)).trans e
theorem qq.set{W:zW}{g:Nat}{a:Array Value}{e:TypeId}(d:W.heap[g]?=some (.cells a e (0,0)))(c:e≠9)(i:Nat)(v:Value):qq W (W.setCell ⟨g,i,none⟩ v):=fun k b h=>by
 rw[Et W _ k v (by
  rintro rfl;rw[d]at h;simp at h
  exact c h.2)]
 exact h
theorem qq.grown{W W':zW}{row:Option Nat}(h:W.grownBy W' row)(f:∀k,row=some k->∃a t,W.heap[k]?=some (.cells a t (0,0))/\t≠9):qq W W':=fun g b e=>by
 rw[h.block g (qC e) (by
  intro c;obtain⟨a,t,d,i⟩:=f g c.symm;rw[d]at e;simp at e
  exact i e.2)]
 exact e
def J7(W:zW)(v:Value)(p:List zY):Prop :=
 (v=.slice none 0 0/\p=[])∨∃g cap,v=.slice (some ⟨g,0,none⟩) p.length cap/\p.length<=cap/\IsO W g 9 p
theorem J7.keeps{W W':zW}{v:Value}{p:List zY}(h:J7 W v p)(k:qq W W'):J7 W' v p:=by rcases h with h|⟨g,b,f,c,a,d,e⟩;{exact .inl h};{exact .inr ⟨g,b,f,c,a,k g a d,e⟩}
theorem zok{W:zW}{base:Nat}{v:Value}{p:List zY}(h:qA W base v p):J7 W v p:=by rcases h.split with h|⟨g,a,d,_,b,c⟩;{exact .inl h};{exact .inr ⟨g,a,d,b,c⟩}
theorem J7.strs{W:zW}{v:Value}{p:List zY}(h:J7 W v p):∃a b,v=.slice a p.length b/\p.length<=b/\qV W W.heap.size a p:=by rcases h with⟨rfl,rfl⟩|⟨g,b,rfl,d,c⟩;{exact⟨none,0,rfl,Ea _,.inl rfl⟩};{exact⟨_,b,rfl,d,c.strs c.lt⟩}
def Ju(W:zW)(base:Nat)(v:Value)(m:List MR):Prop:=W.ownsRow base 65 3 v m.length (cellsR m)
def zsd(W:zW)(m:List MR):Prop:=∀x∈m,J7 W x.2 x.1.2.2
theorem zsd.keeps{W W':zW}{m:List MR}(h:zsd W m)(k:qq W W'):zsd W' m:=fun x a=>(h x a).keeps k
theorem Ju.nil(w:zW)(base:Nat):Ju w base (.slice none 0 0) []:=Ow w base _ _
theorem Ju.alloc{W:zW}{base:Nat}{v:Value}{m:List MR}(h:Ju W base v m)(o:Obj):Ju (W.alloc o) base v m:=La h o
theorem Ju.below{w w':zW}{base:Nat}{v:Value}{m:List MR}(h:Ju w base v m)(b:zU w w'):Ju w' base v m:=by obtain⟨f,h⟩:=h;refine⟨f,?_⟩;rcases h with h|⟨g,a,c,i,e,d,rest⟩;{exact .inl h};{exact .inr ⟨g,a,c,i,e,by rw[b.block g (qC d)];exact d,rest⟩}
theorem Ju.mono{w:zW}{base a:Nat}{v:Value}{m:List MR}(h:Ju w base v m)(d:a<=base):Ju w a v m:=by obtain⟨f,h⟩:=h;refine⟨f,?_⟩;rcases h with h|⟨g,b,c,i,e,rest⟩;{exact .inl h};{exact .inr ⟨g,b,c,i,Fe d e,rest⟩}
theorem Ju.one{W:zW}{base:Nat}{v:Value}{m:List MR}(h:Ju W base v m):∃a b,v=.slice a m.length b:=by obtain⟨_,h⟩:=h;rcases h with⟨h,d⟩|⟨g,b,c,e,_⟩;{exact⟨none,0,by rw[h,d]⟩};{exact⟨_,b,e⟩}
theorem Ju.cells{W:zW}{base:Nat}{v:Value}{m:List MR}(h:Ju W base v m)(n:0<m.length):∃g a,v=.slice (some ⟨g,0,none⟩) m.length a/\base<=g/\g<W.heap.size/\m.length<=a /\ ∀i (d:i<m.length),W.cell? ⟨g,i*3,none⟩=some (.int .i64 m[i].1.1)/\W.cell? ⟨g,i*3+1,none⟩=some (.string m[i].1.2.1)/\W.cell? ⟨g,i*3+2,none⟩=some m[i].2:=by obtain⟨_,h⟩:=h;rcases h with⟨_,h⟩|⟨g,a,e,l,f,c,j,_,o,k⟩;{omega};{refine⟨g,a,l,f,qC c,j,fun i d=>?_⟩;have b:=zfK m i d;rw[<-k]at b;rw[Fd (by omega),Fd (by omega),Fd (by omega),Fs,Fs,Fs]at b;exact⟨(El W g _ _ _ _ c).trans b.1,(El W g _ _ _ _ c).trans b.2.1,(El W g _ _ _ _ c).trans b.2.2⟩}
theorem Ju.rowT{W:zW}{base:Nat}{v:Value}{m:List MR}(h:Ju W base v m):∀k,v.ownBlock=some k->∃d,W.heap[k]?=some (.cells d 65 (0,0)):=by intro k b;obtain⟨_,h⟩:=h;rcases h with⟨h,_⟩|⟨g,c,a,f,_,e,_⟩;{subst h;simp[Value.ownBlock]at b};{subst f;simp[Value.ownBlock]at b;subst b;exact⟨a,e⟩}
theorem Ju.snoc{W:zW}{base:Nat}{v:Value}{m:List MR}{x:MR}(h:W.ownsRow base 65 3 v (m.length+1) (cellsR m++[.int .i64 x.1.1,.string x.1.2.1,x.2])):Ju W base v (m++[x]):=by unfold Ju;rw[Ek,zaG];exact h
theorem zjQ(W:zW)(x y z:Value)(t:TypeId):∀(j:Nat) (u:Value),[x,y,z][j]?=some u->(W.alloc (.cells #[x,y,z] t)).cell? ((⟨W.heap.size,0,none⟩:Addr).add j)=some u:=by intro j u a;match j,a with|0,a=>{simp at a;subst a;simp[Addr.add]}|1,a=>{simp at a;subst a;simp[Addr.add]}|2,a=>{simp at a;subst a;simp[Addr.add]}
theorem zje{x y z:Value}(b:x.oneCell'=true)(c:y.oneCell'=true)(d:z.oneCell'=true):∀u∈[x,y,z],u.oneCell'=true:=by intro u a;simp at a;rcases a with rfl|rfl|rfl;{exact b};{exact c};{exact d}
def jR(m:List MR):List Rec:=m.map (·.1)
theorem qL(m:List MR):(jR m).length=m.length:=Fc ..
theorem zj9(m:List MR)(i:Int):zcH (jR m) i=m.any fun x=>x.1.1==i:=by unfold zcH jR;rw[List.any_map];rfl
end Kp
namespace Kp
open Gn (rd rt QE)
open St (qA qV)
open Ls (HH qS zf4 JF zk qf zai)
theorem qq.set3{W:zW}{g:Nat}{x y z:Value}{T:TypeId}(e:W.heap[g]?=some (.cells #[x,y,z] T (0,0)))(d:T≠9)(a b c:Value):qq W (((W.setCell ⟨g,0,none⟩ a).setCell ⟨g,1,none⟩ b).setCell ⟨g,2,none⟩ c) :=
 ((qq.set e d 0 a).trans (qq.set (zai e a).1 d 1 b)).trans (qq.set (zai (zai e a).1 b).2.1 d 2 c)
theorem zns{s:zY}(h:¬JO s):innerR s=none:=Eh h
theorem zgO{s:zY}(h:JO s)(a:pathR s (rd s (rt s (rd s 0).2.1).2.1).1.toNat (rd s (rt s (rd s 0).2.1).2.1).2.1 []=none):innerR s=none:=by unfold innerR;rw[Ei h,a]
theorem zkA{s:zY}{q:List zY × Nat}(h:JO s)(a:pathR s (rd s (rt s (rd s 0).2.1).2.1).1.toNat (rd s (rt s (rd s 0).2.1).2.1).2.1 []=some q):innerR s=if q.2=s.size then some ((rd s 0).1,(rt s (rd s 0).2.1).1,q.1) else none:=by unfold innerR;rw[Ei h,a]
def JG(B:Nat)(W:zW)(v:Value)(p:List zY):Prop:=qA W B v p
theorem JG.keeps{B:Nat}{W W':zW}{v:Value}{p:List zY}(h:JG B W v p)(k:qq W W'):JG B W' v p:=by obtain⟨e,h⟩:=h;refine⟨e,?_⟩;rcases h with h|⟨g,b,a,f,d,c,rest⟩;{exact .inl h};{exact .inr ⟨g,b,a,f,d,k g a c,rest⟩}
theorem JG.drew{B:Nat}{W:zW}{v:Value}{p:List zY}(h:JG B W v p):JG B W.drew v p:=h.keeps (fun _ _ e=>e)
theorem JG.mono{B C:Nat}{W:zW}{v:Value}{p:List zY}(h:JG B W v p)(a:C<=B):JG C W v p:=qA.mono h a
theorem JG.strs{B:Nat}{W:zW}{v:Value}{p:List zY}(h:JG B W v p):∃a b,v=.slice a p.length b/\p.length<=b/\qV W W.heap.size a p:=qA.strs h
theorem zii(s:zY)(w:zW)(hs:s.size<=1048576)(hh:HH w): Calls prog 91 #[.string s] w fun r w'=>((∃x v,innerR s=some x/\r=.returned (.tuple #[.agg #[.int .i64 x.1,.string x.2.1,v],.bool true])/\JG w.heap.size w' v x.2.2) ∨ (innerR s=none/\r=.returned (.tuple #[.agg #[.int .i64 0,.string ⟨#[]⟩,.slice none 0 0],.bool false])))/\zU w w':=by have B:Hid (∀W,zU w W->HH W):=fun W h=>qS hh h;have z:s.size<=maxLen:=by{unfold maxLen;omega};have F:=za (fun W h=>Gn.zfb s 0 W z h);have D:=za (fun W h=>Gn.ZH s (rd s 0).2.1 W z h);have E:=za (fun W h=>Gn.zfb s (rt s (rd s 0).2.1).2.1 W z h);have Z:=za (fun n W hn=>zjY s (rd s (rt s (rd s 0).2.1).2.1).2.1 n W z hn);rw[zf4]at F E;rw[JF]at D;have b:=za (zns (s:=s));have d:=za (zgO (s:=s));have g:=za (fun q=>zkA (s:=s) (q:=q));change Hid (∀W,HH W->_) at F D E;unfold JO at b d g;generalize innerR s=R at b d g ⊢;generalize rd s (rt s (rd s 0).2.1).2.1=x3 at E Z b d g;generalize rt s (rd s 0).2.1=x2 at D E b d g;generalize rd s 0=x1 at F D b d g;obtain⟨i,p1,c1⟩:=x1;obtain⟨t,p2,c2⟩:=x2;obtain⟨n,p3,I⟩:=x3;dsimp only at F D E Z b d g;clear hh;go_enter func91,ntmps91;(go_wp2_with fail);have V:=za ((Cx.nil w).new (zR 0 ⟨#[]⟩ (.slice none 0 0)));generalize w.alloc (zR 0 ⟨#[]⟩ (.slice none 0 0))=W0 at V ⊢;refine(F.o _ (B.o _ V.o.low)).mono ?_;rintro e v1 ⟨rfl,p⟩;have X:=za ((V.o.call p).new (zM i p1 c1));clear p V;(go_wp2_with fail);generalize v1.alloc (zM i p1 c1)=W1 at X ⊢;refine(D.o _ (B.o _ X.o.low)).mono ?_;rintro e v2 ⟨rfl,p⟩;have Y:=za ((X.o.call p).new (zT t p2 c2));clear p X;(go_wp2_with fail);generalize v2.alloc (zT t p2 c2)=W2 at Y ⊢;refine(E.o _ (B.o _ Y.o.low)).mono ?_;rintro e v3 ⟨rfl,p⟩;have l:=za ((Y.o.call p).new (zM n p3 I));clear p Y;(go_upto_region 4 with fail);generalize v3.alloc (zM n p3 I)=W3 at l ⊢;obtain⟨a0,a1,a2⟩:=zk (l.o.get 2 rfl);obtain⟨b0,b1,b2⟩:=zk (l.o.get 1 rfl);obtain⟨d0,d1,d2⟩:=zk (l.o.get 0 rfl);obtain⟨q0,q1,q2⟩:=zk (l.o.get 3 rfl);have ff:=fun o=>Ee W3 w.heap.size o _ _ (l.o.get 3 rfl);have a:=qf (l.o.get 3 rfl) (.int .i64 0) (.string ⟨#[]⟩) (.slice none 0 0);have u:=za (zF l.o.low (Ea _) (.int .i64 0) (.string ⟨#[]⟩) (.slice none 0 0));generalize v1.heap.size=g1 at l a0 a1 a2 ⊢;generalize v2.heap.size=g2 at l b0 b1 b2 ⊢;generalize v3.heap.size=g3 at l d0 d1 d2 ⊢;by_cases M:c1=0;{have aa:(c1 != 0)=false:=by{simp;exact M};by_cases P:c2=0;{have ab:(c2 != 0)=false:=by{simp;exact P};by_cases S:I=0;{have ac:(I != 0)=false:=by{simp;exact S};have K:=za (And.intro M (And.intro P S));clear M P S;by_cases h4:n<0;{have y:=za (b.o (fun h=>by omega));(go_wp2_with fail);refine Ec (v:=.tuple #[.agg #[.int .i64 0,.string ⟨#[]⟩,.slice none 0 0],.bool false]) (by simp[results,results91,go_sem,a.1,a.2.1,a.2.2]) rfl ⟨.inr ⟨y.o,rfl⟩,u.o⟩};{by_cases h5:(20:Int)<n;{have y:=za (b.o (fun h=>by omega));(go_wp2_with fail);refine Ec (v:=.tuple #[.agg #[.int .i64 0,.string ⟨#[]⟩,.slice none 0 0],.bool false]) (by simp[results,results91,go_sem,a.1,a.2.1,a.2.2]) rfl ⟨.inr ⟨y.o,rfl⟩,u.o⟩};{have C:=za (And.intro K.o.1 (And.intro K.o.2.1 (And.intro K.o.2.2 (And.intro (show 0<=n by omega) (show n<=20 by omega)))));obtain⟨k,rfl⟩:=Em (show 0<=n by omega);have G:=za (fun W=>Z.o k W (by omega));have f:=za (d.o C.o);have j:=za (fun q=>g.o q C.o);simp only[Kf]at f j;generalize pathR s k p3 []=Q at G f j;clear b d g Z C K u a h4;(go_wp2_with fail);refine(G.o _).mono ?_;rintro e v4 ⟨⟨q,v,U,rfl,ho⟩|⟨U,c,rfl⟩,p⟩;{obtain⟨H,L,rfl,_,_⟩:=ho.strs;have O:=za ho;have O0:=za l.o.low.size;have m:=za (l.o.call p);have HY:=za (j.o q U);obtain⟨a0,a1,a2⟩:=zk (m.o.get 2 rfl);obtain⟨b0,b1,b2⟩:=zk (m.o.get 1 rfl);obtain⟨q0,q1,q2⟩:=zk (m.o.get 3 rfl);have ff:=fun o=>Ee v4 w.heap.size o _ _ (m.o.get 3 rfl);clear ho p l j f U;by_cases he:q.2=s.size;{have ad:((q.2:Int) != (s.size:Int))=false:=by{simp;omega};rw[Ei he]at HY;have a:=qf (m.o.get 3 rfl) (.int .i64 i) (.string t) (.slice H q.1.length L);have u:=za (zF m.o.low (Ea _) (.int .i64 i) (.string t) (.slice H q.1.length L));have O3:Hid (JG w.heap.size (((v4.setCell ⟨w.heap.size,0,none⟩ (.int .i64 i)).setCell ⟨w.heap.size,1,none⟩ (.string t)).setCell ⟨w.heap.size,2,none⟩ (.slice H q.1.length L)) (.slice H q.1.length L) q.1):=JG.keeps (JG.mono O.o O0.o) (qq.set3 (m.o.get 3 rfl) (by decide) _ _ _);(go_wp2_with fail);refine Ec (v:=.tuple #[.agg #[.int .i64 i,.string t,.slice H q.1.length L],.bool true]) (by simp[results,results91,go_sem,a.1,a.2.1,a.2.2]) rfl ⟨.inl ⟨(i,t,q.1),_,HY.o,rfl,O3.o⟩,u.o⟩};{have ad:((q.2:Int) != (s.size:Int))=true:=by{simp;omega};rw[Eh he]at HY;have a:=qf (m.o.get 3 rfl) (.int .i64 0) (.string ⟨#[]⟩) (.slice none 0 0);have u:=za (zF m.o.low (Ea _) (.int .i64 0) (.string ⟨#[]⟩) (.slice none 0 0));(go_wp2_with fail);refine Ec (v:=.tuple #[.agg #[.int .i64 0,.string ⟨#[]⟩,.slice none 0 0],.bool false]) (by simp[results,results91,go_sem,a.1,a.2.1,a.2.2]) rfl ⟨.inr ⟨HY.o,rfl⟩,u.o⟩}};{have m:=za (l.o.call p);have y:=za (f.o U);obtain⟨q0,q1,q2⟩:=zk (m.o.get 3 rfl);have ff:=fun o=>Ee v4 w.heap.size o _ _ (m.o.get 3 rfl);have a:=qf (m.o.get 3 rfl) (.int .i64 0) (.string ⟨#[]⟩) (.slice none 0 0);have u:=za (zF m.o.low (Ea _) (.int .i64 0) (.string ⟨#[]⟩) (.slice none 0 0));clear p l j f U;(go_wp2_with fail);refine Ec (v:=.tuple #[.agg #[.int .i64 0,.string ⟨#[]⟩,.slice none 0 0],.bool false]) (by simp[results,results91,go_sem,a.1,a.2.1,a.2.2]) rfl ⟨.inr ⟨y.o,rfl⟩,u.o⟩}}}};{have ac:(I != 0)=true:=by{simp;exact S};have y:=za (b.o (fun h=>S h.2.2.1));(go_wp2_with fail);refine Ec (v:=.tuple #[.agg #[.int .i64 0,.string ⟨#[]⟩,.slice none 0 0],.bool false]) (by simp[results,results91,go_sem,a.1,a.2.1,a.2.2]) rfl ⟨.inr ⟨y.o,rfl⟩,u.o⟩}};{have ab:(c2 != 0)=true:=by{simp;exact P};have y:=za (b.o (fun h=>P h.2.1));(go_wp2_with fail);refine Ec (v:=.tuple #[.agg #[.int .i64 0,.string ⟨#[]⟩,.slice none 0 0],.bool false]) (by simp[results,results91,go_sem,a.1,a.2.1,a.2.2]) rfl ⟨.inr ⟨y.o,rfl⟩,u.o⟩}};{have aa:(c1 != 0)=true:=by{simp;exact M};have y:=za (b.o (fun h=>M h.1));(go_wp2_with fail);refine Ec (v:=.tuple #[.agg #[.int .i64 0,.string ⟨#[]⟩,.slice none 0 0],.bool false]) (by simp[results,results91,go_sem,a.1,a.2.1,a.2.2]) rfl ⟨.inr ⟨y.o,rfl⟩,u.o⟩}
end Kp
namespace Fr
open Sh (IsB qN upd qB bt ZB)
open Ze (zh)
open St (Aft)
open In (Ints IsI zx qe)
open In.Tryz (infoI2)
def zox(xs:List Int)(n:Nat):List Int:=xs++List.replicate (n-xs.length) 0
theorem ztu(xs:List Int)(n:Nat)(h:xs.length<=n):(zox xs n).length=n:=by simp[zox];omega
theorem zry(xs:List Int)(n:Nat)(v:Int)(h:xs.length<n):(zox xs n).set xs.length v=zox (xs++[v]) n:=by unfold zox;rw[List.set_append_right _ _ (Ea _),Lq,Fa];congr 1;obtain⟨m,a⟩:∃m,n-xs.length=m+1:=⟨n-xs.length-1,by omega⟩;rw[a,Rl,Ek,List.length_singleton,show n-(xs.length+1)=m by omega];rfl
theorem ztK(xs:List Int):zox xs xs.length=xs:=by simp[zox]
theorem zmS(t:zY)(k:Nat)(h:k<t.size):∃a:k<t.data.toList.length,t.data.toList[k]=t[k]:=⟨by simpa using h,by simp[ByteArray.getElem_eq_getElem_data]⟩
theorem zwo{w:zW}{g base:Nat}{l:List Int}(h:IsI w g 2 l)(a:base<=g)(b:l.length<=maxLen):zx w base (.slice (some ⟨g,0,none⟩) l.length l.length) l :=
 ⟨by simp,.inr ⟨g,l.length,_,rfl,a,h,Ea _,b,by simp[In.zdB],by rw[Ez (by simp[In.zdB])];simp[In.zdB]⟩⟩
theorem below_drewN{B:Nat}{w w':zW}(h:Below B w w')(n:Nat):Below B w (w'.drewN n):=⟨h.os,h.tape,h.output,h.size,h.block⟩
theorem zls{w w':zW}{g t:Nat}{l:List Int}(h:IsI w g t l)(e:w'.heap[g]?=w.heap[g]?):IsI w' g t l:=by unfold IsI;rw[e];exact h
theorem zew(t:zY)(w:zW)(hn:t.size<=1048576): Calls prog 177 #[.string t] w fun e w'=>∃v,e=.returned v/\zx w' w.heap.size v (Qj t.data.toList)/\zU w w':=by obtain⟨i0,ao,az,a0,a1⟩:=E4 infoI2;have L:t.data.toList.length=t.size:=by{simp};by_cases ar:400<t.size;{rw[zfS (by omega)];clear L;go_enter func177,ntmps177;(go_wp2_with fail);(go_step3);(go_wp2_with fail);(try rw[Exit.noGoto_ret]);go_ret;exact⟨_,rfl,zx.nil _ _,Eb _ _⟩};{rw[Je (by omega)];have u:=zh L;clear L;have ag:¬(400:Int)<(t.size:Int):=by{omega};go_enter func177,ntmps177;(go_wp2_with fail);(go_step3);(go_wp2_with fail);refine(zfC w).mono ?_;rintro e w1 ⟨rfl,I⟩;have ah:=zh I;have z1:=I.size;clear I;obtain⟨n,aq⟩:∃n,n=t.size:=⟨_,rfl⟩;(go_wp2_with (first|((with_reducible refine QQ Tryz.zeroA251 ?_);intro w2 X a aw au;have G2:=zh X;have ai:=zh (ah.o.trans (a _ z1));clear X a au)|((with_reducible refine Sh.jK G2.o Tryz.sizeA251 zql ?_ ?_ ?_);(· rfl);(· rfl);intro w3 Y o ax av;have G3:=zh Y;have aj:=zh (ai.o.trans (o _ z1));clear Y o av)|(at_make;refine Fi _ rfl (.tmp 12) (.tmp 12) 41 rfl w3.heap.size 2 i0 (.int .i64 0) 1 underlying41 ao az a0 .i64 .i64 _ _ t.size rfl rfl (by simp) (by simp) (by rw[a1];omega) (by unfold maxLen;omega) (Ea _) ?_;intro w4 r h;have x:=zh (qe r);have K:=(Eb w3.heap.size w3).grown h (Ea _) (by simp);have G4:=zh (G3.o.below K (by omega));have ak:=zh (aj.o.trans (K.mono (by omega)));clear r h K)));(go_step3);(go_wp2_with fail);clear aq n;obtain⟨g1,ab⟩:∃g1,g1=w1.heap.size:=⟨_,rfl⟩;have e3:w3.heap.size=w1.heap.size+1:=by{omega};rw[e3]at x;have a4:w.heap.size<=g1:=by{omega};rw[<-ab]at G4 x ⊢;obtain⟨g2,ac⟩:∃g2,g2=g1+1:=⟨_,rfl⟩;have a2:g1<g2:=by{omega};rw[<-ac]at x ⊢;clear e3 ab ac aw ax z1;obtain⟨l,hl⟩:∃l,l=t.data.toList:=⟨_,rfl⟩;rw[<-hl]at u;have HL:=zh hl;clear hl;(go_loopw [16] (fun i wr=>∃k:Nat,i=.int .i64 k/\k<=t.size/\IsB wr g1 251 .u8 256 (zeG (l.take k)).2/\IsI wr g2 2 (zox (zeG (l.take k)).1 t.size)/\zU w wr) (fun i _=>t.size-(intOf i).toNat));(case atStart=>exact⟨0,rfl,En _,G4.o,by simpa [zox,zeG] using x.o,ak.o⟩);(case round=>obtain⟨k,rfl,hk,s,m,C⟩:=hrel;obtain⟨b,d⟩:=QW l k (by have:=u.o;omega);have R1:=zh s;have T1:=zh m;have GB:=zh C;clear C;by_cases M:k<t.size;{obtain⟨a3,D⟩:=zmS t k M;have ap:k<l.length:=by{rw[u.o];exact M};have ad:l[k]=t[k]:=by{have:=HL.o;subst this;exact D};have B:=zh (zas ap);rw[ad]at B;obtain⟨c,hc⟩:∃c:UInt8,t[k]=c:=⟨_,rfl⟩;rw[hc]at B;obtain⟨f,hf⟩:∃f,f=(zeG (l.take k)).2:=⟨_,rfl⟩;obtain⟨R,af⟩:∃R,R=(zeG (l.take k)).1:=⟨_,rfl⟩;rw[<-hf]at R1 B b;rw[<-af]at T1 B d;have z:=Jr b (c:=c.toNat) (Mf _);obtain⟨q,hq⟩:∃q,q=look f c.toNat:=⟨_,rfl⟩;rw[<-hq]at z B;have P:=z.1;have V:=zh z.2;have F:=zh d;have am:=zh b;clear D ad hf af s m b d z hq;(go_wp2_with fail);(go_loopw [19] (fun i Q=>∃p:Nat,i=.int .i64 p/\p<=q/\IsB Q g1 251 .u8 256 f/\IsI Q g2 2 (zox R t.size)/\zU w Q) (fun i _=>q-(intOf i).toNat));(case atStart=>exact⟨0,rfl,En _,R1.o,T1.o,GB.o⟩);(case round=>obtain⟨p,rfl,hp,g,E,a⟩:=hrel;have R2:=zh g;have T2:=zh E;have S:=zh a;have c1:=g.cell (j:=p) (by omega);have aa:=am.o.2 p (by omega);obtain⟨y,hy⟩:∃y,y=f p:=⟨_,rfl⟩;rw[<-hy]at c1 aa;have HY:=zh hy;clear g E a hy;by_cases O:p=q;{have ay:(y==((c.toNat:Nat):Int))=true:=Lb.2 (by rw[HY.o,O];exact V.o.1);have a5:q<256:=P;have c2:=T2.o.cell (j:=k) (by rw[ztu _ _ (by have:=F.o;omega)];exact M);have f2:=T2.o.frozen k;have G:Hid (∀nq,IsI ((wr.drewN nq).setCell ⟨g2,k,none⟩ (.int .i64 p)) g2 2 (zox (R++[(p:Int)]) t.size)):=fun nq=>by{have h1:IsI (wr.drewN nq) g2 2 (zox R t.size):=T2.o;have h2:=h1.set k (p:Int);have h3:=zry R t.size (p:Int) (by have:=F.o;omega);rw[F.o]at h3;rw[h3]at h2;exact h2};have an:Hid (∀nq,IsB ((wr.drewN nq).setCell ⟨g2,k,none⟩ (.int .i64 p)) g1 251 .u8 256 f):=fun nq=>by{have h1:IsB (wr.drewN nq) g1 251 .u8 256 f:=R2.o;exact h1.set_other _ _ (by simp;omega)};have al:=zh (fun nq=>zhE g1 p 251 f _ (an.o nq) (by omega));have U:Hid (∀nq,zU w ((wr.drewN nq).setCell ⟨g2,k,none⟩ (.int .i64 p))):=fun nq=>(below_drewN S.o nq).setCell (p:=⟨g2,k,none⟩) (by simp;omega) _;rw[<-O]at B;clear O;(go_wp2_with fail);(go_quiet (fail));(all_goals (try go_wp2_with fail));refine(al.o _).mono ?_;rintro e w5 ⟨rfl,Z,H⟩;have G5:=zh Z;have T5:=zh (zls (G.o _) (H.2.2.2.2 g2 (G.o _).lt (by omega)));have B5:=zh (Aft.below (U.o _) H (by omega) (by have:=(G.o nq).lt;omega));clear Z H;(go_wp2_with fail);(go_roundw);(case rel=>exact⟨k+1,by go_num,by omega,by rw[B.o];exact G5.o,by rw[B.o];exact T5.o,B5.o⟩);(case measure=>simp[intOf];omega)};{have ay:(y==((c.toNat:Nat):Int))=false:=Es.2 (by rw[HY.o];exact V.o.2 p (by omega));(go_wp2_with fail);(go_quiet (fail));(all_goals (try go_wp2_with fail));(go_roundw);(case rel=>exact⟨p+1,by go_num,by omega,R2.o,T2.o,below_drewN S.o _⟩);(case measure=>simp[intOf];omega)})};{obtain rfl:k=t.size:=by{omega};have HT:Hid (l.take t.size=l):=by{unfold Hid;rw[<-u.o,Fb]};rw[HT.o]at m d;have ae:zox (zeG l).1 t.size=(zeG l).1:=by{rw[<-d];exact ztK _};rw[ae]at m;have HV:=zh (zwo (base:=w.heap.size) m (by omega) (by unfold maxLen;omega));rw[d]at HV;have W:=HL.o;rw[W]at HV;clear s m b d ae W;(go_wp2_with fail);(try rw[Exit.noGoto_ret]);go_ret;exact⟨_,rfl,HV.o,GB.o⟩})}
end Fr
end Go.Proofs.YtoojegpaofdbfaaGreatDoor
