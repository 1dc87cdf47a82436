import Derived.Test.YtoojegpaofdbfaaGreatDoorKz22
set_option maxRecDepth 100000
set_option maxHeartbeats 8000000
set_option linter.unusedSimpArgs false
namespace Go.Proofs.YtoojegpaofdbfaaGreatDoor
open Go.Proofs.Tryz
namespace So
open Go.RowKit Go.Sort Go.Proofs
theorem zuw(T:zY)(U:Nat)(blk ay a m b:Nat)(d:Array Nat)(w:zW)(hH:HoldsK encI 1 w blk 0 d)(l:blk<w.heap.size)(c8:a+1<m)(dd:m+1<b)(hb:b<=d.size)(al:d.size<=1048576)(ab:Cap w U T)(an:U≠blk)(bs:∀i,dF d i<T.size)
  (b5:Ris (clI T) a m (dF d)) (ac:Ris (clI T) m b (dF d)) (ao:Sep a m b (dF d))
  (IH:∀(a' m' b':Nat) (K:Array Nat) (W:zW),b' - a' < b-a->HoldsK encI 1 W blk 0 K->blk<W.heap.size->a' < m'->m' < b'->b'<=K.size->K.size<=1048576->Cap W U T->(∀i,dF K i<T.size)->Ris (clI T) a' m' (dF K)->Ris (clI T) m' b' (dF K)->Sep a' m' b' (dF K) ->
   Calls prog 290 #[.slice (some ⟨blk,0,none⟩) K.size ay,.int .i64 a',.int .i64 m',.int .i64 b',.func (.func 280) #[] #[.pointer (some ⟨U,0,none⟩)]] W fun e w'=>
    e=.returned (.tuple #[])/\∃n aj os,w'=sortWorldK encI 1 W blk 0 n aj os/\aj.size=K.size/\qt a' b' (dF K) (dF aj)/\Ris (clI T) a' b' (dF aj)) :
  Calls prog 290 #[.slice (some ⟨blk,0,none⟩) d.size ay,.int .i64 a,.int .i64 m,.int .i64 b,.func (.func 280) #[] #[.pointer (some ⟨U,0,none⟩)]] w fun e w'=>
   e=.returned (.tuple #[])/\∃n K os,w'=sortWorldK encI 1 w blk 0 n K os/\K.size=d.size/\qt a b (dF d) (dF K)/\Ris (clI T) a b (dF K):=by
 have mixed:=mixed;have ci:=zc (qH hH);have HH:=zc hH;have aq:Hid (∀(m:Nat) (dk:Array Nat) (os:Array Obj),Cap (sortWorldK encI 1 w blk 0 m dk os) U T):=fun m dk os=>ab.block (Zf m dk os ab.lt an);have cd:=zc bs;clear ab an bs;have ag:=zc b5;have ah:=zc ac;have ai:=zc ao;have bo:=zc IH;clear hH b5 ac ao IH;obtain⟨z,hz⟩:∃z,z=d.size:=⟨_,rfl⟩;have HZ:=zc hz;rw[<-hz]at hb al ⊢;clear hz;obtain⟨f,hf⟩:∃f,f=dF d:=⟨_,rfl⟩;have ar:=zc hf
 have ae:Hid (∀i,f i<T.size):=by
  unfold Hid;rw[hf];exact cd.o
 rw[<-hf]at ag ah ai ⊢;clear hf;obtain⟨mid,cv⟩:∃mid,mid=(a+b)/2:=⟨_,rfl⟩;obtain⟨M,cz⟩:∃M,M=mid+m:=⟨_,rfl⟩;obtain⟨p,hp⟩:∃p,M=p+1:=⟨M-1,by omega⟩
 have em:((a:Int)+(b:Int))/2=(mid:Int):=by omega
 have en:(mid:Int)+(m:Int)=(M:Int):=by omega
 have ep:(M:Int)-1=(p:Int):=by omega
 have cu:((m:Int)-(a:Int)==1)=false:=Es.2 (by omega);have cm:((b:Int)-(m:Int)==1)=false:=Es.2 (by omega)
 have df:mid<z:=by omega
 have dh:p<2*z:=by omega
 have de:IntKind.i64.wrap (mid:Int)=(mid:Int):=by rw[E1];omega
 rcases Ky mid m with hM|hM
 all_goals
  obtain⟨s0,r0,c5⟩:∃s0 r0,(s0=a/\r0=m/\m<=mid)∨(M=s0+b/\r0=mid/\mid<m):=by first|exact⟨a,m,.inl ⟨rfl,rfl,hM⟩⟩|exact⟨M-b,mid,.inr ⟨by omega,rfl,hM⟩⟩
  have am:Hid (2*mid<=a+b/\a+b<=2*mid+1/\M=mid+m/\M=p+1/\((s0=a/\r0=m/\m<=mid)∨(M=s0+b/\r0=mid/\mid<m))):=by
   unfold Hid;omega
  first|have cx:(mid:Int)<(m:Int):=by omega|have cx:¬(mid:Int)<(m:Int):=by omega
  have es:mid<m->(M:Int)-(b:Int)=(s0:Int):=by omega
  first|have es:=es hM|clear es
  clear cv cz hp c5;go_enter func290,ntmps290
  go_wp2_with fail
  try clear es
  clear em en cu cm
  go_loopw [20,21] (fun u v wr=>∃(i j n:Nat) (os:Array Obj),u=.int .i64 i/\v=.int .i64 j/\s0<=i/\i<=j/\j<=r0/\(s0<i->lx (clI T) (f (i-1)) (f (p-(i-1))))/\(j<r0->lx (clI T) (f (p-j)) (f j))/\wr=sortWorldK encI 1 w blk 0 n d os) (fun u v _=>(intOf v).toNat-(intOf u).toNat)
  case atStart=>
   have hrel:=am.o;exact⟨s0,r0,0,#[],by first|rfl|(congr 1;omega),by first|rfl|(congr 1;omega),by omega,by omega,Ea _,fun h=>absurd h (by omega),fun h=>absurd h (by omega),ci.o⟩
  case round=>
   obtain⟨i,j,n,os,rfl,rfl,b7,cq,b0,b1,bz,L⟩:=hrel;have hrel:=am.o;have bp:=zc b1;have bn:=zc bz;have HW:=zc L;clear b1 bz;by_cases cs:i<j
   ·obtain⟨c,hc⟩:∃c,c=(i+j)/2:=⟨_,rfl⟩
    obtain⟨q,hq⟩:∃q,p=q+c:=⟨p-c,by omega⟩;have e1:((i:Int)+(j:Int))/2=(c:Int):=(by omega);have e2:(p:Int)-(c:Int)=(q:Int):=(by omega);have db:i<=c:=(by omega);have c9:c<j:=(by omega);have cn:c<m:=(by omega);have ck:a<=c:=(by omega);have cy:m<=q:=(by omega);have c4:q<b:=(by omega);have az:HoldsK encI 1 wr blk 0 d:=(by rw[L];exact zt HH.o l n d os rfl);have a0:blk<wr.heap.size:=(by rw[L];exact Ey l (zX n d os));obtain⟨bf,c6⟩:=Zl az (i:=q) (by have:=HZ.o;omega);obtain⟨bg,c7⟩:=Zl az (i:=c) (by have:=HZ.o;omega);obtain⟨x,hx⟩:∃x,x=d[q]!:=⟨_,rfl⟩;obtain⟨y,hy⟩:∃y,y=d[c]!:=⟨_,rfl⟩;have S:Hid (x=f q/\y=f c):=⟨by rw[hx,ar.o];rfl,by rw[hy,ar.o];rfl⟩;rw[<-hx]at bf;rw[<-hy]at bg;have g0:=fun n' E=>cell_grown (a:=⟨blk,q,none⟩) a0 bf n' E;have g2:=fun n' E=>cell_grown (a:=⟨blk,c,none⟩) a0 bg n' E;have a1:wr.cell? ⟨U,0,none⟩=some (.string T):=(by rw[L];exact aq.o _ _ _);have bu:U<wr.heap.size:=Cap.lt a1;have gc:=fun n' E=>cell_grown (a:=⟨U,0,none⟩) bu a1 n' E;clear a1 bu;have ap:Hid (∀W,Cap W U T->Calls prog 280 #[.int .i64 x,.int .i64 y,.pointer (some ⟨U,0,none⟩)] W fun e w'=>e=.returned (.int .i64 (cfI T x y))/\∃q E,w'=grow (W.drewN q) E):=fun W hW=>zuj T U x y W hW (by rw[S.o.1];exact ae.o _) (by rw[S.o.2];exact ae.o _);have o:=zhW T x y;obtain⟨r,hr⟩:∃r,r=cfI T x y:=⟨_,rfl⟩;rw[<-hr]at o ap;have dj:(q:Int)<(z:Int):=(by omega);have dl:(c:Int)<(z:Int):=(by omega);have di:IntKind.i64.wrap (q:Int)=(q:Int):=(by rw[E1];omega);have Y:=zc (fun n' E=>sortWorldK_grown_c encI 1 w blk 0 n n' d os E);rw[<-L]at Y
    have bq:Hid (p-c=q):=by
     unfold Hid;omega
    clear hr hx hy L hc hq bf c6 bg c7 az a0 hrel
    cases ak:clI T x y with
    |false=>
     rw[ak]at o;have ct:¬r<0:=Le o;have b2:decide (r<0)=false:=o
     have ax:Hid (lx (clI T) (f c) (f (p-c))):=by
      unfold Hid;rw[bq.o];have b4:=ai.o c q ck cn cy c4;rw[<-S.o.1,<-S.o.2]at b4 ⊢;exact zgw ak b4
     clear o;(go_wp2_with fail)
     go_quiet_grown (first|(go_at_call 280;refine Calls.grown_of (ap.o _ (gc _ _))))
     have s:Hid (grow (wr.drewN nq) osq=sortWorldK encI 1 w blk 0 (n+nq) d (os++osq)):=Y.o nq osq;dsimp only;clear g0 g2 gc;(go_wp2_with fail)
     go_roundw
     case rel=>exact⟨c+1,j,n+nq,os++osq,by go_num,rfl,by omega,by omega,b0,fun _=>ax.o,bn.o,s.o⟩
     case measure=>simp[intOf];omega
    |true=>
     rw[ak]at o;have ct:r<0:=Fh o;have b2:decide (r<0)=true:=o
     have ax:Hid (lx (clI T) (f (p-c)) (f c)):=by
      unfold Hid;rw[bq.o,<-S.o.1,<-S.o.2];exact zcq ak
     clear o;(go_wp2_with fail)
     go_quiet_grown (first|(go_at_call 280;refine Calls.grown_of (ap.o _ (gc _ _))))
     have s:Hid (grow (wr.drewN nq) osq=sortWorldK encI 1 w blk 0 (n+nq) d (os++osq)):=Y.o nq osq;dsimp only;clear g0 g2 gc;(go_wp2_with fail)
     go_roundw
     case rel=>exact⟨i,c,n+nq,os++osq,rfl,rfl,b7,by omega,by omega,bp.o,fun _=>ax.o,s.o⟩
     case measure=>simp[intOf];omega
   ·obtain rfl:i=j:=by omega
    obtain⟨e,he⟩:∃e,M=e+i:=⟨M-i,by omega⟩;have ee:(M:Int)-(i:Int)=(e:Int):=(by omega)
    have hcut:Cut (clI T) a m b mid i e f:=by
     refine⟨by omega,by omega,by omega,by omega,by omega,by omega,by omega,fun h1 h2=>?_,fun h1 h2=>?_⟩
     ·have:=bp.o (by omega)
      rwa[show p-(i-1)=e by omega]at this
     ·have:=bn.o (by omega)
      rwa[show p-i=e-1 by omega]at this
    have HC:=zc hcut;have B:Hid (a<=i/\i<=mid/\mid<=e/\e<=b/\i<=m/\m<=e/\i+e=mid+m):=⟨hcut.lo0,hcut.smid,hcut.mide,hcut.eb,hcut.sm,hcut.me,hcut.sum⟩
    have I:Hid (mid-a<b-a/\b-mid<b-a/\a<mid/\mid<b):=by
     unfold Hid;omega
    have cp:e<=z:=by have:=hcut.eb;omega
    have da:IntKind.i64.wrap (e:Int)=(e:Int):=by rw[E1];omega
    have dc:i<=z:=by have:=hcut.sm;omega
    have bl:Hid (dF d=f):=ar.o.symm;clear he hcut cs cq b7 b0 hrel;have ad:Hid (d.size=z):=HZ.o.symm;obtain⟨g,hg⟩:∃g,g=qO i m e f:=⟨_,rfl⟩;have bm:=zc hg;have Z:Hid (qt a b f g):=(by rw[hg];exact HC.o.perm);have bh:Hid (Ris (clI T) a i g):=(by rw[hg];exact HC.o.ris1 ag.o);have bj:Hid (Ris (clI T) i mid g):=(by rw[hg];exact HC.o.ris2 ah.o);have bi:Hid (Ris (clI T) mid e g):=(by rw[hg];exact HC.o.ris3 ag.o);have bk:Hid (Ris (clI T) e b g):=(by rw[hg];exact HC.o.ris4 ah.o);have cf:Hid (Sep a i mid g):=(by rw[hg];exact HC.o.sep1 ai.o);have cg:Hid (Sep mid e b g):=(by rw[hg];exact HC.o.sep2 ai.o);have HX:Hid (∀u v,a<=u->u<mid->mid<=v->v<b->lx (clI T) (g u) (g v)):=(by rw[hg];exact HC.o.cross (Qa T) ag.o ah.o);clear hg L;by_cases k0:a<i<;>by_cases k1:i<mid<;>by_cases k2:i<m<;>by_cases k3:e<b
    all_goals
     try exact absurd B.o (by have:=I.o;omega)
    all_goals
     have hr:=B.o
     first|(have bc:(i:Int)<(m:Int):=(by omega);have cr:=Eo bc)|(have bc:¬(i:Int)<(m:Int):=(by omega);have cr:=Ed bc)
     first|(have be:(m:Int)<(e:Int):=(by omega);have cw:=Eo be)|(have be:¬(m:Int)<(e:Int):=(by omega);have cw:=Ed be)
     first|(have a9:(a:Int)<(i:Int):=(by omega);have cl:=Eo a9)|(have a9:¬(a:Int)<(i:Int):=(by omega);have cl:=Ed a9)
     first|(have O:(i:Int)<(mid:Int):=(by omega);have a2:=Eo O)|(have O:¬(i:Int)<(mid:Int):=(by omega);have a2:=Ed O)
     first|(have P:(mid:Int)<(e:Int):=(by omega);have a3:=Eo P)|(have P:¬(mid:Int)<(e:Int):=(by omega);have a3:=Ed P)
     first|(have bb:(e:Int)<(b:Int):=(by omega);have co:=Eo bb)|(have bb:¬(e:Int)<(b:Int):=(by omega);have co:=Ed bb)
     clear hr
     first
     |have c1:i<m/\i<mid:=⟨k2,k1⟩
      have au:=zc (zuZ blk ay i m e d wr (.func (.func 280) #[] #[.pointer (some ⟨U,0,none⟩)]) (by rw[HW.o];exact zt HH.o l n d os rfl) (by rw[HW.o];exact Ey l (zX n d os)) (by have:=B.o;omega) (by have:=B.o;omega) (by rw[ad.o];exact cp) (by rw[ad.o];exact al));rw[ad.o]at au;(go_wp2_with fail);refine au.o.mono ?_;rintro er w1 ⟨rfl,V,Q,b8,a5,bw⟩
      have H:Hid (w1=sortWorldK encI 1 w blk 0 (n+V) Q (os++#[])):=by
       unfold Hid;rw[b8,HW.o];exact jG n V d Q os #[] l (a5.trans ad.o.symm)
      have D:Hid (Q.size=z):=a5
      have G:Hid (dF Q=g):=by
       unfold Hid;rw[bw,bl.o,bm.o]
      clear b8 a5 bw au;generalize n+V=V at H;generalize os++#[]=o1 at H
     |obtain⟨w1,V,Q,o1,hq,H,D,G⟩:∃w1 V Q o1,w1=wr/\Hid (w1=sortWorldK encI 1 w blk 0 V Q o1)/\Hid (Q.size=z)/\Hid (dF Q=g):=⟨wr,n,d,os,rfl,HW,ad,by
       unfold Hid;have hr:=B.o
       rw[bl.o,bm.o,zmi f (by omega) (by omega) (by omega)]⟩
      subst hq
     first
     |have c2:a<i/\i<mid:=⟨k0,k1⟩
      have av:=zc (bo.o a i mid Q w1 I.o.1 (by rw[H.o];exact zt HH.o l V Q o1 (D.o.trans HZ.o)) (by rw[H.o];exact Ey l (zX V Q o1)) (by have:=B.o;omega) (by have:=B.o;omega) (by rw[D.o];omega) (by rw[D.o];exact al) (by rw[H.o];exact aq.o _ _ _) (by rw[G.o];exact Z.o.bd ae.o) (by rw[G.o];exact bh.o) (by rw[G.o];exact bj.o) (by rw[G.o];exact cf.o));rw[D.o]at av;(go_wp2_with fail);refine av.o.mono ?_;rintro er w2 ⟨rfl,X,F,a8,b9,a6,a4,ac⟩
      have s:Hid (w2=sortWorldK encI 1 w blk 0 (V+X) F (o1++a8)):=by
       unfold Hid;rw[b9,H.o];exact jG V X Q F o1 a8 l (a6.trans D.o.symm)
      have t:Hid (F.size=z):=a6;rw[G.o]at a4;have R:=zc a4;have aa:=zc ac;clear b9 a6 a4 ac av;generalize V+X=X at s;generalize o1++a8=o2 at s
     |obtain⟨w2,X,F,o2,hq,s,t,R,aa⟩:∃w2 X F o2,w2=w1/\Hid (w2=sortWorldK encI 1 w blk 0 X F o2)/\Hid (F.size=z)/\Hid (qt a mid g (dF F))/\Hid (Ris (clI T) a mid (dF F)):=⟨w1,V,Q,o1,rfl,H,D,by
       unfold Hid;rw[G.o]
       exact qt.refl _ _ _,by
       unfold Hid;rw[G.o];have hr:=B.o
       first|exact bj.o.sub (by omega) (Ea _)|exact bh.o.sub (Ea _) (by omega)⟩
      subst hq
     have af:Hid (∀k,mid<=k->dF F k=g k):=fun k hk=>R.o.2 k (Or.inr hk)
     first
     |have c3:i<m/\e<b:=⟨k2,k3⟩
      have aw:=zc (bo.o mid e b F w2 I.o.2.1 (by rw[s.o];exact zt HH.o l X F o2 (t.o.trans HZ.o)) (by rw[s.o];exact Ey l (zX X F o2)) (by have:=B.o;omega) (by have:=B.o;omega) (by rw[t.o];omega) (by rw[t.o];exact al) (by rw[s.o];exact aq.o _ _ _) (R.o.bd (Z.o.bd ae.o)) (bi.o.congr (fun k h1 _=>af.o k h1)) (bk.o.congr (fun k h1 _=>af.o k (by have:=B.o;omega))) (fun u v h1 h2 h3 h4=>by rw[af.o u h1,af.o v (by omega)];exact cg.o u v h1 h2 h3 h4));rw[t.o]at aw;(go_wp2_with fail);refine aw.o.mono ?_;rintro er w3 ⟨rfl,n3,d3,cb,ca,a7,b3,b6⟩
      have cj:Hid (w3=sortWorldK encI 1 w blk 0 (X+n3) d3 (o2++cb)):=by
       unfold Hid;rw[ca,s.o];exact jG X n3 F d3 o2 cb l (a7.trans t.o.symm)
      have br:Hid (d3.size=z):=a7;have C:=zc (halves HX.o (Fo I.o.2.2.1) (Fo I.o.2.2.2) R.o b3 aa.o b6);clear ca a7 b3 b6 aw;(go_wp2_with fail);refine Ku (v:=.tuple #[]) (by simp[results,results290,go_sem]) rfl ⟨rfl,_,d3,_,cj.o,br.o,Z.o.trans C.o.1,C.o.2⟩
     |have ce:Hid (Ris (clI T) mid b (dF F)):=by
       unfold Hid;have hr:=B.o;refine Ris.congr (f:=g) ?_ (fun k h1 _=>R.o.2 k (Or.inr h1))
       first|exact bk.o.sub (by omega) (Ea _)|exact bi.o.sub (Ea _) (by omega)
      have C:=zc (halves HX.o (Fo I.o.2.2.1) (Fo I.o.2.2.2) R.o (qt.refl mid b (dF F)) aa.o ce.o);(go_wp2_with fail);refine Ku (v:=.tuple #[]) (by simp[results,results290,go_sem]) rfl ?_
      first|exact⟨rfl,X,F,o2,s.o,t.o,Z.o.trans C.o.1,C.o.2⟩|exact⟨rfl,X,F,⟨o2,s.o⟩,t.o,Z.o.trans C.o.1,C.o.2⟩
end So
end Go.Proofs.YtoojegpaofdbfaaGreatDoor
