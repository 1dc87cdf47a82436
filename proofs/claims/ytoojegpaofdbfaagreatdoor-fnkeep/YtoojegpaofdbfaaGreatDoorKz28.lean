import Derived.Test.YtoojegpaofdbfaaGreatDoorKz32
set_option maxRecDepth 100000
set_option maxHeartbeats 8000000
set_option linter.unusedSimpArgs false
namespace Go.Proofs.YtoojegpaofdbfaaGreatDoor
open Go.Proofs.Tryz
namespace So
open Go.RowKit Go.Sort Go.Proofs
theorem zla(T:Nat->zY)(blk F a b n:Nat)(d:Array Nat)(w:zW)(cv:Value)(H:HoldsK (qU T) 2 w blk 0 d)(j:blk<w.heap.size)(ab:a+n<=b)(hb:b+n<=d.size)(L:d.size<=1048576): Calls prog 291 #[.slice (some ⟨blk,0,none⟩) d.size F,.int .i64 a,.int .i64 b,.int .i64 n,cv] w fun e w'=>e=.returned (.tuple #[])/\∃m G,w'=sortWorldK (qU T) 2 w blk 0 m G #[]/\G.size=d.size/\dF G=zgB a b n (dF d):=by have D:=zc (qH H);have HH:=zc H;clear H;obtain⟨z,M⟩:∃z,z=d.size:=⟨_,rfl⟩;have V:=zc M;rw[<-M]at hb L ⊢;clear M;go_enter func291,ntmps291;(go_wp2_with fail);(go_loopw [10] (fun i wr=>∃(k m:Nat) (c:Array Nat),i=.int .i64 k/\k<=n/\c.size=z/\dF c=zgB a b k (dF d)/\wr=sortWorldK (qU T) 2 w blk 0 m c #[]) (fun i _=>n-(intOf i).toNat));(case atStart=>exact⟨0,0,d,rfl,En _,V.o.symm,(zkz a b (dF d)).symm,D.o⟩);(case round=>obtain⟨k,m,c,rfl,hk,h,s,r⟩:=hrel;have S:=zc s;have f:=zc h;have B:=zc (zt HH.o j (m+1) c #[] (by rw[h,V.o]));have U:=zc r;have g:wr.drew=sortWorldK (qU T) 2 w blk 0 (m+1) c #[]:=by{rw[r];rfl};have Y:=zc g;clear s r;by_cases ac:k<n;{obtain⟨p,I⟩:∃p,p=a+k:=⟨_,rfl⟩;obtain⟨q,K⟩:∃q,q=b+k:=⟨_,rfl⟩;have ep:(a:Int)+(k:Int)=(p:Int):=by{omega};have eq:(b:Int)+(k:Int)=(q:Int):=by{omega};have af:p<z:=by{omega};have ah:q<z:=by{omega};have ad:p<q:=by{omega};have Z:Hid (p=a+k/\q=b+k):=⟨I,K⟩;obtain⟨x,t⟩:∃x,x=c[p]!:=⟨_,rfl⟩;obtain⟨y,u⟩:∃y,y=c[q]!:=⟨_,rfl⟩;have hd:wr.drew=sortWorldK (qU T) 2 w blk 0 (m+1) c #[]:=g;have l:HoldsK (qU T) 2 wr blk 0 c:=by{have:HoldsK (qU T) 2 wr.drew blk 0 c:=by{rw[hd];exact B.o};exact this};have o:((wr.drew.setCells blk (0+p*2) (qU T y)).setCells blk (0+q*2) (qU T x))=sortWorldK (qU T) 2 w blk 0 (m+1) (Go.Sort.swp c p q) #[]:=by{rw[U.o,t,u];exact sortWorldK_swp_c (qU T) 2 w blk 0 (zcd T) m c #[] j p q (by omega) (by omega)};rw[Ff,Ff]at o;obtain⟨O,ai,P,aj⟩:=Zn l (i:=p) (by omega);obtain⟨Q,ak,R,al⟩:=Zn l (i:=q) (by omega);rw[<-t]at O P;rw[<-u]at Q R;have ae:IntKind.i64.wrap (p:Int)=(p:Int):=by{rw[E1];omega};have ag:IntKind.i64.wrap (q:Int)=(q:Int):=by{rw[E1];omega};have W:(p:Int)<(z:Int):=by{omega};have X:(q:Int)<(z:Int):=by{omega};have E:=zc o;have aa:Hid (x=c[p]!/\y=c[q]!):=⟨t,u⟩;have C:Hid (So.swp (zgB a b k (dF d)) p q=zgB a b (k+1) (dF d)):=by{unfold Hid;rw[I,K];exact zj7 a b k (dF d) (by omega)};clear hd g t u I K h l o;(go_wp2_with fail);(go_region);(all_goals (try go_wp2_with fail));(all_goals go_roundw);(case rel=>refine⟨k+1,m+1,Go.Sort.swp c p q,by go_num,by omega,by rw[Nc];exact f.o,?_,E.o⟩;rw[zej c p q (by have:=f.o;omega) (by have:=f.o;omega),S.o];exact C.o);(case measure=>simp[intOf];omega)};{obtain rfl:k=n:=by{omega};clear g h;(go_wp2_with fail);refine Ku (v:=.tuple #[]) (by simp[results,results291,go_sem]) rfl ⟨rfl,m,c,U.o,f.o,S.o⟩})
end So
namespace So
open Go.RowKit Go.Sort Go.Proofs
theorem zvu(T:Nat->zY)(blk P a m b:Nat)(d:Array Nat)(w:zW)(cv:Value)(hH:HoldsK (qU T) 2 w blk 0 d)(C:blk<w.heap.size)(ag:a<m)(ah:m<b)(hb:b<=d.size)(Y:d.size<=1048576): Calls prog 288 #[.slice (some ⟨blk,0,none⟩) d.size P,.int .i64 a,.int .i64 m,.int .i64 b,cv] w fun e w'=>e=.returned (.tuple #[])/\∃n f,w'=sortWorldK (qU T) 2 w blk 0 n f #[]/\f.size=d.size/\dF f=qO a m b (dF d):=by have ab:=zc (qH hH);have HH:=zc hH;clear hH;obtain⟨z,hz⟩:∃z,z=d.size:=⟨_,rfl⟩;have HZ:=zc hz;rw[<-hz]at hb Y ⊢;clear hz;have HC:=zc (fun(n:Nat) (g:Array Nat) (X:g.size=z) (p q l:Nat) (Q:p+l<=q) (R:q+l<=z)=>zla T blk P p q l g (sortWorldK (qU T) 2 w blk 0 n g #[]) cv (zt HH.o C n g #[] (X.trans HZ.o)) (Ey C (zX n g #[])) Q (by rw[X];exact R) (by rw[X];exact Y));have I:=zc (fun(n x:Nat) (g f:Array Nat) (X:f.size=g.size)=>jG (enc:=qU T) (k:=2) (w:=w) (blk:=blk) (off:=0) n x g f #[] #[] C X);obtain⟨Z,S⟩:∃Z,Z=m-a:=⟨_,rfl⟩;obtain⟨j0,U⟩:∃j0,j0=b-m:=⟨_,rfl⟩;have Q:((m:Int)-(a:Int))=(Z:Int):=by{omega};have R:((b:Int)-(m:Int))=(j0:Int):=by{omega};have aa:Hid (Z=m-a/\j0=b-m):=⟨S,U⟩;clear S U;go_enter func288,ntmps288;(go_wp2_with fail);clear Q R;(go_loopw [10,11] (fun u v wr=>∃(i j n:Nat) (g:Array Nat),u=.int .i64 i/\v=.int .i64 j/\0<i/\0<j/\i<=m-a/\j<=b-m/\g.size=z/\qO (m-i) m (m+j) (dF g)=qO a m b (dF d)/\wr=sortWorldK (qU T) 2 w blk 0 n g #[]) (fun u v _=>(intOf u).toNat+(intOf v).toNat));(case atStart=>have t:=aa.o;exact⟨Z,j0,0,d,rfl,rfl,by omega,by omega,by omega,by omega,HZ.o.symm,by rw[t.1,t.2,show m-(m-a)=a by omega,show m+(b-m)=b by omega],ab.o⟩);(case round=>obtain⟨i,j,n,g,rfl,rfl,hi,hj,ac,ad,F,G,K⟩:=hrel;have HR:=zc G;have H:=zc F;have HW:=zc K;have D:=zc (fun p q l Q R=>HC.o n g F p q l Q R);rw[<-K,F]at D;obtain⟨p,hp⟩:∃p,p=m-i:=⟨_,rfl⟩;have e1:(m:Int)-(i:Int)=(p:Int):=by{omega};rw[<-hp]at HR;have E:=zc hp;clear G F K hp;by_cases t:i=j;{subst t;have af:((i:Int) != (i:Int))=false:=by{simp};have y:=zc (D.o p m i (by have:=E.o;omega) (by omega));(go_wp2_with fail);refine y.o.mono ?_;rintro e w' ⟨rfl,x,f,s,c,o⟩;have O:Hid (w'=sortWorldK (qU T) 2 w blk 0 (n+x) f #[]):=by{unfold Hid;rw[s,HW.o,I.o n x g f (c.trans H.o.symm)];rfl};have L:Hid (dF f=qO a m b (dF d)):=by{unfold Hid;rw[o,E.o,zmB m i (dF g) (by omega),<-HR.o,E.o]};have B:=zc c;clear s c o;(go_wp2_with fail);refine Ku (v:=.tuple #[]) (by simp[results,results288,go_sem]) rfl ⟨rfl,n+x,f,O.o,B.o,L.o⟩};{have af:((i:Int) != (j:Int))=true:=by{simp;omega};have M:=zc t;clear t;by_cases ae:j<i;{have V:(j:Int)<(i:Int):=by{omega};obtain⟨r,W⟩:∃r,r=i-j:=⟨_,rfl⟩;have e2:(i:Int)-(j:Int)=(r:Int):=by{omega};have h:=zc W;clear W;have y:=zc (D.o p m j (by have:=E.o;omega) (by omega));(go_wp2_with fail);refine y.o.mono ?_;rintro e w' ⟨rfl,x,f,s,c,o⟩;have O:Hid (w'=sortWorldK (qU T) 2 w blk 0 (n+x) f #[]):=by{unfold Hid;rw[s,HW.o,I.o n x g f (c.trans H.o.symm)];rfl};have L:Hid (qO (m-r) m (m+j) (dF f)=qO a m b (dF d)):=by{unfold Hid;rw[o,h.o,E.o,zmo m i j (dF g) ae (by omega),<-HR.o,E.o]};have B:=zc c;clear s c o;(go_wp2_with fail);(go_roundw);(case rel=>exact⟨r,j,n+x,f,rfl,rfl,by have:=h.o;omega,hj,by have:=h.o;omega,ad,B.o,L.o,O.o⟩);(case measure=>have:=h.o;simp[intOf];omega)};{have V:¬(j:Int)<(i:Int):=by{omega};obtain⟨r,W⟩:∃r,r=j-i:=⟨_,rfl⟩;have e2:(j:Int)-(i:Int)=(r:Int):=by{omega};have h:=zc W;obtain⟨q,hq⟩:∃q,q=m+j-i:=⟨_,rfl⟩;have e3:(m:Int)+(j:Int)-(i:Int)=(q:Int):=by{omega};have HQ:=zc hq;clear W hq;have y:=zc (D.o p q i (by have:=E.o;have:=HQ.o;omega) (by have:=HQ.o;omega));(go_wp2_with fail);refine y.o.mono ?_;rintro e w' ⟨rfl,x,f,s,c,o⟩;have O:Hid (w'=sortWorldK (qU T) 2 w blk 0 (n+x) f #[]):=by{unfold Hid;rw[s,HW.o,I.o n x g f (c.trans H.o.symm)];rfl};have L:Hid (qO (m-i) m (m+r) (dF f)=qO a m b (dF d)):=by{unfold Hid;rw[o,h.o,E.o,HQ.o,zjn m i j (dF g) (by have:=M.o;omega) (by omega),<-HR.o,E.o]};have B:=zc c;clear s c o;(go_wp2_with fail);(go_roundw);(case rel=>exact⟨i,r,n+x,f,rfl,rfl,hi,by have:=h.o;have:=M.o;omega,ac,by have:=h.o;omega,B.o,L.o,O.o⟩);(case measure=>have:=h.o;simp[intOf];omega)}})
end So
namespace So
open Go.RowKit Go.Sort Go.Proofs
theorem zs1(T:Nat->zY)(blk au a m b:Nat)(d:Array Nat)(w:zW)(hH:HoldsK (qU T) 2 w blk 0 d)(l:blk<w.heap.size)(cy:a+1<m)(c7:m+1<b)(hb:b<=d.size)(ai:d.size<=1048576)
  (bz:Ris (clT T) a m (dF d)) (Z:Ris (clT T) m b (dF d)) (ak:Sep a m b (dF d))
  (IH:∀(a' m' b':Nat) (O:Array Nat) (W:zW),b' - a' < b-a->HoldsK (qU T) 2 W blk 0 O->blk<W.heap.size->a' < m'->m' < b'->b'<=O.size->O.size<=1048576->Ris (clT T) a' m' (dF O)->Ris (clT T) m' b' (dF O)->Sep a' m' b' (dF O) ->
   Calls prog 283 #[.slice (some ⟨blk,0,none⟩) O.size au,.int .i64 a',.int .i64 m',.int .i64 b',.func (.func 250) #[] #[]] W fun e w'=>
    e=.returned (.tuple #[])/\∃n ag os,w'=sortWorldK (qU T) 2 W blk 0 n ag os/\ag.size=O.size/\qt a' b' (dF O) (dF ag)/\Ris (clT T) a' b' (dF ag)) :
  Calls prog 283 #[.slice (some ⟨blk,0,none⟩) d.size au,.int .i64 a,.int .i64 m,.int .i64 b,.func (.func 250) #[] #[]] w fun e w'=>
   e=.returned (.tuple #[])/\∃n O os,w'=sortWorldK (qU T) 2 w blk 0 n O os/\O.size=d.size/\qt a b (dF d) (dF O)/\Ris (clT T) a b (dF O):=by
 have mixed:=mixed;have b9:=zc (qH hH);have HH:=zc hH;have ac:=zc bz;have ad:=zc Z;have ae:=zc ak;have bk:=zc IH;clear hH bz Z ak IH;obtain⟨z,hz⟩:∃z,z=d.size:=⟨_,rfl⟩;have HZ:=zc hz;rw[<-hz]at hb ai ⊢;clear hz;obtain⟨f,hf⟩:∃f,f=dF d:=⟨_,rfl⟩;have am:=zc hf;rw[<-hf]at ac ad ae ⊢;clear hf;obtain⟨mid,cn⟩:∃mid,mid=(a+b)/2:=⟨_,rfl⟩;obtain⟨K,cr⟩:∃K,K=mid+m:=⟨_,rfl⟩;obtain⟨p,hp⟩:∃p,K=p+1:=⟨K-1,by omega⟩
 have em:((a:Int)+(b:Int))/2=(mid:Int):=by omega
 have en:(mid:Int)+(m:Int)=(K:Int):=by omega
 have ep:(K:Int)-1=(p:Int):=by omega
 have cm:((m:Int)-(a:Int)==1)=false:=Es.2 (by omega);have cd:((b:Int)-(m:Int)==1)=false:=Es.2 (by omega)
 have c9:mid<z:=by omega
 have da:p<2*z:=by omega
 have c8:IntKind.i64.wrap (mid:Int)=(mid:Int):=by rw[E1];omega
 rcases Ky mid m with hM|hM
 all_goals
  obtain⟨s0,r0,ct⟩:∃s0 r0,(s0=a/\r0=m/\m<=mid)∨(K=s0+b/\r0=mid/\mid<m):=by first|exact⟨a,m,.inl ⟨rfl,rfl,hM⟩⟩|exact⟨K-b,mid,.inr ⟨by omega,rfl,hM⟩⟩
  have aj:Hid (2*mid<=a+b/\a+b<=2*mid+1/\K=mid+m/\K=p+1/\((s0=a/\r0=m/\m<=mid)∨(K=s0+b/\r0=mid/\mid<m))):=by
   unfold Hid;omega
  first|have cp:(mid:Int)<(m:Int):=by omega|have cp:¬(mid:Int)<(m:Int):=by omega
  have es:mid<m->(K:Int)-(b:Int)=(s0:Int):=by omega
  first|have es:=es hM|clear es
  clear cn cr hp ct;go_enter func283,ntmps283
  go_wp2_with fail
  try clear es
  clear em en cm cd
  go_loopw [20,21] (fun u v wr=>∃(i j n:Nat) (os:Array Obj),u=.int .i64 i/\v=.int .i64 j/\s0<=i/\i<=j/\j<=r0/\(s0<i->lx (clT T) (f (i-1)) (f (p-(i-1))))/\(j<r0->lx (clT T) (f (p-j)) (f j))/\wr=sortWorldK (qU T) 2 w blk 0 n d os) (fun u v _=>(intOf v).toNat-(intOf u).toNat)
  case atStart=>
   have hrel:=aj.o;exact⟨s0,r0,0,#[],by first|rfl|(congr 1;omega),by first|rfl|(congr 1;omega),by omega,by omega,Ea _,fun h=>absurd h (by omega),fun h=>absurd h (by omega),b9.o⟩
  case round=>
   obtain⟨i,j,n,os,rfl,rfl,b1,ci,bq,br,bp,Q⟩:=hrel;have hrel:=aj.o;have bl:=zc br;have bj:=zc bp;have HW:=zc Q;clear br bp;by_cases ck:i<j
   ·obtain⟨c,hc⟩:∃c,c=(i+j)/2:=⟨_,rfl⟩
    obtain⟨q,hq⟩:∃q,p=q+c:=⟨p-c,by omega⟩;have e1:((i:Int)+(j:Int))/2=(c:Int):=(by omega);have e2:(p:Int)-(c:Int)=(q:Int):=(by omega);have c5:i<=c:=(by omega);have cz:c<j:=(by omega);have ce:c<m:=(by omega);have cb:a<=c:=(by omega);have cq:m<=q:=(by omega);have cs:q<b:=(by omega);have av:HoldsK (qU T) 2 wr blk 0 d:=(by rw[Q];exact zt HH.o l n d os rfl);have Y:blk<wr.heap.size:=(by rw[Q];exact Ey l (zX n d os));obtain⟨a7,cu,a8,cv⟩:=Zn av (i:=q) (by have:=HZ.o;omega);obtain⟨a9,cw,bb,cx⟩:=Zn av (i:=c) (by have:=HZ.o;omega);obtain⟨x,hx⟩:∃x,x=d[q]!:=⟨_,rfl⟩;obtain⟨y,hy⟩:∃y,y=d[c]!:=⟨_,rfl⟩;have af:Hid (x=f q/\y=f c):=⟨by rw[hx,am.o];rfl,by rw[hy,am.o];rfl⟩;rw[<-hx]at a7 a8;rw[<-hy]at a9 bb;have g0:=fun n' E=>cell_grown (a:=⟨blk,q*2,none⟩) Y a7 n' E;have g1:=fun n' E=>cell_grown (a:=⟨blk,q*2+1,none⟩) Y a8 n' E;have g2:=fun n' E=>cell_grown (a:=⟨blk,c*2,none⟩) Y a9 n' E;have g3:=fun n' E=>cell_grown (a:=⟨blk,c*2+1,none⟩) Y bb n' E;have al:Hid (∀W,Calls prog 250 #[.agg #[.int .i64 x,.string (T x)],.agg #[.int .i64 y,.string (T y)]] W fun e w'=>e=.returned (.int .i64 (cfT T x y))/\∃q E,w'=grow (W.drewN q) E):=fun W=>ztt T x y W;have o:=zid T x y;obtain⟨r,hr⟩:∃r,r=cfT T x y:=⟨_,rfl⟩;rw[<-hr]at o al;have dc:(q:Int)<(z:Int):=(by omega);have dd:(c:Int)<(z:Int):=(by omega);have db:IntKind.i64.wrap (q:Int)=(q:Int):=(by rw[E1];omega);have U:=zc (fun n' E=>sortWorldK_grown_c (qU T) 2 w blk 0 n n' d os E);rw[<-Q]at U
    have bm:Hid (p-c=q):=by
     unfold Hid;omega
    clear hr hx hy Q hc hq a7 cu a8 cv a9 cw bb cx av Y hrel
    cases ah:clT T x y with
    |false=>
     rw[ah]at o;have cl:¬r<0:=Le o;have bs:decide (r<0)=false:=o
     have aq:Hid (lx (clT T) (f c) (f (p-c))):=by
      unfold Hid;rw[bm.o];have bw:=ae.o c q cb ce cq cs;rw[<-af.o.1,<-af.o.2]at bw ⊢;exact zgw ah bw
     clear o;(go_wp2_with fail)
     go_quiet_grown (first|(go_at_call 250;refine Calls.grown_of (al.o _)))
     have B:Hid (grow (wr.drewN nq) osq=sortWorldK (qU T) 2 w blk 0 (n+nq) d (os++osq)):=U.o nq osq;dsimp only;clear g0 g1 g2 g3;(go_wp2_with fail)
     go_roundw
     case rel=>exact⟨c+1,j,n+nq,os++osq,by go_num,rfl,by omega,by omega,bq,fun _=>aq.o,bj.o,B.o⟩
     case measure=>simp[intOf];omega
    |true=>
     rw[ah]at o;have cl:r<0:=Fh o;have bs:decide (r<0)=true:=o
     have aq:Hid (lx (clT T) (f (p-c)) (f c)):=by
      unfold Hid;rw[bm.o,<-af.o.1,<-af.o.2];exact zcq ah
     clear o;(go_wp2_with fail)
     go_quiet_grown (first|(go_at_call 250;refine Calls.grown_of (al.o _)))
     have B:Hid (grow (wr.drewN nq) osq=sortWorldK (qU T) 2 w blk 0 (n+nq) d (os++osq)):=U.o nq osq;dsimp only;clear g0 g1 g2 g3;(go_wp2_with fail)
     go_roundw
     case rel=>exact⟨i,c,n+nq,os++osq,rfl,rfl,b1,by omega,by omega,bl.o,fun _=>aq.o,B.o⟩
     case measure=>simp[intOf];omega
   ·obtain rfl:i=j:=by omega
    obtain⟨e,he⟩:∃e,K=e+i:=⟨K-i,by omega⟩;have ee:(K:Int)-(i:Int)=(e:Int):=(by omega)
    have hcut:Cut (clT T) a m b mid i e f:=by
     refine⟨by omega,by omega,by omega,by omega,by omega,by omega,by omega,fun h1 h2=>?_,fun h1 h2=>?_⟩
     ·have:=bl.o (by omega)
      rwa[show p-(i-1)=e by omega]at this
     ·have:=bj.o (by omega)
      rwa[show p-i=e-1 by omega]at this
    have HC:=zc hcut;have t:Hid (a<=i/\i<=mid/\mid<=e/\e<=b/\i<=m/\m<=e/\i+e=mid+m):=⟨hcut.lo0,hcut.smid,hcut.mide,hcut.eb,hcut.sm,hcut.me,hcut.sum⟩
    have G:Hid (mid-a<b-a/\b-mid<b-a/\a<mid/\mid<b):=by
     unfold Hid;omega
    have cg:e<=z:=by have:=hcut.eb;omega
    have c4:IntKind.i64.wrap (e:Int)=(e:Int):=by rw[E1];omega
    have c6:i<=z:=by have:=hcut.sm;omega
    have bh:Hid (dF d=f):=am.o.symm;clear he hcut ck ci b1 bq hrel;have aa:Hid (d.size=z):=HZ.o.symm;obtain⟨g,hg⟩:∃g,g=qO i m e f:=⟨_,rfl⟩;have bi:=zc hg;have ar:Hid (qt a b f g):=(by rw[hg];exact HC.o.perm);have bc:Hid (Ris (clT T) a i g):=(by rw[hg];exact HC.o.ris1 ac.o);have bf:Hid (Ris (clT T) i mid g):=(by rw[hg];exact HC.o.ris2 ad.o);have be:Hid (Ris (clT T) mid e g):=(by rw[hg];exact HC.o.ris3 ac.o);have bg:Hid (Ris (clT T) e b g):=(by rw[hg];exact HC.o.ris4 ad.o);have b7:Hid (Sep a i mid g):=(by rw[hg];exact HC.o.sep1 ae.o);have b8:Hid (Sep mid e b g):=(by rw[hg];exact HC.o.sep2 ae.o);have HX:Hid (∀u v,a<=u->u<mid->mid<=v->v<b->lx (clT T) (g u) (g v)):=(by rw[hg];exact HC.o.cross (Zq T) ac.o ad.o);clear hg Q;by_cases k0:a<i<;>by_cases k1:i<mid<;>by_cases k2:i<m<;>by_cases k3:e<b
    all_goals
     try exact absurd t.o (by have:=G.o;omega)
    all_goals
     have hr:=t.o
     first|(have a5:(i:Int)<(m:Int):=(by omega);have cj:=Eo a5)|(have a5:¬(i:Int)<(m:Int):=(by omega);have cj:=Ed a5)
     first|(have a6:(m:Int)<(e:Int):=(by omega);have co:=Eo a6)|(have a6:¬(m:Int)<(e:Int):=(by omega);have co:=Ed a6)
     first|(have a3:(a:Int)<(i:Int):=(by omega);have cc:=Eo a3)|(have a3:¬(a:Int)<(i:Int):=(by omega);have cc:=Ed a3)
     first|(have L:(i:Int)<(mid:Int):=(by omega);have aw:=Eo L)|(have L:¬(i:Int)<(mid:Int):=(by omega);have aw:=Ed L)
     first|(have M:(mid:Int)<(e:Int):=(by omega);have ax:=Eo M)|(have M:¬(mid:Int)<(e:Int):=(by omega);have ax:=Ed M)
     first|(have a4:(e:Int)<(b:Int):=(by omega);have cf:=Eo a4)|(have a4:¬(e:Int)<(b:Int):=(by omega);have cf:=Ed a4)
     clear hr
     first
     |have c1:i<m/\i<mid:=⟨k2,k1⟩
      have an:=zc (zvu T blk au i m e d wr (.func (.func 250) #[] #[]) (by rw[HW.o];exact zt HH.o l n d os rfl) (by rw[HW.o];exact Ey l (zX n d os)) (by have:=t.o;omega) (by have:=t.o;omega) (by rw[aa.o];exact cg) (by rw[aa.o];exact ai));rw[aa.o]at an;(go_wp2_with fail);refine an.o.mono ?_;rintro er w1 ⟨rfl,R,P,b2,az,bo⟩
      have I:Hid (w1=sortWorldK (qU T) 2 w blk 0 (n+R) P (os++#[])):=by
       unfold Hid;rw[b2,HW.o];exact jG n R d P os #[] l (az.trans aa.o.symm)
      have D:Hid (P.size=z):=az
      have H:Hid (dF P=g):=by
       unfold Hid;rw[bo,bh.o,bi.o]
      clear b2 az bo an;generalize n+R=R at I;generalize os++#[]=o1 at I
     |obtain⟨w1,R,P,o1,hq,I,D,H⟩:∃w1 R P o1,w1=wr/\Hid (w1=sortWorldK (qU T) 2 w blk 0 R P o1)/\Hid (P.size=z)/\Hid (dF P=g):=⟨wr,n,d,os,rfl,HW,aa,by
       unfold Hid;have hr:=t.o
       rw[bh.o,bi.o,zmi f (by omega) (by omega) (by omega)]⟩
      subst hq
     first
     |have c2:a<i/\i<mid:=⟨k0,k1⟩
      have ao:=zc (bk.o a i mid P w1 G.o.1 (by rw[I.o];exact zt HH.o l R P o1 (D.o.trans HZ.o)) (by rw[I.o];exact Ey l (zX R P o1)) (by have:=t.o;omega) (by have:=t.o;omega) (by rw[D.o];omega) (by rw[D.o];exact ai) (by rw[H.o];exact bc.o) (by rw[H.o];exact bf.o) (by rw[H.o];exact b7.o));rw[D.o]at ao;(go_wp2_with fail);refine ao.o.mono ?_;rintro er w2 ⟨rfl,S,F,a2,b3,a0,ay,Z⟩
      have B:Hid (w2=sortWorldK (qU T) 2 w blk 0 (R+S) F (o1++a2)):=by
       unfold Hid;rw[b3,I.o];exact jG R S P F o1 a2 l (a0.trans D.o.symm)
      have s:Hid (F.size=z):=a0;rw[H.o]at ay;have V:=zc ay;have X:=zc Z;clear b3 a0 ay Z ao;generalize R+S=S at B;generalize o1++a2=o2 at B
     |obtain⟨w2,S,F,o2,hq,B,s,V,X⟩:∃w2 S F o2,w2=w1/\Hid (w2=sortWorldK (qU T) 2 w blk 0 S F o2)/\Hid (F.size=z)/\Hid (qt a mid g (dF F))/\Hid (Ris (clT T) a mid (dF F)):=⟨w1,R,P,o1,rfl,I,D,by
       unfold Hid;rw[H.o]
       exact qt.refl _ _ _,by
       unfold Hid;rw[H.o];have hr:=t.o
       first|exact bf.o.sub (by omega) (Ea _)|exact bc.o.sub (Ea _) (by omega)⟩
      subst hq
     have ab:Hid (∀k,mid<=k->dF F k=g k):=fun k hk=>V.o.2 k (Or.inr hk)
     first
     |have c3:i<m/\e<b:=⟨k2,k3⟩
      have ap:=zc (bk.o mid e b F w2 G.o.2.1 (by rw[B.o];exact zt HH.o l S F o2 (s.o.trans HZ.o)) (by rw[B.o];exact Ey l (zX S F o2)) (by have:=t.o;omega) (by have:=t.o;omega) (by rw[s.o];omega) (by rw[s.o];exact ai) (be.o.congr (fun k h1 _=>ab.o k h1)) (bg.o.congr (fun k h1 _=>ab.o k (by have:=t.o;omega))) (fun u v h1 h2 h3 h4=>by rw[ab.o u h1,ab.o v (by omega)];exact b8.o u v h1 h2 h3 h4));rw[s.o]at ap;(go_wp2_with fail);refine ap.o.mono ?_;rintro er w3 ⟨rfl,n3,d3,b5,b4,a1,bu,b0⟩
      have ca:Hid (w3=sortWorldK (qU T) 2 w blk 0 (S+n3) d3 (o2++b5)):=by
       unfold Hid;rw[b4,B.o];exact jG S n3 F d3 o2 b5 l (a1.trans s.o.symm)
      have bn:Hid (d3.size=z):=a1;have C:=zc (halves HX.o (Fo G.o.2.2.1) (Fo G.o.2.2.2) V.o bu X.o b0);clear b4 a1 bu b0 ap;(go_wp2_with fail);refine Ku (v:=.tuple #[]) (by simp[results,results283,go_sem]) rfl ⟨rfl,_,d3,_,ca.o,bn.o,ar.o.trans C.o.1,C.o.2⟩
     |have b6:Hid (Ris (clT T) mid b (dF F)):=by
       unfold Hid;have hr:=t.o;refine Ris.congr (f:=g) ?_ (fun k h1 _=>V.o.2 k (Or.inr h1))
       first|exact bg.o.sub (by omega) (Ea _)|exact be.o.sub (Ea _) (by omega)
      have C:=zc (halves HX.o (Fo G.o.2.2.1) (Fo G.o.2.2.2) V.o (qt.refl mid b (dF F)) X.o b6.o);(go_wp2_with fail);refine Ku (v:=.tuple #[]) (by simp[results,results283,go_sem]) rfl ?_
      first|exact⟨rfl,S,F,o2,B.o,s.o,ar.o.trans C.o.1,C.o.2⟩|exact⟨rfl,S,F,⟨o2,B.o⟩,s.o,ar.o.trans C.o.1,C.o.2⟩
end So
end Go.Proofs.YtoojegpaofdbfaaGreatDoor
