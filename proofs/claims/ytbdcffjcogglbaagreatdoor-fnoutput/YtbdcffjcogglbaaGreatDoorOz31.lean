import Derived.Test.YtbdcffjcogglbaaGreatDoorOz29
set_option maxRecDepth 100000
set_option maxHeartbeats 8000000
namespace Go.Proofs.YtbdcffjcogglbaaGreatDoor
open Go.Proofs.Tryz
namespace So
open Go.RowKit Go.Sort Go.Proofs
theorem mergeC_T (T:Nat->ByteArray) (blk cap a m b:Nat) (d:Array Nat) (w:World) (hH:HoldsK (encT T) 2 w blk 0 d) (hblk:blk<w.heap.size) (ham:a+1<m) (hmb:m+1<b) (hb:b<=d.size) (hsz:d.size<=1048576)
  (hr1:Ris (clT T) a m (dF d)) (hr2:Ris (clT T) m b (dF d)) (hsep:Sep a m b (dF d))
  (IH:∀ (a' m' b':Nat) (d':Array Nat) (W:World),b' - a' < b-a->HoldsK (encT T) 2 W blk 0 d'->blk<W.heap.size->a' < m'->m' < b'->b'<=d'.size->d'.size<=1048576->Ris (clT T) a' m' (dF d')->Ris (clT T) m' b' (dF d')->Sep a' m' b' (dF d') ->
   Calls prog 205 #[.slice (some ⟨blk,0,none⟩) d'.size cap,.int .i64 a',.int .i64 m',.int .i64 b',.func (.func 159) #[] #[]] W fun e w' =>
    e=.returned (.tuple #[])/\∃ n d'' os,w'=sortWorldK (encT T) 2 W blk 0 n d'' os/\d''.size=d'.size/\PermF a' b' (dF d') (dF d'')/\Ris (clT T) a' b' (dF d'')) :
  Calls prog 205 #[.slice (some ⟨blk,0,none⟩) d.size cap,.int .i64 a,.int .i64 m,.int .i64 b,.func (.func 159) #[] #[]] w fun e w' =>
   e=.returned (.tuple #[])/\∃ n d' os,w'=sortWorldK (encT T) 2 w blk 0 n d' os/\d'.size=d.size/\PermF a b (dF d) (dF d')/\Ris (clT T) a b (dF d'):=by
 have mixed:=mixed;have HST:=hideO (world_self hH);have HH:=hideO hH;have HR1:=hideO hr1;have HR2:=hideO hr2;have HSP:=hideO hsep;have HIH:=hideO IH;clear hH hr1 hr2 hsep IH;obtain⟨z,hz⟩:∃ z,z=d.size:=⟨_,rfl⟩;have HZ:=hideO hz;rw[<-hz]at hb hsz ⊢;clear hz;obtain⟨f,hf⟩:∃ f,f=dF d:=⟨_,rfl⟩;have HFD:=hideO hf;rw[<-hf]at HR1 HR2 HSP ⊢;clear hf;obtain⟨mid,hmd⟩:∃ mid,mid=(a+b)/2:=⟨_,rfl⟩;obtain⟨nn,hnn⟩:∃ nn,nn=mid+m:=⟨_,rfl⟩;obtain⟨p,hp⟩:∃ p,nn=p+1:=⟨nn-1,by omega⟩
 have em:((a:Int)+(b:Int))/2=(mid:Int):=by omega
 have en:(mid:Int)+(m:Int)=(nn:Int):=by omega
 have ep:(nn:Int)-1=(p:Int):=by omega
 have hma:((m:Int)-(a:Int)==1)=false:=beq_eq_false_iff_ne.2 (by omega);have hbm:((b:Int)-(m:Int)==1)=false:=beq_eq_false_iff_ne.2 (by omega)
 have hmz:mid<z:=by omega
 have hpz:p<2*z:=by omega
 have hmw:IntKind.i64.wrap (mid:Int)=(mid:Int):=by rw[IntKind.wrap_i64];omega
 rcases Nat.lt_or_ge mid m with hM|hM
 all_goals
  obtain⟨s0,r0,hs0⟩:∃ s0 r0,(s0=a/\r0=m/\m<=mid)∨(nn=s0+b/\r0=mid/\mid<m):=by first|exact⟨a,m,.inl ⟨rfl,rfl,hM⟩⟩|exact⟨nn-b,mid,.inr ⟨by omega,rfl,hM⟩⟩
  have HREL:Hid (2*mid<=a+b/\a+b<=2*mid+1/\nn=mid+m/\nn=p+1/\((s0=a/\r0=m/\m<=mid)∨(nn=s0+b/\r0=mid/\mid<m))):=by
   unfold Hid;omega
  first|have hmm:(mid:Int)<(m:Int):=by omega|have hmm:¬(mid:Int)<(m:Int):=by omega
  have es:mid<m->(nn:Int)-(b:Int)=(s0:Int):=by omega
  first|have es:=es hM|clear es
  clear hmd hnn hp hs0;go_enter func205,ntmps205
  go_wp2_with fail
  try clear es
  clear em en hma hbm
  go_loopw [20,21] (fun u v wr=>∃ (i j n:Nat) (os:Array Obj),u=.int .i64 i/\v=.int .i64 j/\s0<=i/\i<=j/\j<=r0/\(s0<i->lx (clT T) (f (i-1)) (f (p-(i-1))))/\(j<r0->lx (clT T) (f (p-j)) (f j))/\wr=sortWorldK (encT T) 2 w blk 0 n d os) (fun u v _=>(intOf v).toNat-(intOf u).toNat)
  case atStart =>
   have hrel:=HREL.o;exact⟨s0,r0,0,#[],by first|rfl|(congr 1;omega),by first|rfl|(congr 1;omega),by omega,by omega,nl,fun h=>absurd h (by omega),fun h=>absurd h (by omega),HST.o⟩
  case round =>
   obtain⟨i,j,n,os,rfl,rfl,hsi,hij,hjr,hlo,hhi,hwr⟩:=hrel;have hrel:=HREL.o;have HLO:=hideO hlo;have HHI:=hideO hhi;have HW:=hideO hwr;clear hlo hhi;by_cases hlt:i<j
   ·obtain⟨c,hc⟩:∃ c,c=(i+j)/2:=⟨_,rfl⟩
    obtain⟨q,hq⟩:∃ q,p=q+c:=⟨p-c,by omega⟩;have e1:((i:Int)+(j:Int))/2=(c:Int):=(by omega);have e2:(p:Int)-(c:Int)=(q:Int):=(by omega);have hic:i<=c:=(by omega);have hcj:c<j:=(by omega);have hcm:c<m:=(by omega);have hac:a<=c:=(by omega);have hmq:m<=q:=(by omega);have hqb:q<b:=(by omega);have hHj:HoldsK (encT T) 2 wr blk 0 d:=(by rw[hwr];exact world_holds HH.o hblk n d os rfl);have hbw:blk<wr.heap.size:=(by rw[hwr];exact Nat.lt_of_lt_of_le hblk (world_size n d os));obtain⟨x0c,x0f,x1c,x1f⟩:=cells_T hHj (i:=q) (by have:=HZ.o;omega);obtain⟨y0c,y0f,y1c,y1f⟩:=cells_T hHj (i:=c) (by have:=HZ.o;omega);obtain⟨x,hx⟩:∃ x,x=d[q]!:=⟨_,rfl⟩;obtain⟨y,hy⟩:∃ y,y=d[c]!:=⟨_,rfl⟩;have HXY:Hid (x=f q/\y=f c):=⟨by rw[hx,HFD.o];rfl,by rw[hy,HFD.o];rfl⟩;rw[<-hx]at x0c x1c;rw[<-hy]at y0c y1c;have g0:=fun n' os'=>cell_grown (a:=⟨blk,q*2,none⟩) hbw x0c n' os';have g1:=fun n' os'=>cell_grown (a:=⟨blk,q*2+1,none⟩) hbw x1c n' os';have g2:=fun n' os'=>cell_grown (a:=⟨blk,c*2,none⟩) hbw y0c n' os';have g3:=fun n' os'=>cell_grown (a:=⟨blk,c*2+1,none⟩) hbw y1c n' os';have HCM:Hid (∀ W,Calls prog 159 #[.agg #[.int .i64 x,.string (T x)],.agg #[.int .i64 y,.string (T y)]] W fun e w'=>e=.returned (.int .i64 (cfT T x y))/\∃ q os',w'=grow (W.drewN q) os'):=fun W=>cmp_T T x y W;have hneg:=cfT_neg T x y;obtain⟨r,hr⟩:∃ r,r=cfT T x y:=⟨_,rfl⟩;rw[<-hr]at hneg HCM;have hz1:(q:Int)<(z:Int):=(by omega);have hz2:(c:Int)<(z:Int):=(by omega);have hqw:IntKind.i64.wrap (q:Int)=(q:Int):=(by rw[IntKind.wrap_i64];omega);have HCLS:=hideO (fun n' os'=>sortWorldK_grown_c (encT T) 2 w blk 0 n n' d os os');rw[<-hwr]at HCLS
    have HQC:Hid (p-c=q):=by
     unfold Hid;omega
    clear hr hx hy hwr hc hq x0c x0f x1c x1f y0c y0f y1c y1f hHj hbw hrel
    cases hcb:clT T x y with
    |false =>
     rw[hcb]at hneg;have hlv:¬r<0:=of_decide_eq_false hneg;have hlv':decide (r<0)=false:=hneg
     have HL2:Hid (lx (clT T) (f c) (f (p-c))):=by
      unfold Hid;rw[HQC.o];have hpl:=HSP.o c q hac hcm hmq hqb;rw[<-HXY.o.1,<-HXY.o.2]at hpl ⊢;exact lx_no hcb hpl
     clear hneg;(go_wp2_with fail)
     go_quiet_grown (first|(go_at_call 159;refine Calls.grown_of (HCM.o _)))
     have HW2:Hid (grow (wr.drewN nq) osq=sortWorldK (encT T) 2 w blk 0 (n+nq) d (os++osq)):=HCLS.o nq osq;dsimp only;clear g0 g1 g2 g3;(go_wp2_with fail)
     go_roundw
     case rel=>exact⟨c+1,j,n+nq,os++osq,by go_num,rfl,by omega,by omega,hjr,fun _=>HL2.o,HHI.o,HW2.o⟩
     case measure=>simp[intOf];omega
    |true =>
     rw[hcb]at hneg;have hlv:r<0:=of_decide_eq_true hneg;have hlv':decide (r<0)=true:=hneg
     have HL2:Hid (lx (clT T) (f (p-c)) (f c)):=by
      unfold Hid;rw[HQC.o,<-HXY.o.1,<-HXY.o.2];exact lx_yes hcb
     clear hneg;(go_wp2_with fail)
     go_quiet_grown (first|(go_at_call 159;refine Calls.grown_of (HCM.o _)))
     have HW2:Hid (grow (wr.drewN nq) osq=sortWorldK (encT T) 2 w blk 0 (n+nq) d (os++osq)):=HCLS.o nq osq;dsimp only;clear g0 g1 g2 g3;(go_wp2_with fail)
     go_roundw
     case rel=>exact⟨i,c,n+nq,os++osq,rfl,rfl,hsi,by omega,by omega,HLO.o,fun _=>HL2.o,HW2.o⟩
     case measure=>simp[intOf];omega
   ·obtain rfl:i=j:=by omega
    obtain⟨e,he⟩:∃ e,nn=e+i:=⟨nn-i,by omega⟩;have ee:(nn:Int)-(i:Int)=(e:Int):=(by omega)
    have hcut:Cut (clT T) a m b mid i e f:=by
     refine⟨by omega,by omega,by omega,by omega,by omega,by omega,by omega,fun h1 h2=>?_,fun h1 h2=>?_⟩
     ·have:=HLO.o (by omega)
      rwa[show p-(i-1)=e by omega]at this
     ·have:=HHI.o (by omega)
      rwa[show p-i=e-1 by omega]at this
    have HC:=hideO hcut;have HRL:Hid (a<=i/\i<=mid/\mid<=e/\e<=b/\i<=m/\m<=e/\i+e=mid+m):=⟨hcut.lo0,hcut.smid,hcut.mide,hcut.eb,hcut.sm,hcut.me,hcut.sum⟩
    have HBM:Hid (mid-a<b-a/\b-mid<b-a/\a<mid/\mid<b):=by
     unfold Hid;omega
    have hez:e<=z:=by have:=hcut.eb;omega
    have hew:IntKind.i64.wrap (e:Int)=(e:Int):=by rw[IntKind.wrap_i64];omega
    have hiz:i<=z:=by have:=hcut.sm;omega
    have HG0:Hid (dF d=f):=HFD.o.symm;clear he hcut hlt hij hsi hjr hrel;have hwz:Hid (d.size=z):=HZ.o.symm;obtain⟨g,hg⟩:∃ g,g=rotF i m e f:=⟨_,rfl⟩;have HGE:=hideO hg;have HPG:Hid (PermF a b f g):=(by rw[hg];exact HC.o.perm);have HA1:Hid (Ris (clT T) a i g):=(by rw[hg];exact HC.o.ris1 HR1.o);have HB1:Hid (Ris (clT T) i mid g):=(by rw[hg];exact HC.o.ris2 HR2.o);have HA2:Hid (Ris (clT T) mid e g):=(by rw[hg];exact HC.o.ris3 HR1.o);have HB2:Hid (Ris (clT T) e b g):=(by rw[hg];exact HC.o.ris4 HR2.o);have HS1:Hid (Sep a i mid g):=(by rw[hg];exact HC.o.sep1 HSP.o);have HS2:Hid (Sep mid e b g):=(by rw[hg];exact HC.o.sep2 HSP.o);have HX:Hid (∀ u v,a<=u->u<mid->mid<=v->v<b->lx (clT T) (g u) (g v)):=(by rw[hg];exact HC.o.cross (clT_weak T) HR1.o HR2.o);clear hg hwr;by_cases k0:a<i<;>by_cases k1:i<mid<;>by_cases k2:i<m<;>by_cases k3:e<b
    all_goals
     try exact absurd HRL.o (by have:=HBM.o;omega)
    all_goals
     have hr:=HRL.o
     first|(have pim:(i:Int)<(m:Int):=(by omega);have him:=decide_eq_true pim)|(have pim:¬(i:Int)<(m:Int):=(by omega);have him:=decide_eq_false pim)
     first|(have pme:(m:Int)<(e:Int):=(by omega);have hme:=decide_eq_true pme)|(have pme:¬(m:Int)<(e:Int):=(by omega);have hme:=decide_eq_false pme)
     first|(have pai:(a:Int)<(i:Int):=(by omega);have hai:=decide_eq_true pai)|(have pai:¬(a:Int)<(i:Int):=(by omega);have hai:=decide_eq_false pai)
     first|(have pimid:(i:Int)<(mid:Int):=(by omega);have himid:=decide_eq_true pimid)|(have pimid:¬(i:Int)<(mid:Int):=(by omega);have himid:=decide_eq_false pimid)
     first|(have pmide:(mid:Int)<(e:Int):=(by omega);have hmide:=decide_eq_true pmide)|(have pmide:¬(mid:Int)<(e:Int):=(by omega);have hmide:=decide_eq_false pmide)
     first|(have peb:(e:Int)<(b:Int):=(by omega);have heb:=decide_eq_true peb)|(have peb:¬(e:Int)<(b:Int):=(by omega);have heb:=decide_eq_false peb)
     clear hr
     first
     |have c1:i<m/\i<mid:=⟨k2,k1⟩
      have HK1:=hideO (rotate_T T blk cap i m e d wr (.func (.func 159) #[] #[]) (by rw[HW.o];exact world_holds HH.o hblk n d os rfl) (by rw[HW.o];exact Nat.lt_of_lt_of_le hblk (world_size n d os)) (by have:=HRL.o;omega) (by have:=HRL.o;omega) (by rw[hwz.o];exact hez) (by rw[hwz.o];exact hsz));rw[hwz.o]at HK1;(go_wp2_with fail);refine HK1.o.mono ?_;rintro er w1 ⟨rfl,n1,d1,hw1,hs1,hf1⟩
      have HW1:Hid (w1=sortWorldK (encT T) 2 w blk 0 (n+n1) d1 (os++#[])):=by
       unfold Hid;rw[hw1,HW.o];exact world_world n n1 d d1 os #[] hblk (hs1.trans hwz.o.symm)
      have HS1':Hid (d1.size=z):=hs1
      have HG1:Hid (dF d1=g):=by
       unfold Hid;rw[hf1,HG0.o,HGE.o]
      clear hw1 hs1 hf1 HK1;generalize n+n1=n1 at HW1;generalize os++#[]=o1 at HW1
     |obtain⟨w1,n1,d1,o1,hq,HW1,HS1',HG1⟩:∃ w1 n1 d1 o1,w1=wr/\Hid (w1=sortWorldK (encT T) 2 w blk 0 n1 d1 o1)/\Hid (d1.size=z)/\Hid (dF d1=g):=⟨wr,n,d,os,rfl,HW,hwz,by
       unfold Hid;have hr:=HRL.o
       rw[HG0.o,HGE.o,rot_none f (by omega) (by omega) (by omega)]⟩
      subst hq
     first
     |have c2:a<i/\i<mid:=⟨k0,k1⟩
      have HK2:=hideO (HIH.o a i mid d1 w1 HBM.o.1 (by rw[HW1.o];exact world_holds HH.o hblk n1 d1 o1 (HS1'.o.trans HZ.o)) (by rw[HW1.o];exact Nat.lt_of_lt_of_le hblk (world_size n1 d1 o1)) (by have:=HRL.o;omega) (by have:=HRL.o;omega) (by rw[HS1'.o];omega) (by rw[HS1'.o];exact hsz) (by rw[HG1.o];exact HA1.o) (by rw[HG1.o];exact HB1.o) (by rw[HG1.o];exact HS1.o));rw[HS1'.o]at HK2;(go_wp2_with fail);refine HK2.o.mono ?_;rintro er w2 ⟨rfl,n2,d2,os2,hw2,hs2,hp2,hr2⟩
      have HW2:Hid (w2=sortWorldK (encT T) 2 w blk 0 (n1+n2) d2 (o1++os2)):=by
       unfold Hid;rw[hw2,HW1.o];exact world_world n1 n2 d1 d2 o1 os2 hblk (hs2.trans HS1'.o.symm)
      have HS2':Hid (d2.size=z):=hs2;rw[HG1.o]at hp2;have HP2:=hideO hp2;have HR2':=hideO hr2;clear hw2 hs2 hp2 hr2 HK2;generalize n1+n2=n2 at HW2;generalize o1++os2=o2 at HW2
     |obtain⟨w2,n2,d2,o2,hq,HW2,HS2',HP2,HR2'⟩:∃ w2 n2 d2 o2,w2=w1/\Hid (w2=sortWorldK (encT T) 2 w blk 0 n2 d2 o2)/\Hid (d2.size=z)/\Hid (PermF a mid g (dF d2))/\Hid (Ris (clT T) a mid (dF d2)):=⟨w1,n1,d1,o1,rfl,HW1,HS1',by
       unfold Hid;rw[HG1.o]
       exact PermF.refl _ _ _,by
       unfold Hid;rw[HG1.o];have hr:=HRL.o
       first|exact HB1.o.sub (by omega) nl|exact HA1.o.sub nl (by omega)⟩
      subst hq
     have HE2:Hid (∀ k,mid<=k->dF d2 k=g k):=fun k hk=>HP2.o.2 k (Or.inr hk)
     first
     |have c3:i<m/\e<b:=⟨k2,k3⟩
      have HK3:=hideO (HIH.o mid e b d2 w2 HBM.o.2.1 (by rw[HW2.o];exact world_holds HH.o hblk n2 d2 o2 (HS2'.o.trans HZ.o)) (by rw[HW2.o];exact Nat.lt_of_lt_of_le hblk (world_size n2 d2 o2)) (by have:=HRL.o;omega) (by have:=HRL.o;omega) (by rw[HS2'.o];omega) (by rw[HS2'.o];exact hsz) (HA2.o.congr (fun k h1 _=>HE2.o k h1)) (HB2.o.congr (fun k h1 _=>HE2.o k (by have:=HRL.o;omega))) (fun u v h1 h2 h3 h4=>by rw[HE2.o u h1,HE2.o v (by omega)];exact HS2.o u v h1 h2 h3 h4));rw[HS2'.o]at HK3;(go_wp2_with fail);refine HK3.o.mono ?_;rintro er w3 ⟨rfl,n3,d3,os3,hw3,hs3,hp3,hr3⟩
      have HW3:Hid (w3=sortWorldK (encT T) 2 w blk 0 (n2+n3) d3 (o2++os3)):=by
       unfold Hid;rw[hw3,HW2.o];exact world_world n2 n3 d2 d3 o2 os3 hblk (hs3.trans HS2'.o.symm)
      have HS3':Hid (d3.size=z):=hs3;have HFIN:=hideO (halves HX.o (Nat.le_of_lt HBM.o.2.2.1) (Nat.le_of_lt HBM.o.2.2.2) HP2.o hp3 HR2'.o hr3);clear hw3 hs3 hp3 hr3 HK3;(go_wp2_with fail);refine bodyPost_end (v:=.tuple #[]) (by simp[results,results205,go_sem]) rfl ⟨rfl,_,d3,_,HW3.o,HS3'.o,HPG.o.trans HFIN.o.1,HFIN.o.2⟩
     |have HR3:Hid (Ris (clT T) mid b (dF d2)):=by
       unfold Hid;have hr:=HRL.o;refine Ris.congr (f:=g) ?_ (fun k h1 _=>HP2.o.2 k (Or.inr h1))
       first|exact HB2.o.sub (by omega) nl|exact HA2.o.sub nl (by omega)
      have HFIN:=hideO (halves HX.o (Nat.le_of_lt HBM.o.2.2.1) (Nat.le_of_lt HBM.o.2.2.2) HP2.o (PermF.refl mid b (dF d2)) HR2'.o HR3.o);(go_wp2_with fail);refine bodyPost_end (v:=.tuple #[]) (by simp[results,results205,go_sem]) rfl ?_
      first|exact⟨rfl,n2,d2,o2,HW2.o,HS2'.o,HPG.o.trans HFIN.o.1,HFIN.o.2⟩|exact⟨rfl,n2,d2,⟨o2,HW2.o⟩,HS2'.o,HPG.o.trans HFIN.o.1,HFIN.o.2⟩
end So
end Go.Proofs.YtbdcffjcogglbaaGreatDoor
