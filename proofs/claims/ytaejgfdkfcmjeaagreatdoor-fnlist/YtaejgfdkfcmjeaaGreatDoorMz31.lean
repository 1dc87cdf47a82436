import Derived.Test.YtaejgfdkfcmjeaaGreatDoorMz26
import Derived.Test.YtaejgfdkfcmjeaaGreatDoorMz27
import Derived.Test.YtaejgfdkfcmjeaaGreatDoorMz30
set_option maxRecDepth 100000
set_option maxHeartbeats 8000000
namespace Go.Proofs.YtaejgfdkfcmjeaaGreatDoor
open Go.Proofs.Tryz
namespace So
open Go.RowKit Go.Sort Go.Proofs
theorem mergeA_I (T:ByteArray) (cc:Nat) (blk cap a b:Nat) (d:Array Nat) (w:World) (hH:HoldsK encI 1 w blk 0 d) (hblk:blk<w.heap.size) (hab:a+1<b) (hb:b<=d.size) (hsz:d.size<=1048576) (hcap:Cap w cc T) (hcb0:cc≠blk) (hbd:∀ i,dF d i<T.size)
  (hr2:Ris (clI T) (a+1) b (dF d)) (hsep:Sep a (a+1) b (dF d)) :
  Calls prog 241 #[.slice (some ⟨blk,0,none⟩) d.size cap,.int .i64 a,.int .i64 (a+1:Nat),.int .i64 b,.func (.func 234) #[] #[.pointer (some ⟨cc,0,none⟩)]] w fun e w' =>
   e=.returned (.tuple #[])/\∃ n d' os,w'=sortWorldK encI 1 w blk 0 n d' os/\d'.size=d.size/\PermF a b (dF d) (dF d')/\Ris (clI T) a b (dF d'):=by
 have mixed:=mixed;have HST:=hideO (world_self hH);have HH:=hideO hH;have HCP:Hid (∀ (m:Nat) (dk:Array Nat) (os:Array Obj),Cap (sortWorldK encI 1 w blk 0 m dk os) cc T):=fun m dk os=>hcap.block (world_block m dk os hcap.lt hcb0);have HBD:=hideO hbd;clear hcap hcb0 hbd;have HR2:=hideO hr2;have HSP:=hideO hsep;clear hH hr2 hsep;obtain⟨z,hz⟩:∃ z,z=d.size:=⟨_,rfl⟩;have HZ:=hideO hz;rw[<-hz]at hb hsz ⊢;clear hz;obtain⟨f,hf⟩:∃ f,f=dF d:=⟨_,rfl⟩;have HFD:=hideO hf
 have HBF:Hid (∀ i,f i<T.size):=by
  unfold Hid;rw[hf];exact HBD.o
 rw[<-hf]at HR2 HSP ⊢;clear hf;obtain⟨m,hm⟩:∃ m,m=a+1:=⟨_,rfl⟩
 have hma:(m:Int)-(a:Int)=1:=by omega
 have ham:a<m:=by omega
 rw[<-hm]at hab HR2 HSP ⊢;have HM:=hideO hm;clear hm;go_enter func241,ntmps241
 go_wp2_with fail
 clear hma
 go_loopw [10,11] (fun u v wr=>∃ (i j n:Nat) (os:Array Obj),u=.int .i64 i/\v=.int .i64 j/\m<=i/\i<=j/\j<=b/\(m<i->lx (clI T) (f (i-1)) (f a))/\(j<b->lx (clI T) (f a) (f j))/\wr=sortWorldK encI 1 w blk 0 n d os) (fun u v _=>(intOf v).toNat-(intOf u).toNat)
 case atStart=>exact⟨m,b,0,#[],rfl,rfl,nl,by omega,nl,fun h=>absurd h (by omega),fun h=>absurd h (by omega),HST.o⟩
 case round =>
  obtain⟨i,j,n,os,rfl,rfl,hmi,hij,hjb,hlo,hhi,hwr⟩:=hrel;have HLO:=hideO hlo;have HHI:=hideO hhi;have HW:=hideO hwr;clear hlo hhi;by_cases hlt:i<j
  ·obtain⟨h,hh⟩:∃ h,h=(i+j)/2:=⟨_,rfl⟩
   have e1:((i:Int)+(j:Int))/2=(h:Int):=by omega
   have hhb:h<z:=by omega
   have hih:i<=h:=by omega
   have hhj:h<j:=by omega
   have hHj:HoldsK encI 1 wr blk 0 d:=by rw[hwr];exact world_holds HH.o hblk n d os rfl
   have hbw:blk<wr.heap.size:=by rw[hwr];exact Nat.lt_of_lt_of_le hblk (world_size n d os)
   obtain⟨x0c,x0f⟩:=cells_I hHj (i:=h) (by have:=HZ.o;omega);obtain⟨y0c,y0f⟩:=cells_I hHj (i:=a) (by have:=HZ.o;omega);obtain⟨x,hx⟩:∃ x,x=d[h]!:=⟨_,rfl⟩;obtain⟨y,hy⟩:∃ y,y=d[a]!:=⟨_,rfl⟩;have HXY:Hid (x=f h/\y=f a):=⟨by rw[hx,HFD.o];rfl,by rw[hy,HFD.o];rfl⟩;rw[<-hx]at x0c;rw[<-hy]at y0c;have g0:=fun n' os'=>cell_grown (a:=⟨blk,h,none⟩) hbw x0c n' os';have g2:=fun n' os'=>cell_grown (a:=⟨blk,a,none⟩) hbw y0c n' os'
   have hcc:wr.cell? ⟨cc,0,none⟩=some (.string T):=by rw[hwr];exact HCP.o _ _ _
   have hcw:cc<wr.heap.size:=Cap.lt hcc;have gc:=fun n' os'=>cell_grown (a:=⟨cc,0,none⟩) hcw hcc n' os';clear hcc hcw;have HCM:Hid (∀ W,Cap W cc T->Calls prog 234 #[.int .i64 x,.int .i64 y,.pointer (some ⟨cc,0,none⟩)] W fun e w'=>e=.returned (.int .i64 (cfI T x y))/\∃ q os',w'=grow (W.drewN q) os'):=fun W hW=>cmp_I T cc x y W hW (by rw[HXY.o.1];exact HBF.o _) (by rw[HXY.o.2];exact HBF.o _);have hneg:=cfI_neg T x y;obtain⟨r,hr⟩:∃ r,r=cfI T x y:=⟨_,rfl⟩;rw[<-hr]at hneg HCM
   have hz1:(h:Int)<(z:Int):=by omega
   have hz2:(a:Int)<(z:Int):=by omega
   have HCLS:=hideO (fun n' os'=>sortWorldK_grown_c encI 1 w blk 0 n n' d os os');rw[<-hwr]at HCLS;clear hr hx hy hwr hh x0c x0f y0c y0f hHj hbw
   cases hcb:clI T x y with
   |true =>
    rw[hcb]at hneg;have hlv:r<0:=of_decide_eq_true hneg
    have HL2:Hid (lx (clI T) (f h) (f a)):=by
     unfold Hid;rw[<-HXY.o.1,<-HXY.o.2];exact lx_yes hcb
    clear hneg;(go_wp2_with fail)
    go_quiet_grown (first|(go_at_call 234;refine Calls.grown_of (HCM.o _ (gc _ _))))
    have HW2:Hid (grow (wr.drewN nq) osq=sortWorldK encI 1 w blk 0 (n+nq) d (os++osq)):=HCLS.o nq osq;dsimp only;clear g0 g2 gc;(go_wp2_with fail)
    go_roundw
    case rel=>exact⟨h+1,j,n+nq,os++osq,by go_num,rfl,by omega,by omega,hjb,fun _=>HL2.o,HHI.o,HW2.o⟩
    case measure=>simp[intOf];omega
   |false =>
    rw[hcb]at hneg;have hlv:¬r<0:=of_decide_eq_false hneg
    have HL2:Hid (lx (clI T) (f a) (f h)):=by
     unfold Hid;have hpl:=HSP.o a h nl ham (by omega) (by omega);rw[<-HXY.o.1,<-HXY.o.2]at hpl ⊢;exact lx_no hcb hpl
    clear hneg;(go_wp2_with fail)
    go_quiet_grown (first|(go_at_call 234;refine Calls.grown_of (HCM.o _ (gc _ _))))
    have HW2:Hid (grow (wr.drewN nq) osq=sortWorldK encI 1 w blk 0 (n+nq) d (os++osq)):=HCLS.o nq osq;dsimp only;clear g0 g2 gc;(go_wp2_with fail)
    go_roundw
    case rel=>exact⟨i,h,n+nq,os++osq,rfl,rfl,hmi,by omega,by omega,HLO.o,fun _=>HL2.o,HW2.o⟩
    case measure=>simp[intOf];omega
  ·obtain rfl:i=j:=by omega
   have HRR:Hid (Ris (clI T) a b (rotF a m i f)):=by
    unfold Hid;have hmm:=HM.o;rw[hmm]at HR2 ⊢
    exact up_ris (clI_weak T) HR2.o (by omega) (by omega)
     (fun k h1 h2=>HR2.o.le h1 (show k<=i-1 by omega) (by omega) (clI_weak T) (HLO.o (by omega)))
     (fun k h1 h2=>HR2.o.ge (by omega) h1 h2 (clI_weak T) (HHI.o (by omega)))
   have HPP:Hid (PermF a b f (rotF a m i f)):=(rot_perm f (by omega) (by omega)).mono nl (by omega) hjb;clear hwr
   go_wp2_with fail
   go_loopw [13] (fun u wr2=>∃ (k n:Nat) (dk:Array Nat) (os:Array Obj),u=.int .i64 k/\a<=k/\k+1<=i/\dk.size=z/\dF dk=rotF a m (k+1) f/\wr2=sortWorldK encI 1 w blk 0 n dk os) (fun u _=>i-(intOf u).toNat)
   case atStart=>exact⟨a,n,d,os,rfl,nl,by omega,HZ.o.symm,by rw[HM.o,rot_up0];exact HFD.o.symm,HW.o⟩
   case round =>
    obtain⟨k,n2,dk,os2,rfl,hak,hki,hsk,hfk,hwr⟩:=hrel;have HSK:=hideO hsk;have HFK:=hideO hfk;obtain⟨ip,hip⟩:∃ ip,i=ip+1:=⟨i-1,by omega⟩;have eip:(i:Int)-1=(ip:Int):=(by omega);have hipw:IntKind.i64.wrap (ip:Int)=(ip:Int):=(by rw[IntKind.wrap_i64];omega);have HIP:=hideO hip;by_cases hlt2:k+1<i
    ·obtain⟨q,hq⟩:∃ q,q=k+1:=⟨_,rfl⟩
     have eq1:(k:Int)+1=(q:Int):=by omega
     have hH2:HoldsK encI 1 wr blk 0 dk:=by rw[hwr];exact world_holds HH.o hblk n2 dk os2 (hsk.trans HZ.o)
     obtain⟨x0c,x0f⟩:=cells_I hH2 (i:=k) (by omega);obtain⟨y0c,y0f⟩:=cells_I hH2 (i:=q) (by omega);obtain⟨x,hx⟩:∃ x,x=dk[k]!:=⟨_,rfl⟩;obtain⟨y,hy⟩:∃ y,y=dk[q]!:=⟨_,rfl⟩;have hsw:=sortWorldK_swp_c encI 1 w blk 0 encI_len n2 dk os2 hblk k q (by omega) (by omega);rw[<-hx,<-hy,<-hwr,Nat.zero_add,Nat.zero_add,Nat.mul_one,Nat.mul_one]at hsw;rw[<-hx]at x0c;rw[<-hy]at y0c;have HSW:=hideO hsw;have hkz:(k:Int)<(z:Int):=(by omega);have hqz:(q:Int)<(z:Int):=(by omega);have hqw:IntKind.i64.wrap (q:Int)=(q:Int):=(by rw[IntKind.wrap_i64];omega);have hkip:(k:Int)<(ip:Int):=(by omega);have hkq:k<q:=(by omega);have HQ:=hideO hq
     have HROT:Hid (So.swp (rotF a m (k+1) f) k q=rotF a m (k+2) f):=by
      unfold Hid;rw[HM.o,hq];exact rot_up a k f hak
     clear hwr hH2 hx hy hsw hsk hfk hip hq;(go_wp2_with fail)
     go_region
     all_goals (try go_wp2_with fail)
     all_goals go_roundw
     case rel =>
      refine⟨q,n2+1,Go.Sort.swp dk k q,os2,rfl,by omega,by have:=HQ.o;omega,by rw[Go.Sort.size_swp];exact HSK.o,?_,HSW.o⟩;rw[dF_swp dk k q (by have:=HSK.o;have:=HQ.o;omega) (by have:=HSK.o;have:=HQ.o;omega),HFK.o,HROT.o,HQ.o]
     case measure=>have:=HQ.o;simp[intOf];omega
    ·have hkip:¬(k:Int)<(ip:Int):=by omega
     have HWW:=hideO hwr
     have HE:Hid (dF dk=rotF a m i f):=by
      unfold Hid;rw[hfk,show k+1=i by omega]
     clear hwr hsk hfk hip;(go_wp2_with fail);refine bodyPost_ret (v:=.tuple #[]) (by simp[results,results241,go_sem]) rfl ⟨rfl,n2,dk,⟨os2,HWW.o⟩,HSK.o,by rw[HE.o];exact HPP.o,by rw[HE.o];exact HRR.o⟩
end So
namespace So
open Go.RowKit Go.Sort Go.Proofs
theorem merge_I (T:ByteArray) (cc:Nat) (blk cap:Nat) (hcb0:cc≠blk):∀ (N a m b:Nat) (d:Array Nat) (w:World),b-a<=N->HoldsK encI 1 w blk 0 d->blk<w.heap.size->a<m->m<b->b<=d.size->d.size<=1048576->Cap w cc T->(∀ i,dF d i<T.size)->Ris (clI T) a m (dF d)->Ris (clI T) m b (dF d)->Sep a m b (dF d) ->
  Calls prog 241 #[.slice (some ⟨blk,0,none⟩) d.size cap,.int .i64 a,.int .i64 m,.int .i64 b,.func (.func 234) #[] #[.pointer (some ⟨cc,0,none⟩)]] w fun e w' =>
   e=.returned (.tuple #[])/\∃ n d' os,w'=sortWorldK encI 1 w blk 0 n d' os/\d'.size=d.size/\PermF a b (dF d) (dF d')/\Ris (clI T) a b (dF d'):=by
 intro N
 induction N with
 |zero=>intro a m b d w hN _ _ ham hmb;omega
 |succ N ih =>
  intro a m b d w hN hH hblk ham hmb hb hsz hcap hbd hr1 hr2 hsep;by_cases hA:m=a+1
  ·subst hA
   exact mergeA_I T cc blk cap a b d w hH hblk hmb hb hsz hcap hcb0 hbd hr2 hsep
  ·by_cases hB:b=m+1
   ·subst hB
    exact mergeB_I T cc blk cap a m d w hH hblk (by omega) hb hsz hcap hcb0 hbd hr1 hsep
   ·exact mergeC_I T cc blk cap a m b d w hH hblk (by omega) (by omega) hb hsz hcap hcb0 hbd hr1 hr2 hsep (fun a' m' b' d' W h1=>ih a' m' b' d' W (by omega))
end So
namespace So
open Go.RowKit Go.Sort Go.Proofs
theorem stable_I (T:ByteArray) (cc:Nat) (blk cap:Nat) (d:Array Nat) (w:World) (hH:HoldsK encI 1 w blk 0 d) (hblk:blk<w.heap.size) (hsz:d.size<=1048576) (hcap:Cap w cc T) (hcb0:cc≠blk) (hbd:∀ i,dF d i<T.size) (hid:∀ i,i<d.size->dF d i=i) :
  Calls prog 237 #[.slice (some ⟨blk,0,none⟩) d.size cap,.int .i64 d.size,.func (.func 234) #[] #[.pointer (some ⟨cc,0,none⟩)]] w fun e w' =>
   e=.returned (.tuple #[])/\∃ n d' os,w'=sortWorldK encI 1 w blk 0 n d' os/\d'.size=d.size/\PermF 0 d.size (dF d) (dF d')/\Ris (clI T) 0 d.size (dF d'):=by
 have HST:=hideO (world_self hH);have HH:=hideO hH;have HCP:Hid (∀ (m:Nat) (dk:Array Nat) (os:Array Obj),Cap (sortWorldK encI 1 w blk 0 m dk os) cc T):=fun m dk os=>hcap.block (world_block m dk os hcap.lt hcb0);have HBD:=hideO hbd;have HCB:=hideO hcb0;clear hcap hcb0 hbd;clear hH;obtain⟨z,hz⟩:∃ z,z=d.size:=⟨_,rfl⟩;have HZ:=hideO hz;rw[<-hz]at hsz hid ⊢;clear hz;obtain⟨f0,hf⟩:∃ f0,f0=dF d:=⟨_,rfl⟩;have HFD:=hideO hf
 have HBF:Hid (∀ i,f0 i<T.size):=by
  unfold Hid;rw[hf];exact HBD.o
 rw[<-hf]at hid ⊢;have HID:=hideO hid;clear hf hid
 have HIN:=hideO (fun (n:Nat) (dk:Array Nat) (os:Array Obj) (hs:dk.size=z) (hbk:∀ i,dF dk i<T.size) (a b:Nat) (h1:a<=b) (h2:b<=z) (hr:∀ i j,a<=i->i<j->j<b->dF dk i<dF dk j) =>
  insertion_I T cc blk cap a b dk (sortWorldK encI 1 w blk 0 n dk os) (world_holds HH.o hblk n dk os (hs.trans HZ.o)) (Nat.lt_of_lt_of_le hblk (world_size n dk os)) h1 (by rw[hs];exact h2) (by rw[hs];exact hsz) (HCP.o n dk os) HCB.o hbk hr)
 have HMG:=hideO (fun (n:Nat) (dk:Array Nat) (os:Array Obj) (hs:dk.size=z) (hbk:∀ i,dF dk i<T.size) (a m b:Nat) (h1:a<m) (h2:m<b) (h3:b<=z) (c1:Ch (clI T) a m (dF dk)) (c2:Ch (clI T) m b (dF dk)) =>
  merge_I T cc blk cap HCB.o (b-a) a m b dk (sortWorldK encI 1 w blk 0 n dk os) nl (world_holds HH.o hblk n dk os (hs.trans HZ.o)) (Nat.lt_of_lt_of_le hblk (world_size n dk os)) h1 h2 (by rw[hs];exact h3) (by rw[hs];exact hsz) (HCP.o n dk os) hbk c1.1 c2.1 (c1.sep c2))
 have HWW:=hideO (fun (n n':Nat) (dk d':Array Nat) (os os':Array Obj) (hs:d'.size=dk.size)=>world_world (enc:=encI) (k:=1) (w:=w) (blk:=blk) (off:=0) n n' dk d' os os' hblk hs);go_enter func237,ntmps237
 go_wp2_with fail
 go_loopw [7,8] (fun u v wr=>∃ (k n:Nat) (dk:Array Nat) (os:Array Obj),u=.int .i64 (20*k:Nat)/\v=.int .i64 (20*k+20:Nat)/\20*k<=z/\dk.size=z/\Chs (clI T) 20 z 0 (20*k) (dF dk)/\(∀ i,20*k<=i->i<z->dF dk i=i)/\PermF 0 z f0 (dF dk)/\wr=sortWorldK encI 1 w blk 0 n dk os) (fun u _ _=>z-(intOf u).toNat)
 case atStart=>exact⟨0,0,d,#[],rfl,rfl,by omega,HZ.o.symm,Chs.none,fun i _ h=>by rw[<-HFD.o];exact HID.o i h,by rw[<-HFD.o];exact PermF.refl _ _ _,HST.o⟩
 case round =>
  obtain⟨k,n,dk,os,rfl,rfl,hkz,hsk,hch,hidk,hpm,hwr⟩:=hrel;have HSK:=hideO hsk;have HCH:=hideO hch;have HIK:=hideO hidk;have HPM:=hideO hpm;have HW:=hideO hwr;obtain⟨a,ha⟩:∃ a,a=20*k:=⟨_,rfl⟩;obtain⟨b,hb⟩:∃ b,b=20*k+20:=⟨_,rfl⟩;have HAB:Hid (a=20*k/\b=20*k+20):=⟨ha,hb⟩
  have hab:a<b:=by omega
  rw[<-ha]at hkz;rw[<-hb,<-ha];clear hsk hch hidk hpm ha hb;by_cases hlt:b<=z
  ·have HC:=hideO (HIN.o n dk os HSK.o (HPM.o.bd HBF.o) a b (by omega) hlt (fun i j h1 h2 h3=>by have:=HAB.o;rw[HIK.o i (by omega) (by omega),HIK.o j (by omega) (by omega)];exact h2))
   rw[<-hwr,HSK.o]at HC
   have hlt':(b:Int)<=(z:Int):=by omega
   clear hwr
   go_wp2_with fail
   refine HC.o.mono ?_;rintro er w1 ⟨rfl,n1,d1,os1,hw1,hs1,hp1,hr1⟩
   have HW1:Hid (w1=sortWorldK encI 1 w blk 0 (n+n1) d1 (os++os1)):=by
    unfold Hid;rw[hw1,HW.o];exact HWW.o n n1 dk d1 os os1 (hs1.trans HSK.o.symm)
   have HS1:=hideO hs1;have HP1:=hideO hp1;have HR1:=hideO hr1;obtain⟨b4,hb4⟩:∃ b4,b4=b+20:=⟨_,rfl⟩
   have e3:(b:Int)+20=(b4:Int):=by omega
   have HB4:=hideO hb4;clear hb4;clear hw1 hs1 hp1 hr1 HC
   go_wp2_with fail
   go_roundw
   case rel =>
    have hr:=HAB.o;refine⟨k+1,n+n1,d1,os++os1,by rw[hr.2];rfl,by rw[HB4.o,hr.2];rfl,by omega,HS1.o,?_,fun i h1 h2=>?_,HPM.o.trans (HP1.o.mono (Nat.zero_le _) (by omega) (by omega)),HW1.o⟩
    ·have hc:Ch (clI T) (20*k) (20*k+20) (dF d1):=by
      rw[<-hr.2,<-hr.1];exact Ch.start (fun i h1 h2=>HIK.o i (by omega) (by omega)) HP1.o HR1.o
     have:=HCH.o.more (g:=dF d1) (by omega) (fun i hi=>HP1.o.2 i (Or.inl (by omega))) hc
     rw[Nat.mul_succ];exact this
    ·rw[HP1.o.2 i (Or.inr (by omega))]
     exact HIK.o i (by omega) h2
   case measure=>have:=HAB.o;simp[intOf];omega
  ·have hlt':¬(b:Int)<=(z:Int):=by omega
   have HC:=hideO (HIN.o n dk os HSK.o (HPM.o.bd HBF.o) a z (by omega) nl (fun i j h1 h2 h3=>by have:=HAB.o;rw[HIK.o i (by omega) (by omega),HIK.o j (by omega) (by omega)];exact h2));rw[<-hwr,HSK.o]at HC;clear hwr
   go_wp2_with fail
   refine HC.o.mono ?_;rintro er w1 ⟨rfl,n1,d1,os1,hw1,hs1,hp1,hr1⟩
   have HW1:Hid (w1=sortWorldK encI 1 w blk 0 (n+n1) d1 (os++os1)):=by
    unfold Hid;rw[hw1,HW.o];exact HWW.o n n1 dk d1 os os1 (hs1.trans HSK.o.symm)
   have HCA:Hid (Chs (clI T) 20 z 0 z (dF d1)):=by
    have hr:=HAB.o;refine HCH.o.last (by omega) (fun i hi=>hp1.2 i (Or.inl (by omega))) ?_;rw[<-hr.1];exact Ch.start (fun i h1 h2=>HIK.o i (by omega) h2) hp1 hr1
   have HPA:=hideO (HPM.o.trans (hp1.mono (Nat.zero_le _) hkz nl));have HS1:=hideO hs1;clear hw1 hs1 hp1 hr1 HC
   go_wp2_with fail
   go_loopw [6] (fun u wr=>∃ (bs n:Nat) (dk:Array Nat) (os:Array Obj),u=.int .i64 bs/\0<bs/\bs<=2*z+20/\dk.size=z/\Chs (clI T) bs z 0 z (dF dk)/\PermF 0 z f0 (dF dk)/\wr=sortWorldK encI 1 w blk 0 n dk os) (fun u _=>z-(intOf u).toNat)
   case atStart=>exact⟨20,n+n1,d1,os++os1,rfl,by omega,by omega,HS1.o,HCA.o,HPA.o,HW1.o⟩
   case round =>
    obtain⟨bs,n2,d2,os2,rfl,hbs0,hbsz,hs2,hch2,hpm2,hwr2⟩:=hrel;have HS2:=hideO hs2;have HC2:=hideO hch2;have HP2:=hideO hpm2;have HW2:=hideO hwr2;clear hs2 hch2 hpm2 hwr2;by_cases hlz:bs<z
    ·have hlz':(bs:Int)<(z:Int):=by omega
     obtain⟨b2,hb2⟩:∃ b2,b2=2*bs:=⟨_,rfl⟩;have eb2:2*(bs:Int)=(b2:Int):=(by omega);have eb2':(bs:Int)*2=(b2:Int):=(by omega);have HB2:=hideO hb2;clear hb2;(go_wp2_with fail)
     go_loopw [7,8] (fun u v wr=>∃ (k n:Nat) (dk:Array Nat) (os:Array Obj),u=.int .i64 (b2*k:Nat)/\v=.int .i64 (b2*k+b2:Nat)/\b2*k<=z/\dk.size=z/\Chs (clI T) b2 z 0 (b2*k) (dF dk)/\Chs (clI T) bs z (b2*k) z (dF dk)/\PermF 0 z f0 (dF dk)/\wr=sortWorldK encI 1 w blk 0 n dk os) (fun u _ _=>z-(intOf u).toNat)
     case atStart=>exact⟨0,n2,d2,os2,by simp,by simp,by omega,HS2.o,by rw[Nat.mul_zero];exact Chs.none,by rw[Nat.mul_zero];exact HC2.o,HP2.o,HW2.o⟩
     case round =>
      obtain⟨k,n3,d3,os3,rfl,rfl,hkz3,hs3,hch3,hcr3,hpm3,hwr3⟩:=hrel;have HS3:=hideO hs3;have HC3:=hideO hch3;have HD3:=hideO hcr3;have HP3:=hideO hpm3;have HW3:=hideO hwr3;obtain⟨a3,ha3⟩:∃ a3,a3=b2*k:=⟨_,rfl⟩;obtain⟨e3,he3⟩:∃ e3,e3=b2*k+b2:=⟨_,rfl⟩;obtain⟨m3,hm3⟩:∃ m3,m3=b2*k+bs:=⟨_,rfl⟩
      have HAE:Hid (a3=b2*k/\e3=a3+b2/\m3=a3+bs/\b2=2*bs/\a3=bs*(2*k)):=by
       refine⟨ha3,by omega,by omega,HB2.o,?_⟩;rw[ha3,HB2.o,Nat.mul_comm 2 bs,Nat.mul_assoc]
      have em3:(a3:Int)+(bs:Int)=(m3:Int):=by omega
      rw[<-ha3]at hkz3 HC3 HD3;rw[<-he3,<-ha3];have hal:=HAE.o;have hm3z:m3<=z+bs:=(by omega);have he3z:e3<=z+b2:=(by omega);have hb2z:b2<=2*z:=(by omega);clear hs3 hch3 hcr3 hpm3 ha3 he3 hm3;by_cases hle:e3<=z
      ·have hle':(e3:Int)<=(z:Int):=by omega
       have c1:Ch (clI T) a3 m3 (dF d3):=by
        have:=HD3.o.at0 hal.2.2.2.2 (by omega)
        rwa[Nat.min_eq_left (by omega),<-hal.2.2.1]at this
       have c2:Ch (clI T) m3 e3 (dF d3):=by
        have:=HD3.o.at1 hal.2.2.2.2 (by omega)
        rwa[Nat.min_eq_left (by omega),<-hal.2.2.1,show m3+bs=e3 by omega]at this
       have HC:=hideO (HMG.o n3 d3 os3 HS3.o (HP3.o.bd HBF.o) a3 m3 e3 (by omega) (by omega) hle c1 c2);rw[<-hwr3,HS3.o]at HC;have HCC:Hid (Ch (clI T) a3 m3 (dF d3)/\Ch (clI T) m3 e3 (dF d3)):=⟨c1,c2⟩;obtain⟨e4,he4⟩:∃ e4,e4=e3+b2:=⟨_,rfl⟩;have ee4:(e3:Int)+(b2:Int)=(e4:Int):=(by omega);have HE4:=hideO he4;clear hwr3 c1 c2 hal he4;(go_wp2_with fail);refine HC.o.mono ?_;rintro er w4 ⟨rfl,n4,d4,os4,hw4,hs4,hp4,hr4⟩
       have HW4:Hid (w4=sortWorldK encI 1 w blk 0 (n3+n4) d4 (os3++os4)):=by
        unfold Hid;rw[hw4,HW3.o];exact HWW.o n3 n4 d3 d4 os3 os4 (hs4.trans HS3.o.symm)
       have HS4:=hideO hs4;have HP4:=hideO hp4;have HR4:=hideO hr4;clear hw4 hs4 hp4 hr4 HC;(go_wp2_with fail)
       go_roundw
       case rel =>
        have hal:=HAE.o;have hk1:b2*(k+1)=e3:=(by rw[Nat.mul_succ];omega);refine⟨k+1,n3+n4,d4,os3++os4,by rw[hk1],by rw[hk1,<-HE4.o],by omega,HS4.o,?_,?_,HP3.o.trans (HP4.o.mono (Nat.zero_le _) (by omega) hle),HW4.o⟩
        ·rw[hk1]
         have:=HC3.o
         rw[hal.1]at this
         have q:=this.more (g:=dF d4) (by omega) (fun i hi=>HP4.o.2 i (Or.inl (by omega))) (by
          rw[<-hal.1,<-hal.2.1]
          exact HCC.o.1.merge HCC.o.2 (by omega) (by omega) HP4.o HR4.o)
         rw[<-hal.1,<-hal.2.1]at q;exact q
        ·rw[hk1]
         exact HD3.o.rest (by omega) (fun i h1 h2=>HP4.o.2 i (Or.inr h1))
       case measure=>have:=HAE.o;simp[intOf];omega
      ·have hle':¬(e3:Int)<=(z:Int):=by omega
       by_cases hmz:m3<z
       ·have hmz':(m3:Int)<(z:Int):=by omega
        have c1:Ch (clI T) a3 m3 (dF d3):=by
         have:=HD3.o.at0 hal.2.2.2.2 (by omega)
         rwa[Nat.min_eq_left (by omega),<-hal.2.2.1]at this
        have c2:Ch (clI T) m3 z (dF d3):=by
         have:=HD3.o.at1 hal.2.2.2.2 (by omega)
         rwa[Nat.min_eq_right (by omega),<-hal.2.2.1]at this
        have HC:=hideO (HMG.o n3 d3 os3 HS3.o (HP3.o.bd HBF.o) a3 m3 z (by omega) hmz nl c1 c2);rw[<-hwr3,HS3.o]at HC;have HCC:Hid (Ch (clI T) a3 m3 (dF d3)/\Ch (clI T) m3 z (dF d3)):=⟨c1,c2⟩;clear hwr3 c1 c2 hal;(go_wp2_with fail);refine HC.o.mono ?_;rintro er w4 ⟨rfl,n4,d4,os4,hw4,hs4,hp4,hr4⟩
        have HW4:Hid (w4=sortWorldK encI 1 w blk 0 (n3+n4) d4 (os3++os4)):=by
         unfold Hid;rw[hw4,HW3.o];exact HWW.o n3 n4 d3 d4 os3 os4 (hs4.trans HS3.o.symm)
        have HS4:=hideO hs4;have HP4:=hideO hp4;have HR4:=hideO hr4;clear hw4 hs4 hp4 hr4 HC;(go_wp2_with fail)
        go_roundw
        case rel =>
         have hal:=HAE.o;refine⟨b2,n3+n4,d4,os3++os4,rfl,by omega,by omega,HS4.o,?_,HP3.o.trans (HP4.o.mono (Nat.zero_le _) (by omega) nl),HW4.o⟩
         have:=HC3.o
         rw[hal.1]at this;refine this.last (by omega) (fun i hi=>HP4.o.2 i (Or.inl (by omega))) ?_;rw[<-hal.1];exact HCC.o.1.merge HCC.o.2 (by omega) (by omega) HP4.o HR4.o
        case measure=>have:=HAE.o;simp[intOf];omega
       ·have hmz':¬(m3:Int)<(z:Int):=by omega
        clear hwr3 hal;(go_wp2_with fail)
        go_roundw
        case rel =>
         have hal:=HAE.o;refine⟨b2,n3,d3,os3,rfl,by omega,by omega,HS3.o,?_,HP3.o,HW3.o⟩
         rcases Nat.eq_or_lt_of_le hkz3 with q|q
         ·rw[<-q]
          rw[q]
          have:=HC3.o
          rw[q]at this;exact this
         ·have:=HC3.o
          rw[hal.1]at this;refine this.last (by omega) (fun i hi=>rfl) ?_;rw[<-hal.1];have c1:=HD3.o.at0 hal.2.2.2.2 q
          rwa[Nat.min_eq_right (by omega)]at c1
        case measure=>have:=HAE.o;simp[intOf];omega
    ·have hlz':¬(bs:Int)<(z:Int):=by omega
     have HF:=hideO (HC2.o.whole (by omega));(go_wp2_with fail);refine bodyPost_end (v:=.tuple #[]) (by simp[results,results237,go_sem]) rfl ⟨rfl,n2,d2,⟨os2,HW2.o⟩,HS2.o,HP2.o,HF.o⟩
end So
namespace So
open Go.RowKit Go.Sort Go.Proofs
open Sh (bt bt_get bt_lt IsB)
theorem sortStable_I (T:ByteArray) (cc blk cap:Nat) (d:Array Nat) (w:World) (hH:HoldsK encI 1 w blk 0 d) (hblk:blk<w.heap.size) (hsz:d.size<=1048576) (hcap:Cap w cc T) (hcb0:cc≠blk) (hbd:∀ i,dF d i<T.size) (hid:∀ i,i<d.size->dF d i=i) :
  Calls prog 233 #[.slice (some ⟨blk,0,none⟩) d.size cap,.func (.func 234) #[] #[.pointer (some ⟨cc,0,none⟩)]] w fun e w' =>
   e=.returned (.tuple #[])/\∃ n d' os,w'=sortWorldK encI 1 w blk 0 n d' os/\d'.size=d.size/\PermF 0 d.size (dF d) (dF d')/\Ris (clI T) 0 d.size (dF d'):=by
 have HS:=hideO (stable_I T cc blk cap d w hH hblk hsz hcap hcb0 hbd hid);clear hH hid hcap hbd;generalize d.size=z at HS hsz ⊢;go_enter func233,ntmps233
 go_wp2_with fail
 refine HS.o.mono ?_;rintro e w' ⟨rfl,n,d',os,hw,hs,hp,hr⟩;have HX:Hid (∃ n d' os,w'=sortWorldK encI 1 w blk 0 n d' os/\d'.size=z/\PermF 0 z (dF d) (dF d')/\Ris (clI T) 0 z (dF d')):=⟨n,d',os,hw,hs,hp,hr⟩;clear hw hs hp hr
 go_wp2_with fail
 refine bodyPost_end (v:=.tuple #[]) (by simp[results,results233,go_sem]) rfl ⟨rfl,HX.o⟩
theorem holds_isB {w:World} {g n:Nat} {f:Nat->Nat} {e:TypeId} (h:IsB w g e .i64 n (fun j=>((f j:Nat):Int))):HoldsK encI 1 w g 0 ((List.range n).map f).toArray:=by
 intro j hj;rw[size_flatK]at hj
 have hj':j<n:=by simpa using hj
 rw[get_flatK _ _ _ _ hj,Nat.zero_add];refine⟨?_,h.frozen j⟩;rw[h.cell hj'];simp[encI,hj',Nat.mod_one]
def iotaF (k:Nat):Nat->Nat:=fun j=>if j<k then j else 0
theorem iotaF_next (k j:Nat):Sh.upd (fun j=>((iotaF k j:Nat):Int)) k (k:Nat) j=((iotaF (k+1) j:Nat):Int):=by
 unfold Sh.upd iotaF;by_cases e:j=k
 ·subst e
  rw[if_pos rfl,if_pos (by omega)]
 ·rw[if_neg e]
  by_cases h:j<k
  ·have h':j<k+1:=by omega
   simp only[h,h',if_true]
  ·have h':¬j<k+1:=by omega
   simp only[h,h',if_false]
theorem Tryz.infoI3:(prog.info? 3).map (fun i=>(i.zero,i.size,i.bytes))=some (some (.int .i64 0),1,8):=by kernel_rfl
theorem insertion_0 (blk cap:Nat) (cv:Value) (w:World) :
  Calls prog 240 #[.slice (some ⟨blk,0,none⟩) 0 cap,.int .i64 0,.int .i64 0,cv] w fun e w'=>e=.returned (.tuple #[])/\w'=w:=by
 go_enter func240,ntmps240
 go_wp2_with fail
 go_loopw [8] (fun i wr=>i=.int .i64 1/\wr=w) (fun _ _=>0)
 case atStart=>exact⟨rfl,rfl⟩
 case round =>
  obtain⟨rfl,rfl⟩:=hrel
  go_wp2_with fail
  refine bodyPost_end (v:=.tuple #[]) (by simp[results,results240,go_sem]) rfl ⟨rfl,rfl⟩
theorem stable_0 (blk cap:Nat) (cv:Value) (w:World) :
  Calls prog 237 #[.slice (some ⟨blk,0,none⟩) 0 cap,.int .i64 0,cv] w fun e w'=>e=.returned (.tuple #[])/\w'=w:=by
 have HI:=hideO (insertion_0 blk cap cv w);go_enter func237,ntmps237
 go_wp2_with fail
 go_loopw [7,8] (fun u v wr=>u=.int .i64 0/\v=.int .i64 20/\wr=w) (fun _ _ _=>0)
 case atStart=>exact⟨rfl,rfl,rfl⟩
 case round =>
  obtain⟨rfl,rfl,rfl⟩:=hrel
  go_wp2_with fail
  refine HI.o.mono ?_;rintro e w' ⟨rfl,hw⟩;subst w'
  go_wp2_with fail
  go_loopw [6] (fun u wr2=>u=.int .i64 20/\wr2=wr) (fun _ _=>0)
  case atStart=>exact⟨rfl,rfl⟩
  case round =>
   obtain⟨rfl,hw⟩:=hrel;subst hw
   go_wp2_with fail
   refine bodyPost_end (v:=.tuple #[]) (by simp[results,results237,go_sem]) rfl ⟨rfl,rfl⟩
theorem sortStable_0 (blk cap:Nat) (cv:Value) (w:World) :
  Calls prog 233 #[.slice (some ⟨blk,0,none⟩) 0 cap,cv] w fun e w'=>e=.returned (.tuple #[])/\w'=w:=by
 have HS:=hideO (stable_0 blk cap cv w);go_enter func233,ntmps233
 go_wp2_with fail
 refine HS.o.mono ?_;rintro e w' ⟨rfl,hw⟩;subst w'
 go_wp2_with fail
 refine bodyPost_end (v:=.tuple #[]) (by simp[results,results233,go_sem]) rfl ⟨rfl,rfl⟩
theorem sort_all (t:ByteArray) (cc blk:Nat) (w:World) (hn:t.size<=1048576) (hB:IsB w blk 3 .i64 t.size (fun j=>((iotaF t.size j:Nat):Int))) (hcap:Cap w cc t) (hcb:cc<blk) :
  Calls prog 233 #[.slice (some ⟨blk,0,none⟩) t.size t.size,.func (.func 234) #[] #[.pointer (some ⟨cc,0,none⟩)]] w fun e w' =>
   e=.returned (.tuple #[])/\blk<w'.heap.size/\(∀ j,j<t.size->w'.cell? ⟨blk,j,none⟩=some (.int .i64 (plF t j:Nat)))/\Below blk w w':=by
 by_cases h0:t.size=0
 ·rw[h0]
  refine(sortStable_0 blk 0 _ w).mono ?_;rintro e w' ⟨rfl,rfl⟩;exact⟨rfl,hB.lt,fun j hj=>absurd hj (Nat.not_lt_zero _),Below.refl _ _⟩
 ·have hH:=holds_isB hB
  have hds:((List.range t.size).map (iotaF t.size)).toArray.size=t.size:=by simp
  have hdf:∀ i,i<t.size->dF ((List.range t.size).map (iotaF t.size)).toArray i=i:=fun i hi=>by
   simp[dF,hi,iotaF]
  have hbd:∀ i,dF ((List.range t.size).map (iotaF t.size)).toArray i<t.size:=fun i=>by
   by_cases hi:i<t.size
   ·rw[hdf i hi];exact hi
   ·rw[dF_out _ _ (by rw[hds];omega)];omega
  have:=sortStable_I t cc blk t.size _ w hH hB.lt (by rw[hds];exact hn) hcap (by omega) hbd (fun i hi=>hdf i (by rw[hds]at hi;exact hi))
  rw[hds]at this;refine this.mono ?_;rintro e w' ⟨rfl,n,d',os,rfl,hs,hp,hr⟩;refine⟨rfl,Nat.lt_of_lt_of_le hB.lt (world_size n d' os),fun j hj=>?_,world_below n d' os nl (Nat.le_of_lt hB.lt)⟩;have hH':=world_holds hH hB.lt n d' os (hs.trans hds.symm);have hc:=(cells_I hH' (i:=j) (by rw[hs];exact hj)).1;rw[hc]
  have hseg:(seg (dF d') 0 t.size).Perm (List.range t.size):=by
   have h1:=hp.1
   have e:seg (dF ((List.range t.size).map (iotaF t.size)).toArray) 0 t.size=List.range t.size:=by
    unfold seg;rw[Nat.sub_zero]
    apply List.ext_getElem
    ·simp
    ·intro i h1 h2
     have h3:i<t.size:=by simpa using h2
     simp only[List.getElem_map,List.getElem_range];rw[show (List.range' 0 t.size)[i]'(by simpa using h3)=i by simp];exact hdf i h3
   rw[e]at h1;exact h1
  have:=plF_seg hseg hr j hj
  rw[<-this];rfl
theorem places_impl (t:ByteArray) (w:World) (hn:t.size<=1048576) :
  Calls prog 229 #[.string t] w fun e w'=>∃ g,e=.returned (.slice (some ⟨g,0,none⟩) t.size t.size)/\w.heap.size<=g/\g<w'.heap.size/\(∀ j,j<t.size->w'.cell? ⟨g,j,none⟩=some (.int .i64 (plF t j:Nat)))/\Below w.heap.size w w':=by
 obtain⟨i0,hi0,hz0,hz1,hz2⟩:=info_parts Tryz.infoI3;obtain⟨w0,hw0⟩:∃ w0,w0=w.alloc (.cells #[.string t] 9):=⟨_,rfl⟩
 have z0:w0.heap.size=w.heap.size+1:=by rw[hw0];simp
 have HC0:Hid (Cap w0 w.heap.size t):=by unfold Hid Cap;rw[hw0,cell_of_row _ w.heap.size 0 _ _ (0,0) (heap_alloc_last w _)];rfl
 have HB0:Hid (Below w.heap.size w w0):=by unfold Hid;rw[hw0];exact(Below.refl _ _).alloc nl _
 go_enter func229,ntmps229
 go_wp2_with (at_make;rw[<-hw0];refine wpList_make_full _ rfl (.tmp 6) (.tmp 6) 210 rfl w0.heap.size 3 i0 (.int .i64 0) 1 underlying210 hi0 hz0 hz1 .i64 .i64 _ _ t.size rfl rfl (by simp) (by simp) (by rw[hz2];omega) (by unfold maxLen;omega) nl ?_;intro w1 hown1 hgrow1;have HT1:=hideO (Sh.made_rowK hown1);have hb1:=(Below.refl w0.heap.size w0).grown hgrow1 nl (by simp);have HC1:Hid (Cap w1 w.heap.size t):=HC0.o.block (hb1.block w.heap.size (by omega));have HB1:=hideO (HB0.o.trans (hb1.mono (by omega)));have zz1:=HT1.o.lt;clear hown1 hgrow1 hb1)
 go_loopw [10] (fun i wr=>∃ k:Nat,i=.int .i64 k/\k<=t.size/\IsB wr (w.heap.size+1) 3 .i64 t.size (fun j=>((iotaF k j:Nat):Int))/\Cap wr w.heap.size t/\Below w.heap.size w wr) (fun i _=>t.size-(intOf i).toNat)
 case atStart=>exact⟨0,rfl,Nat.zero_le _,by rw[<-z0];exact HT1.o.congr (fun j _=>by simp[iotaF]),HC1.o,HB1.o⟩
 case round =>
  obtain⟨k,rfl,hk,hrow,hcap,hbel⟩:=hrel;have T1:=hideO hrow;have C1:=hideO hcap;have GB:=hideO hbel;clear hbel hcap;by_cases hlt:k<t.size
  ·have c2:=hrow.cell (j:=k) hlt
   have f2:=hrow.frozen k
   have hkz:(k:Int)<(t.size:Int):=by omega
   have TS:=hideO ((hrow.set k (k:Nat)).congr (fun j _=>iotaF_next k j));have CS:Hid (Cap (wr.setCell ⟨w.heap.size+1,k,none⟩ (.int .i64 (k:Nat))) w.heap.size t):=C1.o.block (heap_setCell_other _ _ _ _ (by simp));have BS:=hideO (GB.o.setCell (p:=⟨w.heap.size+1,k,none⟩) (by simp) (.int .i64 (k:Nat)));clear hrow
   go_wp2_with fail
   go_roundw
   case rel=>exact⟨k+1,by go_num,by omega,TS.o,CS.o,BS.o⟩
   case measure=>simp[intOf];omega
  ·obtain rfl:k=t.size:=by omega
   have HS:=hideO (sort_all t w.heap.size (w.heap.size+1) wr hn T1.o C1.o (by omega));clear hrow
   go_wp2_with fail
   refine HS.o.mono ?_;rintro e w2 ⟨rfl,hz,hc,hb⟩;have HC:=hideO hc;have HB2:=hideO (GB.o.trans (hb.mono (by omega)));clear hc hb
   go_wp2_with fail
   go_ret;exact⟨_,rfl,by omega,hz,HC.o,HB2.o⟩
end So
end Go.Proofs.YtaejgfdkfcmjeaaGreatDoor
