import Derived.Test.YtaejgfdkfcmjeaaGreatDoorMz28
set_option maxRecDepth 100000
set_option maxHeartbeats 8000000
namespace Go.Proofs.YtaejgfdkfcmjeaaGreatDoor
open Go.RowKit
open Go.Proofs.Tryz
namespace So
open Go.RowKit Go.Sort Go.Proofs
theorem mergeA_T (T:Nat->ByteArray) (blk cap a b:Nat) (d:Array Nat) (w:World) (hH:HoldsK (encT T) 2 w blk 0 d) (hblk:blk<w.heap.size) (hab:a+1<b) (hb:b<=d.size) (hsz:d.size<=1048576)
  (hr2:Ris (clT T) (a+1) b (dF d)) (hsep:Sep a (a+1) b (dF d)) :
  Calls prog 231 #[.slice (some ⟨blk,0,none⟩) d.size cap,.int .i64 a,.int .i64 (a+1:Nat),.int .i64 b,.func (.func 194) #[] #[]] w fun e w' =>
   e=.returned (.tuple #[])/\∃ n d' os,w'=sortWorldK (encT T) 2 w blk 0 n d' os/\d'.size=d.size/\PermF a b (dF d) (dF d')/\Ris (clT T) a b (dF d'):=by
 have mixed:=mixed;have HST:=hideO (world_self hH);have HH:=hideO hH;have HR2:=hideO hr2;have HSP:=hideO hsep;clear hH hr2 hsep;obtain⟨z,hz⟩:∃ z,z=d.size:=⟨_,rfl⟩;have HZ:=hideO hz;rw[<-hz]at hb hsz ⊢;clear hz;obtain⟨f,hf⟩:∃ f,f=dF d:=⟨_,rfl⟩;have HFD:=hideO hf;rw[<-hf]at HR2 HSP ⊢;clear hf;obtain⟨m,hm⟩:∃ m,m=a+1:=⟨_,rfl⟩
 have hma:(m:Int)-(a:Int)=1:=by omega
 have ham:a<m:=by omega
 rw[<-hm]at hab HR2 HSP ⊢;have HM:=hideO hm;clear hm;go_enter func231,ntmps231
 go_wp2_with fail
 clear hma
 go_loopw [10,11] (fun u v wr=>∃ (i j n:Nat) (os:Array Obj),u=.int .i64 i/\v=.int .i64 j/\m<=i/\i<=j/\j<=b/\(m<i->lx (clT T) (f (i-1)) (f a))/\(j<b->lx (clT T) (f a) (f j))/\wr=sortWorldK (encT T) 2 w blk 0 n d os) (fun u v _=>(intOf v).toNat-(intOf u).toNat)
 case atStart=>exact⟨m,b,0,#[],rfl,rfl,nl,by omega,nl,fun h=>absurd h (by omega),fun h=>absurd h (by omega),HST.o⟩
 case round =>
  obtain⟨i,j,n,os,rfl,rfl,hmi,hij,hjb,hlo,hhi,hwr⟩:=hrel;have HLO:=hideO hlo;have HHI:=hideO hhi;have HW:=hideO hwr;clear hlo hhi;by_cases hlt:i<j
  ·obtain⟨h,hh⟩:∃ h,h=(i+j)/2:=⟨_,rfl⟩
   have e1:((i:Int)+(j:Int))/2=(h:Int):=by omega
   have hhb:h<z:=by omega
   have hih:i<=h:=by omega
   have hhj:h<j:=by omega
   have hHj:HoldsK (encT T) 2 wr blk 0 d:=by rw[hwr];exact world_holds HH.o hblk n d os rfl
   have hbw:blk<wr.heap.size:=by rw[hwr];exact Nat.lt_of_lt_of_le hblk (world_size n d os)
   obtain⟨x0c,x0f,x1c,x1f⟩:=cells_T hHj (i:=h) (by have:=HZ.o;omega);obtain⟨y0c,y0f,y1c,y1f⟩:=cells_T hHj (i:=a) (by have:=HZ.o;omega);obtain⟨x,hx⟩:∃ x,x=d[h]!:=⟨_,rfl⟩;obtain⟨y,hy⟩:∃ y,y=d[a]!:=⟨_,rfl⟩;have HXY:Hid (x=f h/\y=f a):=⟨by rw[hx,HFD.o];rfl,by rw[hy,HFD.o];rfl⟩;rw[<-hx]at x0c x1c;rw[<-hy]at y0c y1c;have g0:=fun n' os'=>cell_grown (a:=⟨blk,h*2,none⟩) hbw x0c n' os';have g1:=fun n' os'=>cell_grown (a:=⟨blk,h*2+1,none⟩) hbw x1c n' os';have g2:=fun n' os'=>cell_grown (a:=⟨blk,a*2,none⟩) hbw y0c n' os';have g3:=fun n' os'=>cell_grown (a:=⟨blk,a*2+1,none⟩) hbw y1c n' os';have HCM:Hid (∀ W,Calls prog 194 #[.agg #[.int .i64 x,.string (T x)],.agg #[.int .i64 y,.string (T y)]] W fun e w'=>e=.returned (.int .i64 (cfT T x y))/\∃ q os',w'=grow (W.drewN q) os'):=fun W=>cmp_T T x y W;have hneg:=cfT_neg T x y;obtain⟨r,hr⟩:∃ r,r=cfT T x y:=⟨_,rfl⟩;rw[<-hr]at hneg HCM
   have hz1:(h:Int)<(z:Int):=by omega
   have hz2:(a:Int)<(z:Int):=by omega
   have HCLS:=hideO (fun n' os'=>sortWorldK_grown_c (encT T) 2 w blk 0 n n' d os os');rw[<-hwr]at HCLS;clear hr hx hy hwr hh x0c x0f x1c x1f y0c y0f y1c y1f hHj hbw
   cases hcb:clT T x y with
   |true =>
    rw[hcb]at hneg;have hlv:r<0:=of_decide_eq_true hneg
    have HL2:Hid (lx (clT T) (f h) (f a)):=by
     unfold Hid;rw[<-HXY.o.1,<-HXY.o.2];exact lx_yes hcb
    clear hneg;(go_wp2_with fail)
    go_quiet_grown (first|(go_at_call 194;refine Calls.grown_of (HCM.o _)))
    have HW2:Hid (grow (wr.drewN nq) osq=sortWorldK (encT T) 2 w blk 0 (n+nq) d (os++osq)):=HCLS.o nq osq;dsimp only;clear g0 g1 g2 g3;(go_wp2_with fail)
    go_roundw
    case rel=>exact⟨h+1,j,n+nq,os++osq,by go_num,rfl,by omega,by omega,hjb,fun _=>HL2.o,HHI.o,HW2.o⟩
    case measure=>simp[intOf];omega
   |false =>
    rw[hcb]at hneg;have hlv:¬r<0:=of_decide_eq_false hneg
    have HL2:Hid (lx (clT T) (f a) (f h)):=by
     unfold Hid;have hpl:=HSP.o a h nl ham (by omega) (by omega);rw[<-HXY.o.1,<-HXY.o.2]at hpl ⊢;exact lx_no hcb hpl
    clear hneg;(go_wp2_with fail)
    go_quiet_grown (first|(go_at_call 194;refine Calls.grown_of (HCM.o _)))
    have HW2:Hid (grow (wr.drewN nq) osq=sortWorldK (encT T) 2 w blk 0 (n+nq) d (os++osq)):=HCLS.o nq osq;dsimp only;clear g0 g1 g2 g3;(go_wp2_with fail)
    go_roundw
    case rel=>exact⟨i,h,n+nq,os++osq,rfl,rfl,hmi,by omega,by omega,HLO.o,fun _=>HL2.o,HW2.o⟩
    case measure=>simp[intOf];omega
  ·obtain rfl:i=j:=by omega
   have HRR:Hid (Ris (clT T) a b (rotF a m i f)):=by
    unfold Hid;have hmm:=HM.o;rw[hmm]at HR2 ⊢
    exact up_ris (clT_weak T) HR2.o (by omega) (by omega)
     (fun k h1 h2=>HR2.o.le h1 (show k<=i-1 by omega) (by omega) (clT_weak T) (HLO.o (by omega)))
     (fun k h1 h2=>HR2.o.ge (by omega) h1 h2 (clT_weak T) (HHI.o (by omega)))
   have HPP:Hid (PermF a b f (rotF a m i f)):=(rot_perm f (by omega) (by omega)).mono nl (by omega) hjb;clear hwr
   go_wp2_with fail
   go_loopw [13] (fun u wr2=>∃ (k n:Nat) (dk:Array Nat) (os:Array Obj),u=.int .i64 k/\a<=k/\k+1<=i/\dk.size=z/\dF dk=rotF a m (k+1) f/\wr2=sortWorldK (encT T) 2 w blk 0 n dk os) (fun u _=>i-(intOf u).toNat)
   case atStart=>exact⟨a,n,d,os,rfl,nl,by omega,HZ.o.symm,by rw[HM.o,rot_up0];exact HFD.o.symm,HW.o⟩
   case round =>
    obtain⟨k,n2,dk,os2,rfl,hak,hki,hsk,hfk,hwr⟩:=hrel;have HSK:=hideO hsk;have HFK:=hideO hfk;obtain⟨ip,hip⟩:∃ ip,i=ip+1:=⟨i-1,by omega⟩;have eip:(i:Int)-1=(ip:Int):=(by omega);have hipw:IntKind.i64.wrap (ip:Int)=(ip:Int):=(by rw[IntKind.wrap_i64];omega);have HIP:=hideO hip;by_cases hlt2:k+1<i
    ·obtain⟨q,hq⟩:∃ q,q=k+1:=⟨_,rfl⟩
     have eq1:(k:Int)+1=(q:Int):=by omega
     have hH2:HoldsK (encT T) 2 wr blk 0 dk:=by rw[hwr];exact world_holds HH.o hblk n2 dk os2 (hsk.trans HZ.o)
     obtain⟨x0c,x0f,x1c,x1f⟩:=cells_T hH2 (i:=k) (by omega);obtain⟨y0c,y0f,y1c,y1f⟩:=cells_T hH2 (i:=q) (by omega);obtain⟨x,hx⟩:∃ x,x=dk[k]!:=⟨_,rfl⟩;obtain⟨y,hy⟩:∃ y,y=dk[q]!:=⟨_,rfl⟩;have hsw:=sortWorldK_swp_c (encT T) 2 w blk 0 (encT_len T) n2 dk os2 hblk k q (by omega) (by omega);rw[<-hx,<-hy,<-hwr,Nat.zero_add,Nat.zero_add]at hsw;rw[<-hx]at x0c x1c;rw[<-hy]at y0c y1c;have HSW:=hideO hsw;have hkz:(k:Int)<(z:Int):=(by omega);have hqz:(q:Int)<(z:Int):=(by omega);have hqw:IntKind.i64.wrap (q:Int)=(q:Int):=(by rw[IntKind.wrap_i64];omega);have hkip:(k:Int)<(ip:Int):=(by omega);have hkq:k<q:=(by omega);have HQ:=hideO hq
     have HROT:Hid (So.swp (rotF a m (k+1) f) k q=rotF a m (k+2) f):=by
      unfold Hid;rw[HM.o,hq];exact rot_up a k f hak
     clear hwr hH2 hx hy hsw hsk hfk hip hq;(go_wp2_with fail)
     go_region
     all_goals (try go_wp2_with fail)
     all_goals go_roundw
     case rel =>
      refine⟨q,n2+1,Go.Sort.swp dk k q,os2,rfl,by omega,by have:=HQ.o;omega,by rw[Go.Sort.size_swp];exact HSK.o,?_,HSW.o⟩;rw[dF_swp dk k q (by have:=HSK.o;have:=HQ.o;omega) (by have:=HSK.o;have:=HQ.o;omega),HFK.o,HROT.o,HQ.o]
     case measure=>have:=HQ.o;simp[intOf];omega
    ·have hkip:¬(k:Int)<(ip:Int):=by omega
     have HWW:=hideO hwr
     have HE:Hid (dF dk=rotF a m i f):=by
      unfold Hid;rw[hfk,show k+1=i by omega]
     clear hwr hsk hfk hip;(go_wp2_with fail);refine bodyPost_ret (v:=.tuple #[]) (by simp[results,results231,go_sem]) rfl ⟨rfl,n2,dk,⟨os2,HWW.o⟩,HSK.o,by rw[HE.o];exact HPP.o,by rw[HE.o];exact HRR.o⟩
end So
namespace Sh
theorem keys_any (w:World):Calls prog 191 #[] w fun e w'=>e=.returned (.slice (some ⟨w.heap.size,0,none⟩) 64 64)/\w'=w.alloc (.cells (rowF .u32 64 keyF) 162):=by
 go_enter func191,ntmps191
 go_wp2
 go_ret;exact⟨rfl,rfl⟩
theorem start_any (w:World):Calls prog 154 #[] w fun e w'=>e=.returned (.slice (some ⟨w.heap.size,0,none⟩) 8 8)/\w'=w.alloc (.cells (rowF .i64 8 firstF) 2):=by
 go_enter func154,ntmps154
 go_wp2
 go_ret;exact⟨rfl,rfl⟩
end Sh
end Go.Proofs.YtaejgfdkfcmjeaaGreatDoor
