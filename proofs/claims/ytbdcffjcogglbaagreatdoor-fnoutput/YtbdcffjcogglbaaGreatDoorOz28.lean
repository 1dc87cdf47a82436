import Derived.Test.YtbdcffjcogglbaaGreatDoorOz29
set_option maxRecDepth 100000
set_option maxHeartbeats 8000000
namespace Go.Proofs.YtbdcffjcogglbaaGreatDoor
open Go.Proofs.Tryz
namespace So
open Go.RowKit Go.Sort Go.Proofs
theorem insertion_I (T:ByteArray) (cc:Nat) (blk cap a b:Nat) (d:Array Nat) (w:World) (hH:HoldsK encI 1 w blk 0 d) (hblk:blk<w.heap.size) (hab:a<=b) (hb:b<=d.size) (hsz:d.size<=1048576) (hcap:Cap w cc T) (hcb0:cc≠blk) (hbd:∀ i,dF d i<T.size)
  (hrise:∀ i j,a<=i->i<j->j<b->dF d i<dF d j) :
  Calls prog 215 #[.slice (some ⟨blk,0,none⟩) d.size cap,.int .i64 a,.int .i64 b,.func (.func 210) #[] #[.pointer (some ⟨cc,0,none⟩)]] w fun e w' =>
   e=.returned (.tuple #[])/\∃ n d' os,w'=sortWorldK encI 1 w blk 0 n d' os/\d'.size=d.size/\PermF a b (dF d) (dF d')/\Ris (clI T) a b (dF d'):=by
 have mixed:=mixed;have HST:=hideO (world_self hH);have HH:=hideO hH;have HCP:Hid (∀ (m:Nat) (dk:Array Nat) (os:Array Obj),Cap (sortWorldK encI 1 w blk 0 m dk os) cc T):=fun m dk os=>hcap.block (world_block m dk os hcap.lt hcb0);have HBD:=hideO hbd;clear hcap hcb0 hbd;have HRI:=hideO hrise;clear hH hrise;obtain⟨z,hz⟩:∃ z,z=d.size:=⟨_,rfl⟩;have HZ:=hideO hz;rw[<-hz]at hb hsz ⊢;clear hz;by_cases hE:a=b
 ·subst hE
  go_enter func215,ntmps215
  go_wp2_with fail
  go_loopw [8] (fun i wr=>i=.int .i64 ((a:Int)+1)/\wr=w) (fun _ _=>0)
  case atStart=>exact⟨by go_num,rfl⟩
  case round =>
   obtain⟨rfl,rfl⟩:=hrel
   go_wp2_with fail
   refine bodyPost_end (v:=.tuple #[]) (by simp[results,results215,go_sem]) rfl ⟨rfl,0,d,#[],HST.o,HZ.o.symm,PermF.refl _ _ _,fun i j h1 h2 h3=>absurd h3 (by omega)⟩
 ·have hlt0:a<b:=by omega
  clear hE hab;go_enter func215,ntmps215
  go_wp2_with fail
  go_loopw [8] (fun vi wr=>∃ (i n:Nat) (dk:Array Nat) (os:Array Obj),vi=.int .i64 i/\a<i/\i<=b/\dk.size=z/\PermF a i (dF d) (dF dk)/\Ris (clI T) a i (dF dk)/\wr=sortWorldK encI 1 w blk 0 n dk os) (fun vi _=>b-(intOf vi).toNat)
  case atStart=>exact⟨a+1,0,d,#[],by go_num,by omega,by omega,HZ.o.symm,PermF.refl _ _ _,fun i j h1 h2 h3=>absurd h3 (by omega),HST.o⟩
  case round =>
   obtain⟨i,n,dk,os,rfl,hai,hib,hsk,hperm,hris,hwr⟩:=hrel;have HSK:=hideO hsk;have HPM:=hideO hperm;have HRS:=hideO hris;have HW:=hideO hwr;clear hsk hperm hris hwr;by_cases hlt:i<b
   ·obtain⟨f,hf⟩:∃ f,f=dF dk:=⟨_,rfl⟩
    rw[<-hf]at HPM HRS;have HFD:=hideO hf;have HBF:Hid (∀ i,f i<T.size):=HPM.o.bd HBD.o
    have HPL:Hid (∀ k,a<=k->k<i->f k<f i):=fun k h1 h2=>by
     have e:f i=dF d i:=HPM.o.2 i (Or.inr nl);rw[e];exact HPM.o.all (p:=fun v=>v<dF d i) (fun j h3 h4=>HRI.o j i h3 h4 hlt) k h1 h2
    clear hf;(go_wp2_with fail)
    go_loopw [9] (fun vj wr2=>∃ (j m:Nat) (dj:Array Nat) (oj:Array Obj),vj=.int .i64 j/\a<=j/\j<=i/\dj.size=z/\dF dj=rotF j i (i+1) f/\(∀ k,j<=k->k<i->clI T (f i) (f k)=true)/\wr2=sortWorldK encI 1 w blk 0 m dj oj) (fun vj _=>(intOf vj).toNat)
    case atStart=>exact⟨i,n,dk,os,rfl,by omega,nl,HSK.o,by rw[rot_down0];exact HFD.o.symm,fun k h1 h2=>absurd h2 (by omega),HW.o⟩
    case round =>
     obtain⟨j,m,dj,oj,rfl,haj,hji,hsj,hfj,hcl,hwr⟩:=hrel;have HSJ:=hideO hsj;have HFJ:=hideO hfj;have HCL:=hideO hcl;have HWJ:=hideO hwr
     -- the end of the inner loop
     have OUT:Hid ((∀ k,a<=k->k<j->lx (clI T) (f k) (f i))->PermF a (i+1) (dF d) (dF dj)/\Ris (clI T) a (i+1) (dF dj)):=fun hlo=>by
      rw[HFJ.o];refine⟨?_,?_⟩
      ·have h1:=HPM.o.mono (Nat.le_refl a) (Nat.le_of_lt hai) (Nat.le_succ i)
       exact h1.trans ((rot_perm f hji (Nat.le_succ i)).mono haj (by omega) nl)
      ·exact down_ris (clI_weak T) HRS.o haj hji hlo (fun k h1 h2=>lx_yes (HCL.o k h1 h2))
     clear hsj hfj hcl;by_cases hja:a<j
     ·obtain⟨jp,hjp⟩:∃ jp,j=jp+1:=⟨j-1,by omega⟩
      have HJP:=hideO hjp;have hHj:HoldsK encI 1 wr blk 0 dj:=(by rw[hwr];exact world_holds HH.o hblk m dj oj (HSJ.o.trans HZ.o));have hbw:blk<wr.heap.size:=(by rw[hwr];exact Nat.lt_of_lt_of_le hblk (world_size m dj oj));obtain⟨x0c,x0f⟩:=cells_I hHj (i:=j) (by have:=HSJ.o;omega);obtain⟨y0c,y0f⟩:=cells_I hHj (i:=jp) (by have:=HSJ.o;omega)
      have ex:dj[j]! = f i:=by
       have:dF dj j=f i:=by
        rw[HFJ.o,rot_first f j nl (by omega)]
        congr 1
        omega
       exact this
      have ey:dj[jp]! = f jp:=by
       have:dF dj jp=f jp:=by rw[HFJ.o,rot_out f jp (Or.inl (by omega)) hji (Nat.le_succ i)]
       exact this
      rw[ex]at x0c;rw[ey]at y0c;obtain⟨x,hx⟩:∃ x,x=f i:=⟨_,rfl⟩;obtain⟨y,hy⟩:∃ y,y=f jp:=⟨_,rfl⟩;have HXY:Hid (x=f i/\y=f jp):=⟨hx,hy⟩;rw[<-hx]at x0c;rw[<-hy]at y0c;have g0:=fun n' os'=>cell_grown (a:=⟨blk,j,none⟩) hbw x0c n' os';have g2:=fun n' os'=>cell_grown (a:=⟨blk,jp,none⟩) hbw y0c n' os';have hcc:wr.cell? ⟨cc,0,none⟩=some (.string T):=(by rw[hwr];exact HCP.o _ _ _);have hcw:cc<wr.heap.size:=Cap.lt hcc;have gc:=fun n' os'=>cell_grown (a:=⟨cc,0,none⟩) hcw hcc n' os';clear hcc hcw;have HCM:Hid (∀ W,Cap W cc T->Calls prog 210 #[.int .i64 x,.int .i64 y,.pointer (some ⟨cc,0,none⟩)] W fun e w'=>e=.returned (.int .i64 (cfI T x y))/\∃ q os',w'=grow (W.drewN q) os'):=fun W hW=>cmp_I T cc x y W hW (by rw[HXY.o.1];exact HBF.o _) (by rw[HXY.o.2];exact HBF.o _);have hneg:=cfI_neg T x y;obtain⟨r,hr⟩:∃ r,r=cfI T x y:=⟨_,rfl⟩;rw[<-hr]at hneg HCM;have e1:(j:Int)-1=(jp:Int):=(by omega);have hwp:IntKind.i64.wrap (jp:Int)=(jp:Int):=(by rw[IntKind.wrap_i64];omega);have jz:(j:Int)<(z:Int):=(by omega);have jz1:(jp:Int)<(z:Int):=(by omega);have hjaz:(a:Int)<(j:Int):=(by omega);have hjad:decide ((a:Int)<(j:Int))=true:=decide_eq_true hjaz;have HCLS:=hideO (fun n' os'=>sortWorldK_grown_c encI 1 w blk 0 m n' dj oj os');rw[<-hwr]at HCLS;clear hr ex ey hx hy hjp hwr
      cases hcb:clI T x y with
      |true =>
       rw[hcb]at hneg;have hlv:r<0:=of_decide_eq_true hneg;clear hneg;(go_wp2_with fail)
       go_quiet_grown (first|(go_at_call 210;refine Calls.grown_of (HCM.o _ (gc _ _))))
       have hW2:grow (wr.drewN nq) osq=sortWorldK encI 1 w blk 0 (m+nq) dj (oj++osq):=HCLS.o nq osq;dsimp only;clear g0 g2 gc x0c x0f y0c y0f hHj hbw;generalize grow (wr.drewN nq) osq=W2 at hW2 ⊢;have hH2:HoldsK encI 1 W2 blk 0 dj:=(by rw[hW2];exact world_holds HH.o hblk (m+nq) dj (oj++osq) (HSJ.o.trans HZ.o));obtain⟨x0c,x0f⟩:=cells_I hH2 (i:=j) (by have:=HSJ.o;omega);obtain⟨y0c,y0f⟩:=cells_I hH2 (i:=jp) (by have:=HSJ.o;omega)
       have ex:dj[j]! = x:=by
        have:dF dj j=x:=by
         rw[HXY.o.1,HFJ.o,rot_first f j nl (by omega)]
         congr 1
         omega
        exact this
       have ey:dj[jp]! = y:=by
        have:dF dj jp=y:=by rw[HXY.o.2,HFJ.o,rot_out f jp (Or.inl (by have:=HJP.o;omega)) hji (Nat.le_succ i)]
        exact this
       have hsw:=sortWorldK_swp_c encI 1 w blk 0 encI_len (m+nq) dj (oj++osq) hblk j jp (by have:=HSJ.o;omega) (by have:=HSJ.o;omega);rw[ex,ey,<-hW2,Nat.zero_add,Nat.zero_add,Nat.mul_one,Nat.mul_one]at hsw;rw[ex]at x0c;rw[ey]at y0c;have HSW:=hideO hsw;have hjne:jp<j:=(by have:=HJP.o;omega)
       have HROT:Hid (So.swp (rotF j i (i+1) f) j jp=rotF jp i (i+1) f):=by
        unfold Hid;rw[HJP.o];exact rot_down jp i f (by have:=HJP.o;omega)
       clear hW2 hH2 ex ey hsw;(go_wp2_with fail)
       go_region
       all_goals (try go_wp2_with fail)
       all_goals go_roundw
       case rel =>
        refine⟨jp,m+nq+1,Go.Sort.swp dj j jp,oj++osq,rfl,by have:=HJP.o;omega,by omega,by rw[Go.Sort.size_swp];exact HSJ.o,?_,fun k h1 h2=>?_,HSW.o⟩
        ·rw[dF_swp dj j jp (by have:=HSJ.o;omega) (by have:=HSJ.o;omega),HFJ.o]
         exact HROT.o
        ·rcases Nat.eq_or_lt_of_le h1 with e|e
         ·rw[<-e,<-HXY.o.1,<-HXY.o.2]
          exact hcb
         ·exact HCL.o k (by have:=HJP.o;omega) h2
       case measure=>have:=HJP.o;simp[intOf];omega
      |false =>
       rw[hcb]at hneg;have hlv:¬r<0:=of_decide_eq_false hneg
       have HO:=hideO (OUT.o (fun k h1 h2=>by
        have hjx:lx (clI T) (f jp) (f i):=by
         rw[<-HXY.o.1,<-HXY.o.2];refine lx_no hcb ?_;rw[HXY.o.1,HXY.o.2];exact HPL.o jp (by have:=HJP.o;omega) (by have:=HJP.o;omega)
        exact HRS.o.le h1 (show k<=jp by have:=HJP.o;omega) (by have:=HJP.o;omega) (clI_weak T) hjx))
       clear hneg;(go_wp2_with fail)
       go_quiet_grown (first|(go_at_call 210;refine Calls.grown_of (HCM.o _ (gc _ _))))
       have HW2:Hid (grow (wr.drewN nq) osq=sortWorldK encI 1 w blk 0 (m+nq) dj (oj++osq)):=HCLS.o nq osq;dsimp only;clear g0 g2 gc x0c x0f y0c y0f hHj hbw;(go_wp2_with fail)
       go_roundw
       case rel=>exact⟨i+1,m+nq,dj,oj++osq,by go_num,by omega,by omega,HSJ.o,HO.o.1,HO.o.2,HW2.o⟩
       case measure=>simp[intOf];omega
     ·have hjad:decide ((a:Int)<(j:Int))=false:=decide_eq_false (by omega)
      have hjaz:¬(a:Int)<(j:Int):=by omega
      have HO:=hideO (OUT.o (fun k h1 h2=>absurd h2 (by omega)))
      have HDR:Hid (wr.drew=sortWorldK encI 1 w blk 0 (m+1) dj oj):=by
       unfold Hid;rw[hwr];rfl
      clear hwr;(go_wp2_with fail)
      go_region
      all_goals (try go_wp2_with fail)
      all_goals go_roundw
      case rel=>exact⟨i+1,m+1,dj,oj,by go_num,by omega,by omega,HSJ.o,HO.o.1,HO.o.2,HDR.o⟩
      case measure=>simp[intOf];omega
   ·obtain rfl:i=b:=by omega
    (go_wp2_with fail);refine bodyPost_end (v:=.tuple #[]) (by simp[results,results215,go_sem]) rfl ⟨rfl,n,dk,os,HW.o,HSK.o,HPM.o,HRS.o⟩
end So
namespace So
open Go.RowKit Go.Sort Go.Proofs
def cvT:Value:=.func (.func 159) #[] #[]
theorem insertion_T (T:Nat->ByteArray) (blk cap a b:Nat) (d:Array Nat) (w:World) (hH:HoldsK (encT T) 2 w blk 0 d) (hblk:blk<w.heap.size) (hab:a<=b) (hb:b<=d.size) (hsz:d.size<=1048576)
  (hrise:∀ i j,a<=i->i<j->j<b->dF d i<dF d j) :
  Calls prog 204 #[.slice (some ⟨blk,0,none⟩) d.size cap,.int .i64 a,.int .i64 b,.func (.func 159) #[] #[]] w fun e w' =>
   e=.returned (.tuple #[])/\∃ n d' os,w'=sortWorldK (encT T) 2 w blk 0 n d' os/\d'.size=d.size/\PermF a b (dF d) (dF d')/\Ris (clT T) a b (dF d'):=by
 have mixed:=mixed;have HST:=hideO (world_self hH);have HH:=hideO hH;have HRI:=hideO hrise;clear hH hrise;obtain⟨z,hz⟩:∃ z,z=d.size:=⟨_,rfl⟩;have HZ:=hideO hz;rw[<-hz]at hb hsz ⊢;clear hz;by_cases hE:a=b
 ·subst hE
  go_enter func204,ntmps204
  go_wp2_with fail
  go_loopw [8] (fun i wr=>i=.int .i64 ((a:Int)+1)/\wr=w) (fun _ _=>0)
  case atStart=>exact⟨by go_num,rfl⟩
  case round =>
   obtain⟨rfl,rfl⟩:=hrel
   go_wp2_with fail
   refine bodyPost_end (v:=.tuple #[]) (by simp[results,results204,go_sem]) rfl ⟨rfl,0,d,#[],HST.o,HZ.o.symm,PermF.refl _ _ _,fun i j h1 h2 h3=>absurd h3 (by omega)⟩
 ·have hlt0:a<b:=by omega
  clear hE hab;go_enter func204,ntmps204
  go_wp2_with fail
  go_loopw [8] (fun vi wr=>∃ (i n:Nat) (dk:Array Nat) (os:Array Obj),vi=.int .i64 i/\a<i/\i<=b/\dk.size=z/\PermF a i (dF d) (dF dk)/\Ris (clT T) a i (dF dk)/\wr=sortWorldK (encT T) 2 w blk 0 n dk os) (fun vi _=>b-(intOf vi).toNat)
  case atStart=>exact⟨a+1,0,d,#[],by go_num,by omega,by omega,HZ.o.symm,PermF.refl _ _ _,fun i j h1 h2 h3=>absurd h3 (by omega),HST.o⟩
  case round =>
   obtain⟨i,n,dk,os,rfl,hai,hib,hsk,hperm,hris,hwr⟩:=hrel;have HSK:=hideO hsk;have HPM:=hideO hperm;have HRS:=hideO hris;have HW:=hideO hwr;clear hsk hperm hris hwr;by_cases hlt:i<b
   ·obtain⟨f,hf⟩:∃ f,f=dF dk:=⟨_,rfl⟩
    rw[<-hf]at HPM HRS;have HFD:=hideO hf
    have HPL:Hid (∀ k,a<=k->k<i->f k<f i):=fun k h1 h2=>by
     have e:f i=dF d i:=HPM.o.2 i (Or.inr nl);rw[e];exact HPM.o.all (p:=fun v=>v<dF d i) (fun j h3 h4=>HRI.o j i h3 h4 hlt) k h1 h2
    clear hf;(go_wp2_with fail)
    go_loopw [9] (fun vj wr2=>∃ (j m:Nat) (dj:Array Nat) (oj:Array Obj),vj=.int .i64 j/\a<=j/\j<=i/\dj.size=z/\dF dj=rotF j i (i+1) f/\(∀ k,j<=k->k<i->clT T (f i) (f k)=true)/\wr2=sortWorldK (encT T) 2 w blk 0 m dj oj) (fun vj _=>(intOf vj).toNat)
    case atStart=>exact⟨i,n,dk,os,rfl,by omega,nl,HSK.o,by rw[rot_down0];exact HFD.o.symm,fun k h1 h2=>absurd h2 (by omega),HW.o⟩
    case round =>
     obtain⟨j,m,dj,oj,rfl,haj,hji,hsj,hfj,hcl,hwr⟩:=hrel;have HSJ:=hideO hsj;have HFJ:=hideO hfj;have HCL:=hideO hcl;have HWJ:=hideO hwr
     -- the end of the inner loop
     have OUT:Hid ((∀ k,a<=k->k<j->lx (clT T) (f k) (f i))->PermF a (i+1) (dF d) (dF dj)/\Ris (clT T) a (i+1) (dF dj)):=fun hlo=>by
      rw[HFJ.o];refine⟨?_,?_⟩
      ·have h1:=HPM.o.mono (Nat.le_refl a) (Nat.le_of_lt hai) (Nat.le_succ i)
       exact h1.trans ((rot_perm f hji (Nat.le_succ i)).mono haj (by omega) nl)
      ·exact down_ris (clT_weak T) HRS.o haj hji hlo (fun k h1 h2=>lx_yes (HCL.o k h1 h2))
     clear hsj hfj hcl;by_cases hja:a<j
     ·obtain⟨jp,hjp⟩:∃ jp,j=jp+1:=⟨j-1,by omega⟩
      have HJP:=hideO hjp;have hHj:HoldsK (encT T) 2 wr blk 0 dj:=(by rw[hwr];exact world_holds HH.o hblk m dj oj (HSJ.o.trans HZ.o));have hbw:blk<wr.heap.size:=(by rw[hwr];exact Nat.lt_of_lt_of_le hblk (world_size m dj oj));obtain⟨x0c,x0f,x1c,x1f⟩:=cells_T hHj (i:=j) (by have:=HSJ.o;omega);obtain⟨y0c,y0f,y1c,y1f⟩:=cells_T hHj (i:=jp) (by have:=HSJ.o;omega)
      have ex:dj[j]! = f i:=by
       have:dF dj j=f i:=by
        rw[HFJ.o,rot_first f j nl (by omega)]
        congr 1
        omega
       exact this
      have ey:dj[jp]! = f jp:=by
       have:dF dj jp=f jp:=by rw[HFJ.o,rot_out f jp (Or.inl (by omega)) hji (Nat.le_succ i)]
       exact this
      rw[ex]at x0c x1c;rw[ey]at y0c y1c;obtain⟨x,hx⟩:∃ x,x=f i:=⟨_,rfl⟩;obtain⟨y,hy⟩:∃ y,y=f jp:=⟨_,rfl⟩;have HXY:Hid (x=f i/\y=f jp):=⟨hx,hy⟩;rw[<-hx]at x0c x1c;rw[<-hy]at y0c y1c;have g0:=fun n' os'=>cell_grown (a:=⟨blk,j*2,none⟩) hbw x0c n' os';have g1:=fun n' os'=>cell_grown (a:=⟨blk,j*2+1,none⟩) hbw x1c n' os';have g2:=fun n' os'=>cell_grown (a:=⟨blk,jp*2,none⟩) hbw y0c n' os';have g3:=fun n' os'=>cell_grown (a:=⟨blk,jp*2+1,none⟩) hbw y1c n' os';have HCM:Hid (∀ W,Calls prog 159 #[.agg #[.int .i64 x,.string (T x)],.agg #[.int .i64 y,.string (T y)]] W fun e w'=>e=.returned (.int .i64 (cfT T x y))/\∃ q os',w'=grow (W.drewN q) os'):=fun W=>cmp_T T x y W;have hneg:=cfT_neg T x y;obtain⟨r,hr⟩:∃ r,r=cfT T x y:=⟨_,rfl⟩;rw[<-hr]at hneg HCM;have e1:(j:Int)-1=(jp:Int):=(by omega);have hwp:IntKind.i64.wrap (jp:Int)=(jp:Int):=(by rw[IntKind.wrap_i64];omega);have jz:(j:Int)<(z:Int):=(by omega);have jz1:(jp:Int)<(z:Int):=(by omega);have hjaz:(a:Int)<(j:Int):=(by omega);have hjad:decide ((a:Int)<(j:Int))=true:=decide_eq_true hjaz;have HCLS:=hideO (fun n' os'=>sortWorldK_grown_c (encT T) 2 w blk 0 m n' dj oj os');rw[<-hwr]at HCLS;clear hr ex ey hx hy hjp hwr
      cases hcb:clT T x y with
      |true =>
       rw[hcb]at hneg;have hlv:r<0:=of_decide_eq_true hneg;clear hneg;(go_wp2_with fail)
       go_quiet_grown (first|(go_at_call 159;refine Calls.grown_of (HCM.o _)))
       have hW2:grow (wr.drewN nq) osq=sortWorldK (encT T) 2 w blk 0 (m+nq) dj (oj++osq):=HCLS.o nq osq;dsimp only;clear g0 g1 g2 g3 x0c x0f x1c x1f y0c y0f y1c y1f hHj hbw;generalize grow (wr.drewN nq) osq=W2 at hW2 ⊢;have hH2:HoldsK (encT T) 2 W2 blk 0 dj:=(by rw[hW2];exact world_holds HH.o hblk (m+nq) dj (oj++osq) (HSJ.o.trans HZ.o));obtain⟨x0c,x0f,x1c,x1f⟩:=cells_T hH2 (i:=j) (by have:=HSJ.o;omega);obtain⟨y0c,y0f,y1c,y1f⟩:=cells_T hH2 (i:=jp) (by have:=HSJ.o;omega)
       have ex:dj[j]! = x:=by
        have:dF dj j=x:=by
         rw[HXY.o.1,HFJ.o,rot_first f j nl (by omega)]
         congr 1
         omega
        exact this
       have ey:dj[jp]! = y:=by
        have:dF dj jp=y:=by rw[HXY.o.2,HFJ.o,rot_out f jp (Or.inl (by have:=HJP.o;omega)) hji (Nat.le_succ i)]
        exact this
       have hsw:=sortWorldK_swp_c (encT T) 2 w blk 0 (encT_len T) (m+nq) dj (oj++osq) hblk j jp (by have:=HSJ.o;omega) (by have:=HSJ.o;omega);rw[ex,ey,<-hW2,Nat.zero_add,Nat.zero_add]at hsw;rw[ex]at x0c x1c;rw[ey]at y0c y1c;have HSW:=hideO hsw;have hjne:jp<j:=(by have:=HJP.o;omega)
       have HROT:Hid (So.swp (rotF j i (i+1) f) j jp=rotF jp i (i+1) f):=by
        unfold Hid;rw[HJP.o];exact rot_down jp i f (by have:=HJP.o;omega)
       clear hW2 hH2 ex ey hsw;(go_wp2_with fail)
       go_region
       all_goals (try go_wp2_with fail)
       all_goals go_roundw
       case rel =>
        refine⟨jp,m+nq+1,Go.Sort.swp dj j jp,oj++osq,rfl,by have:=HJP.o;omega,by omega,by rw[Go.Sort.size_swp];exact HSJ.o,?_,fun k h1 h2=>?_,HSW.o⟩
        ·rw[dF_swp dj j jp (by have:=HSJ.o;omega) (by have:=HSJ.o;omega),HFJ.o]
         exact HROT.o
        ·rcases Nat.eq_or_lt_of_le h1 with e|e
         ·rw[<-e,<-HXY.o.1,<-HXY.o.2]
          exact hcb
         ·exact HCL.o k (by have:=HJP.o;omega) h2
       case measure=>have:=HJP.o;simp[intOf];omega
      |false =>
       rw[hcb]at hneg;have hlv:¬r<0:=of_decide_eq_false hneg
       have HO:=hideO (OUT.o (fun k h1 h2=>by
        have hjx:lx (clT T) (f jp) (f i):=by
         rw[<-HXY.o.1,<-HXY.o.2];refine lx_no hcb ?_;rw[HXY.o.1,HXY.o.2];exact HPL.o jp (by have:=HJP.o;omega) (by have:=HJP.o;omega)
        exact HRS.o.le h1 (show k<=jp by have:=HJP.o;omega) (by have:=HJP.o;omega) (clT_weak T) hjx))
       clear hneg;(go_wp2_with fail)
       go_quiet_grown (first|(go_at_call 159;refine Calls.grown_of (HCM.o _)))
       have HW2:Hid (grow (wr.drewN nq) osq=sortWorldK (encT T) 2 w blk 0 (m+nq) dj (oj++osq)):=HCLS.o nq osq;dsimp only;clear g0 g1 g2 g3 x0c x0f x1c x1f y0c y0f y1c y1f hHj hbw;(go_wp2_with fail)
       go_roundw
       case rel=>exact⟨i+1,m+nq,dj,oj++osq,by go_num,by omega,by omega,HSJ.o,HO.o.1,HO.o.2,HW2.o⟩
       case measure=>simp[intOf];omega
     ·have hjad:decide ((a:Int)<(j:Int))=false:=decide_eq_false (by omega)
      have hjaz:¬(a:Int)<(j:Int):=by omega
      have HO:=hideO (OUT.o (fun k h1 h2=>absurd h2 (by omega)))
      have HDR:Hid (wr.drew=sortWorldK (encT T) 2 w blk 0 (m+1) dj oj):=by
       unfold Hid;rw[hwr];rfl
      clear hwr;(go_wp2_with fail)
      go_region
      all_goals (try go_wp2_with fail)
      all_goals go_roundw
      case rel=>exact⟨i+1,m+1,dj,oj,by go_num,by omega,by omega,HSJ.o,HO.o.1,HO.o.2,HDR.o⟩
      case measure=>simp[intOf];omega
   ·obtain rfl:i=b:=by omega
    (go_wp2_with fail);refine bodyPost_end (v:=.tuple #[]) (by simp[results,results204,go_sem]) rfl ⟨rfl,n,dk,os,HW.o,HSK.o,HPM.o,HRS.o⟩
end So
namespace So
open Go.RowKit Go.Sort Go.Proofs
theorem mergeB_T (T:Nat->ByteArray) (blk cap a m:Nat) (d:Array Nat) (w:World) (hH:HoldsK (encT T) 2 w blk 0 d) (hblk:blk<w.heap.size) (ham:a+1<m) (hb:m+1<=d.size) (hsz:d.size<=1048576)
  (hr1:Ris (clT T) a m (dF d)) (hsep:Sep a m (m+1) (dF d)) :
  Calls prog 205 #[.slice (some ⟨blk,0,none⟩) d.size cap,.int .i64 a,.int .i64 m,.int .i64 (m+1:Nat),.func (.func 159) #[] #[]] w fun e w' =>
   e=.returned (.tuple #[])/\∃ n d' os,w'=sortWorldK (encT T) 2 w blk 0 n d' os/\d'.size=d.size/\PermF a (m+1) (dF d) (dF d')/\Ris (clT T) a (m+1) (dF d'):=by
 have mixed:=mixed;have HST:=hideO (world_self hH);have HH:=hideO hH;have HR1:=hideO hr1;have HSP:=hideO hsep;clear hH hr1 hsep;obtain⟨z,hz⟩:∃ z,z=d.size:=⟨_,rfl⟩;have HZ:=hideO hz;rw[<-hz]at hb hsz ⊢;clear hz;obtain⟨f,hf⟩:∃ f,f=dF d:=⟨_,rfl⟩;have HFD:=hideO hf;rw[<-hf]at HR1 HSP ⊢;clear hf;obtain⟨b,hm⟩:∃ b,b=m+1:=⟨_,rfl⟩
 have hbm:(b:Int)-(m:Int)=1:=by omega
 have hma:((m:Int)-(a:Int)==1)=false:=beq_eq_false_iff_ne.2 (by omega);rw[<-hm]at hb HSP ⊢;have HM:=hideO hm
 have hmb:m<b:=by omega
 clear hm;go_enter func205,ntmps205
 go_wp2_with fail
 clear hbm hma
 go_loopw [14,15] (fun u v wr=>∃ (i j n:Nat) (os:Array Obj),u=.int .i64 i/\v=.int .i64 j/\a<=i/\i<=j/\j<=m/\(a<i->lx (clT T) (f (i-1)) (f m))/\(j<m->lx (clT T) (f m) (f j))/\wr=sortWorldK (encT T) 2 w blk 0 n d os) (fun u v _=>(intOf v).toNat-(intOf u).toNat)
 case atStart=>exact⟨a,m,0,#[],rfl,rfl,nl,by omega,nl,fun h=>absurd h (by omega),fun h=>absurd h (by omega),HST.o⟩
 case round =>
  obtain⟨i,j,n,os,rfl,rfl,hai,hij,hjm,hlo,hhi,hwr⟩:=hrel;have HLO:=hideO hlo;have HHI:=hideO hhi;have HW:=hideO hwr;clear hlo hhi;by_cases hlt:i<j
  ·obtain⟨h,hh⟩:∃ h,h=(i+j)/2:=⟨_,rfl⟩
   have e1:((i:Int)+(j:Int))/2=(h:Int):=by omega
   have hhb:h<z:=by omega
   have hih:i<=h:=by omega
   have hhj:h<j:=by omega
   have hHj:HoldsK (encT T) 2 wr blk 0 d:=by rw[hwr];exact world_holds HH.o hblk n d os rfl
   have hbw:blk<wr.heap.size:=by rw[hwr];exact Nat.lt_of_lt_of_le hblk (world_size n d os)
   obtain⟨x0c,x0f,x1c,x1f⟩:=cells_T hHj (i:=m) (by have:=HZ.o;omega);obtain⟨y0c,y0f,y1c,y1f⟩:=cells_T hHj (i:=h) (by have:=HZ.o;omega);obtain⟨x,hx⟩:∃ x,x=d[m]!:=⟨_,rfl⟩;obtain⟨y,hy⟩:∃ y,y=d[h]!:=⟨_,rfl⟩;have HXY:Hid (x=f m/\y=f h):=⟨by rw[hx,HFD.o];rfl,by rw[hy,HFD.o];rfl⟩;rw[<-hx]at x0c x1c;rw[<-hy]at y0c y1c;have g0:=fun n' os'=>cell_grown (a:=⟨blk,m*2,none⟩) hbw x0c n' os';have g1:=fun n' os'=>cell_grown (a:=⟨blk,m*2+1,none⟩) hbw x1c n' os';have g2:=fun n' os'=>cell_grown (a:=⟨blk,h*2,none⟩) hbw y0c n' os';have g3:=fun n' os'=>cell_grown (a:=⟨blk,h*2+1,none⟩) hbw y1c n' os';have HCM:Hid (∀ W,Calls prog 159 #[.agg #[.int .i64 x,.string (T x)],.agg #[.int .i64 y,.string (T y)]] W fun e w'=>e=.returned (.int .i64 (cfT T x y))/\∃ q os',w'=grow (W.drewN q) os'):=fun W=>cmp_T T x y W;have hneg:=cfT_neg T x y;obtain⟨r,hr⟩:∃ r,r=cfT T x y:=⟨_,rfl⟩;rw[<-hr]at hneg HCM
   have hz1:(h:Int)<(z:Int):=by omega
   have hz2:(m:Int)<(z:Int):=by omega
   have HCLS:=hideO (fun n' os'=>sortWorldK_grown_c (encT T) 2 w blk 0 n n' d os os');rw[<-hwr]at HCLS;clear hr hx hy hwr hh x0c x0f x1c x1f y0c y0f y1c y1f hHj hbw
   cases hcb:clT T x y with
   |false =>
    rw[hcb]at hneg;have hlv:¬r<0:=of_decide_eq_false hneg;have hlv':decide (r<0)=false:=hneg
    have HL2:Hid (lx (clT T) (f h) (f m)):=by
     unfold Hid;have hpl:=HSP.o h m (by omega) (by omega) nl hmb;rw[<-HXY.o.1,<-HXY.o.2]at hpl ⊢;exact lx_no hcb hpl
    clear hneg;(go_wp2_with fail)
    go_quiet_grown (first|(go_at_call 159;refine Calls.grown_of (HCM.o _)))
    have HW2:Hid (grow (wr.drewN nq) osq=sortWorldK (encT T) 2 w blk 0 (n+nq) d (os++osq)):=HCLS.o nq osq;dsimp only;clear g0 g1 g2 g3;(go_wp2_with fail)
    go_roundw
    case rel=>exact⟨h+1,j,n+nq,os++osq,by go_num,rfl,by omega,by omega,hjm,fun _=>HL2.o,HHI.o,HW2.o⟩
    case measure=>simp[intOf];omega
   |true =>
    rw[hcb]at hneg;have hlv:r<0:=of_decide_eq_true hneg;have hlv':decide (r<0)=true:=hneg
    have HL2:Hid (lx (clT T) (f m) (f h)):=by
     unfold Hid;rw[<-HXY.o.1,<-HXY.o.2];exact lx_yes hcb
    clear hneg;(go_wp2_with fail)
    go_quiet_grown (first|(go_at_call 159;refine Calls.grown_of (HCM.o _)))
    have HW2:Hid (grow (wr.drewN nq) osq=sortWorldK (encT T) 2 w blk 0 (n+nq) d (os++osq)):=HCLS.o nq osq;dsimp only;clear g0 g1 g2 g3;(go_wp2_with fail)
    go_roundw
    case rel=>exact⟨i,h,n+nq,os++osq,rfl,rfl,hai,by omega,by omega,HLO.o,fun _=>HL2.o,HW2.o⟩
    case measure=>simp[intOf];omega
  ·obtain rfl:i=j:=by omega
   have HRR:Hid (Ris (clT T) a b (rotF i m b f)):=by
    unfold Hid;have hmm:=HM.o;rw[hmm]
    exact down_ris (clT_weak T) HR1.o hai hjm
     (fun k h1 h2=>HR1.o.le h1 (show k<=i-1 by omega) (by omega) (clT_weak T) (HLO.o (by omega)))
     (fun k h1 h2=>HR1.o.ge hai h1 h2 (clT_weak T) (HHI.o (by omega)))
   have HPP:Hid (PermF a b f (rotF i m b f)):=(rot_perm f hjm (by omega)).mono hai (by omega) nl;clear hwr
   go_wp2_with fail
   go_loopw [17] (fun u wr2=>∃ (k n:Nat) (dk:Array Nat) (os:Array Obj),u=.int .i64 k/\i<=k/\k<=m/\dk.size=z/\dF dk=rotF k m b f/\wr2=sortWorldK (encT T) 2 w blk 0 n dk os) (fun u _=>(intOf u).toNat)
   case atStart=>exact⟨m,n,d,os,rfl,hjm,nl,HZ.o.symm,by rw[HM.o,rot_down0];exact HFD.o.symm,HW.o⟩
   case round =>
    obtain⟨k,n2,dk,os2,rfl,hik,hkm,hsk,hfk,hwr⟩:=hrel;have HSK:=hideO hsk;have HFK:=hideO hfk;by_cases hlt2:i<k
    ·obtain⟨q,hq⟩:∃ q,k=q+1:=⟨k-1,by omega⟩
     have eq1:(k:Int)-1=(q:Int):=by omega
     have hH2:HoldsK (encT T) 2 wr blk 0 dk:=by rw[hwr];exact world_holds HH.o hblk n2 dk os2 (hsk.trans HZ.o)
     obtain⟨x0c,x0f,x1c,x1f⟩:=cells_T hH2 (i:=k) (by omega);obtain⟨y0c,y0f,y1c,y1f⟩:=cells_T hH2 (i:=q) (by omega);obtain⟨x,hx⟩:∃ x,x=dk[k]!:=⟨_,rfl⟩;obtain⟨y,hy⟩:∃ y,y=dk[q]!:=⟨_,rfl⟩;have hsw:=sortWorldK_swp_c (encT T) 2 w blk 0 (encT_len T) n2 dk os2 hblk k q (by omega) (by omega);rw[<-hx,<-hy,<-hwr,Nat.zero_add,Nat.zero_add]at hsw;rw[<-hx]at x0c x1c;rw[<-hy]at y0c y1c;have HSW:=hideO hsw;have hkz:(k:Int)<(z:Int):=(by omega);have hqz:(q:Int)<(z:Int):=(by omega);have hqw:IntKind.i64.wrap (q:Int)=(q:Int):=(by rw[IntKind.wrap_i64];omega);have hik2:(i:Int)<(k:Int):=(by omega);have hqk:q<k:=(by omega);have HQ:=hideO hq
     have HROT:Hid (So.swp (rotF k m b f) k q=rotF q m b f):=by
      unfold Hid;rw[HM.o,hq];exact rot_down q m f (by omega)
     clear hwr hH2 hx hy hsw hsk hfk hq;(go_wp2_with fail)
     go_region
     all_goals (try go_wp2_with fail)
     all_goals go_roundw
     case rel =>
      refine⟨q,n2+1,Go.Sort.swp dk k q,os2,rfl,by have:=HQ.o;omega,by omega,by rw[Go.Sort.size_swp];exact HSK.o,?_,HSW.o⟩;rw[dF_swp dk k q (by have:=HSK.o;omega) (by have:=HSK.o;omega),HFK.o,HROT.o]
     case measure=>simp[intOf];omega
    ·have hik2:¬(i:Int)<(k:Int):=by omega
     have HWW:=hideO hwr
     have HE:Hid (dF dk=rotF i m b f):=by
      unfold Hid;rw[hfk,show k=i by omega]
     clear hwr hsk hfk;(go_wp2_with fail);refine bodyPost_ret (v:=.tuple #[]) (by simp[results,results205,go_sem]) rfl ⟨rfl,n2,dk,⟨os2,HWW.o⟩,HSK.o,by rw[HE.o];exact HPP.o,by rw[HE.o];exact HRR.o⟩
end So
end Go.Proofs.YtbdcffjcogglbaaGreatDoor
