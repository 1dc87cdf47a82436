/- Texts put together: SoInsT, SoMrgAT, SoMrgBT, SoSwapT, SoRotT, SoMrgCT, SoMrgT, SoStabT, SoSorted. -/
import Derived.Test.YtkgjfdanjmnmbaaGreatDoorOz30
import Derived.Test.YtkgjfdanjmnmbaaGreatDoorOz32
import Derived.Test.YtkgjfdanjmnmbaaGreatDoorOz33
set_option maxRecDepth 100000
set_option maxHeartbeats 8000000
namespace Go.Proofs.YtkgjfdanjmnmbaaGreatDoor.So
open Go.RowKit Go.Sort Go.Proofs
def cvT:Value:=.func (.func 175) #[] #[]
theorem insertion_T (T:Nat->ByteArray) (blk cap a b:Nat) (d:Array Nat) (w:World) (hH:HoldsK (encT T) 2 w blk 0 d) (hblk:blk<w.heap.size) (hab:a<=b) (hb:b<=d.size) (hsz:d.size<=1048576)
  (hrise:∀ i j,a<=i->i<j->j<b->dF d i<dF d j) :
  Calls Tryz.prog 207 #[.slice (some ⟨blk,0,none⟩) d.size cap,.int .i64 a,.int .i64 b,.func (.func 175) #[] #[]] w fun e w' =>
   e=.returned (.tuple #[])/\∃ n d' os,w'=sortWorldK (encT T) 2 w blk 0 n d' os/\d'.size=d.size/\PermF a b (dF d) (dF d')/\Ris (clT T) a b (dF d'):=by
 have mixed:=mixed
 have HST:=hideO (world_self hH)
 have HH:=hideO hH
 have HRI:=hideO hrise
 clear hH hrise
 obtain⟨z,hz⟩:∃ z,z=d.size:=⟨_,rfl⟩
 have HZ:=hideO hz
 rw[<-hz]at hb hsz ⊢
 clear hz
 by_cases hE:a=b
 ·subst hE
  go_enter Tryz.func207,Tryz.ntmps207
  go_wp2_with fail
  go_loopw [8] (fun i wr=>i=.int .i64 ((a:Int)+1)/\wr=w) (fun _ _=>0)
  case atStart=>exact⟨by go_num,rfl⟩
  case round =>
   obtain⟨rfl,rfl⟩:=hrel
   go_wp2_with fail
   refine bodyPost_end (v:=.tuple #[]) (by simp[results,Tryz.results207,go_sem]) rfl ⟨rfl,0,d,#[],HST.out,HZ.out.symm,PermF.refl _ _ _,fun i j h1 h2 h3=>absurd h3 (by omega)⟩
 ·have hlt0:a<b:=by omega
  clear hE hab
  go_enter Tryz.func207,Tryz.ntmps207
  go_wp2_with fail
  go_loopw [8] (fun vi wr=>∃ (i n:Nat) (dk:Array Nat) (os:Array Obj),vi=.int .i64 i/\a<i/\i<=b/\dk.size=z/\PermF a i (dF d) (dF dk)/\Ris (clT T) a i (dF dk)/\wr=sortWorldK (encT T) 2 w blk 0 n dk os) (fun vi _=>b-(intOf vi).toNat)
  case atStart=>exact⟨a+1,0,d,#[],by go_num,by omega,by omega,HZ.out.symm,PermF.refl _ _ _,fun i j h1 h2 h3=>absurd h3 (by omega),HST.out⟩
  case round =>
   obtain⟨i,n,dk,os,rfl,hai,hib,hsk,hperm,hris,hwr⟩:=hrel
   have HSK:=hideO hsk
   have HPM:=hideO hperm
   have HRS:=hideO hris
   have HW:=hideO hwr
   clear hsk hperm hris hwr
   by_cases hlt:i<b
   ·obtain⟨f,hf⟩:∃ f,f=dF dk:=⟨_,rfl⟩
    rw[<-hf]at HPM HRS
    have HFD:=hideO hf
    have HPL:Hid (∀ k,a<=k->k<i->f k<f i):=fun k h1 h2=>by
     have e:f i=dF d i:=HPM.out.2 i (Or.inr (Nat.le_refl _))
     rw[e]
     exact HPM.out.all (p:=fun v=>v<dF d i) (fun j h3 h4=>HRI.out j i h3 h4 hlt) k h1 h2
    clear hf
    go_wp2_with fail
    go_loopw [9] (fun vj wr2=>∃ (j m:Nat) (dj:Array Nat) (oj:Array Obj),vj=.int .i64 j/\a<=j/\j<=i/\dj.size=z/\dF dj=rotF j i (i+1) f/\(∀ k,j<=k->k<i->clT T (f i) (f k)=true)/\wr2=sortWorldK (encT T) 2 w blk 0 m dj oj) (fun vj _=>(intOf vj).toNat)
    case atStart=>exact⟨i,n,dk,os,rfl,by omega,Nat.le_refl _,HSK.out,by rw[rot_down0];exact HFD.out.symm,fun k h1 h2=>absurd h2 (by omega),HW.out⟩
    case round =>
     obtain⟨j,m,dj,oj,rfl,haj,hji,hsj,hfj,hcl,hwr⟩:=hrel
     have HSJ:=hideO hsj
     have HFJ:=hideO hfj
     have HCL:=hideO hcl
     have HWJ:=hideO hwr
     -- the end of the inner loop
     have OUT:Hid ((∀ k,a<=k->k<j->lx (clT T) (f k) (f i))->PermF a (i+1) (dF d) (dF dj)/\Ris (clT T) a (i+1) (dF dj)):=fun hlo=>by
      rw[HFJ.out]
      refine⟨?_,?_⟩
      ·have h1:=HPM.out.mono (Nat.le_refl a) (Nat.le_of_lt hai) (Nat.le_succ i)
       exact h1.trans ((rot_perm f hji (Nat.le_succ i)).mono haj (by omega) (Nat.le_refl _))
      ·exact down_ris (clT_weak T) HRS.out haj hji hlo (fun k h1 h2=>lx_yes (HCL.out k h1 h2))
     clear hsj hfj hcl
     by_cases hja:a<j
     ·obtain⟨jp,hjp⟩:∃ jp,j=jp+1:=⟨j-1,by omega⟩
      have HJP:=hideO hjp
      have hHj:HoldsK (encT T) 2 wr blk 0 dj:=by rw[hwr];exact world_holds HH.out hblk m dj oj (HSJ.out.trans HZ.out)
      have hbw:blk<wr.heap.size:=by rw[hwr];exact Nat.lt_of_lt_of_le hblk (world_size m dj oj)
      obtain⟨x0c,x0f,x1c,x1f⟩:=cells_T hHj (i:=j) (by have:=HSJ.out;omega)
      obtain⟨y0c,y0f,y1c,y1f⟩:=cells_T hHj (i:=jp) (by have:=HSJ.out;omega)
      have ex:dj[j]! = f i:=by
       have:dF dj j=f i:=by
        rw[HFJ.out,rot_first f j (Nat.le_refl _) (by omega)]
        congr 1
        omega
       exact this
      have ey:dj[jp]! = f jp:=by
       have:dF dj jp=f jp:=by rw[HFJ.out,rot_out f jp (Or.inl (by omega)) hji (Nat.le_succ i)]
       exact this
      rw[ex]at x0c x1c
      rw[ey]at y0c y1c
      obtain⟨x,hx⟩:∃ x,x=f i:=⟨_,rfl⟩
      obtain⟨y,hy⟩:∃ y,y=f jp:=⟨_,rfl⟩
      have HXY:Hid (x=f i/\y=f jp):=⟨hx,hy⟩
      rw[<-hx]at x0c x1c
      rw[<-hy]at y0c y1c
      have g0:=fun n' os'=>cell_grown (a:=⟨blk,j*2,none⟩) hbw x0c n' os'
      have g1:=fun n' os'=>cell_grown (a:=⟨blk,j*2+1,none⟩) hbw x1c n' os'
      have g2:=fun n' os'=>cell_grown (a:=⟨blk,jp*2,none⟩) hbw y0c n' os'
      have g3:=fun n' os'=>cell_grown (a:=⟨blk,jp*2+1,none⟩) hbw y1c n' os'
      have HCM:Hid (∀ W,Calls Tryz.prog 175 #[.agg #[.int .i64 x,.string (T x)],.agg #[.int .i64 y,.string (T y)]] W fun e w'=>e=.returned (.int .i64 (cfT T x y))/\∃ q os',w'=grow (W.drewN q) os'):=fun W=>cmp_T T x y W
      have hneg:=cfT_neg T x y
      obtain⟨r,hr⟩:∃ r,r=cfT T x y:=⟨_,rfl⟩
      rw[<-hr]at hneg HCM
      have e1:(j:Int)-1=(jp:Int):=by omega
      have hwp:IntKind.i64.wrap (jp:Int)=(jp:Int):=by rw[IntKind.wrap_i64];omega
      have jz:(j:Int)<(z:Int):=by omega
      have jz1:(jp:Int)<(z:Int):=by omega
      have hjaz:(a:Int)<(j:Int):=by omega
      have hjad:decide ((a:Int)<(j:Int))=true:=decide_eq_true hjaz
      have HCLS:=hideO (fun n' os'=>sortWorldK_grown_c (encT T) 2 w blk 0 m n' dj oj os')
      rw[<-hwr]at HCLS
      clear hr ex ey hx hy hjp hwr
      cases hcb:clT T x y with
      |true =>
       rw[hcb]at hneg
       have hlv:r<0:=of_decide_eq_true hneg
       clear hneg
       go_wp2_with fail
       go_quiet_grown (first|(go_at_call 175;refine Calls.grown_of (HCM.out _)))
       have hW2:grow (wr.drewN nq) osq=sortWorldK (encT T) 2 w blk 0 (m+nq) dj (oj++osq):=HCLS.out nq osq
       dsimp only
       clear g0 g1 g2 g3 x0c x0f x1c x1f y0c y0f y1c y1f hHj hbw
       generalize grow (wr.drewN nq) osq=W2 at hW2 ⊢
       have hH2:HoldsK (encT T) 2 W2 blk 0 dj:=by rw[hW2];exact world_holds HH.out hblk (m+nq) dj (oj++osq) (HSJ.out.trans HZ.out)
       obtain⟨x0c,x0f,x1c,x1f⟩:=cells_T hH2 (i:=j) (by have:=HSJ.out;omega)
       obtain⟨y0c,y0f,y1c,y1f⟩:=cells_T hH2 (i:=jp) (by have:=HSJ.out;omega)
       have ex:dj[j]! = x:=by
        have:dF dj j=x:=by
         rw[HXY.out.1,HFJ.out,rot_first f j (Nat.le_refl _) (by omega)]
         congr 1
         omega
        exact this
       have ey:dj[jp]! = y:=by
        have:dF dj jp=y:=by rw[HXY.out.2,HFJ.out,rot_out f jp (Or.inl (by have:=HJP.out;omega)) hji (Nat.le_succ i)]
        exact this
       have hsw:=sortWorldK_swp_c (encT T) 2 w blk 0 (encT_len T) (m+nq) dj (oj++osq) hblk j jp (by have:=HSJ.out;omega) (by have:=HSJ.out;omega)
       rw[ex,ey,<-hW2,Nat.zero_add,Nat.zero_add]at hsw
       rw[ex]at x0c x1c
       rw[ey]at y0c y1c
       have HSW:=hideO hsw
       have hjne:jp<j:=by have:=HJP.out;omega
       have HROT:Hid (So.swp (rotF j i (i+1) f) j jp=rotF jp i (i+1) f):=by
        unfold Hid
        rw[HJP.out]
        exact rot_down jp i f (by have:=HJP.out;omega)
       clear hW2 hH2 ex ey hsw
       go_wp2_with fail
       go_region
       all_goals (try go_wp2_with fail)
       all_goals go_roundw
       case rel =>
        refine⟨jp,m+nq+1,Go.Sort.swp dj j jp,oj++osq,rfl,by have:=HJP.out;omega,by omega,by rw[Go.Sort.size_swp];exact HSJ.out,?_,fun k h1 h2=>?_,HSW.out⟩
        ·rw[dF_swp dj j jp (by have:=HSJ.out;omega) (by have:=HSJ.out;omega),HFJ.out]
         exact HROT.out
        ·rcases Nat.eq_or_lt_of_le h1 with e|e
         ·rw[<-e,<-HXY.out.1,<-HXY.out.2]
          exact hcb
         ·exact HCL.out k (by have:=HJP.out;omega) h2
       case measure=>have:=HJP.out;simp[intOf];omega
      |false =>
       rw[hcb]at hneg
       have hlv:¬r<0:=of_decide_eq_false hneg
       have HO:=hideO (OUT.out (fun k h1 h2=>by
        have hjx:lx (clT T) (f jp) (f i):=by
         rw[<-HXY.out.1,<-HXY.out.2]
         refine lx_no hcb ?_
         rw[HXY.out.1,HXY.out.2]
         exact HPL.out jp (by have:=HJP.out;omega) (by have:=HJP.out;omega)
        exact HRS.out.le h1 (show k<=jp by have:=HJP.out;omega) (by have:=HJP.out;omega) (clT_weak T) hjx))
       clear hneg
       go_wp2_with fail
       go_quiet_grown (first|(go_at_call 175;refine Calls.grown_of (HCM.out _)))
       have HW2:Hid (grow (wr.drewN nq) osq=sortWorldK (encT T) 2 w blk 0 (m+nq) dj (oj++osq)):=HCLS.out nq osq
       dsimp only
       clear g0 g1 g2 g3 x0c x0f x1c x1f y0c y0f y1c y1f hHj hbw
       go_wp2_with fail
       go_roundw
       case rel=>exact⟨i+1,m+nq,dj,oj++osq,by go_num,by omega,by omega,HSJ.out,HO.out.1,HO.out.2,HW2.out⟩
       case measure=>simp[intOf];omega
     ·have hjad:decide ((a:Int)<(j:Int))=false:=decide_eq_false (by omega)
      have hjaz:¬(a:Int)<(j:Int):=by omega
      have HO:=hideO (OUT.out (fun k h1 h2=>absurd h2 (by omega)))
      have HDR:Hid (wr.drew=sortWorldK (encT T) 2 w blk 0 (m+1) dj oj):=by
       unfold Hid
       rw[hwr]
       rfl
      clear hwr
      go_wp2_with fail
      go_region
      all_goals (try go_wp2_with fail)
      all_goals go_roundw
      case rel=>exact⟨i+1,m+1,dj,oj,by go_num,by omega,by omega,HSJ.out,HO.out.1,HO.out.2,HDR.out⟩
      case measure=>simp[intOf];omega
   ·obtain rfl:i=b:=by omega
    go_wp2_with fail
    refine bodyPost_end (v:=.tuple #[]) (by simp[results,Tryz.results207,go_sem]) rfl ⟨rfl,n,dk,os,HW.out,HSK.out,HPM.out,HRS.out⟩
end Go.Proofs.YtkgjfdanjmnmbaaGreatDoor.So


namespace Go.Proofs.YtkgjfdanjmnmbaaGreatDoor.So
open Go.RowKit Go.Sort Go.Proofs
theorem mergeA_T (T:Nat->ByteArray) (blk cap a b:Nat) (d:Array Nat) (w:World) (hH:HoldsK (encT T) 2 w blk 0 d) (hblk:blk<w.heap.size) (hab:a+1<b) (hb:b<=d.size) (hsz:d.size<=1048576)
  (hr2:Ris (clT T) (a+1) b (dF d)) (hsep:Sep a (a+1) b (dF d)) :
  Calls Tryz.prog 208 #[.slice (some ⟨blk,0,none⟩) d.size cap,.int .i64 a,.int .i64 (a+1:Nat),.int .i64 b,.func (.func 175) #[] #[]] w fun e w' =>
   e=.returned (.tuple #[])/\∃ n d' os,w'=sortWorldK (encT T) 2 w blk 0 n d' os/\d'.size=d.size/\PermF a b (dF d) (dF d')/\Ris (clT T) a b (dF d'):=by
 have mixed:=mixed
 have HST:=hideO (world_self hH)
 have HH:=hideO hH
 have HR2:=hideO hr2
 have HSP:=hideO hsep
 clear hH hr2 hsep
 obtain⟨z,hz⟩:∃ z,z=d.size:=⟨_,rfl⟩
 have HZ:=hideO hz
 rw[<-hz]at hb hsz ⊢
 clear hz
 obtain⟨f,hf⟩:∃ f,f=dF d:=⟨_,rfl⟩
 have HFD:=hideO hf
 rw[<-hf]at HR2 HSP ⊢
 clear hf
 obtain⟨m,hm⟩:∃ m,m=a+1:=⟨_,rfl⟩
 have hma:(m:Int)-(a:Int)=1:=by omega
 have ham:a<m:=by omega
 rw[<-hm]at hab HR2 HSP ⊢
 have HM:=hideO hm
 clear hm
 go_enter Tryz.func208,Tryz.ntmps208
 go_wp2_with fail
 clear hma
 go_loopw [10,11] (fun u v wr=>∃ (i j n:Nat) (os:Array Obj),u=.int .i64 i/\v=.int .i64 j/\m<=i/\i<=j/\j<=b/\(m<i->lx (clT T) (f (i-1)) (f a))/\(j<b->lx (clT T) (f a) (f j))/\wr=sortWorldK (encT T) 2 w blk 0 n d os) (fun u v _=>(intOf v).toNat-(intOf u).toNat)
 case atStart=>exact⟨m,b,0,#[],rfl,rfl,Nat.le_refl _,by omega,Nat.le_refl _,fun h=>absurd h (by omega),fun h=>absurd h (by omega),HST.out⟩
 case round =>
  obtain⟨i,j,n,os,rfl,rfl,hmi,hij,hjb,hlo,hhi,hwr⟩:=hrel
  have HLO:=hideO hlo
  have HHI:=hideO hhi
  have HW:=hideO hwr
  clear hlo hhi
  by_cases hlt:i<j
  ·obtain⟨h,hh⟩:∃ h,h=(i+j)/2:=⟨_,rfl⟩
   have e1:((i:Int)+(j:Int))/2=(h:Int):=by omega
   have hhb:h<z:=by omega
   have hih:i<=h:=by omega
   have hhj:h<j:=by omega
   have hHj:HoldsK (encT T) 2 wr blk 0 d:=by rw[hwr];exact world_holds HH.out hblk n d os rfl
   have hbw:blk<wr.heap.size:=by rw[hwr];exact Nat.lt_of_lt_of_le hblk (world_size n d os)
   obtain⟨x0c,x0f,x1c,x1f⟩:=cells_T hHj (i:=h) (by have:=HZ.out;omega)
   obtain⟨y0c,y0f,y1c,y1f⟩:=cells_T hHj (i:=a) (by have:=HZ.out;omega)
   obtain⟨x,hx⟩:∃ x,x=d[h]!:=⟨_,rfl⟩
   obtain⟨y,hy⟩:∃ y,y=d[a]!:=⟨_,rfl⟩
   have HXY:Hid (x=f h/\y=f a):=⟨by rw[hx,HFD.out];rfl,by rw[hy,HFD.out];rfl⟩
   rw[<-hx]at x0c x1c
   rw[<-hy]at y0c y1c
   have g0:=fun n' os'=>cell_grown (a:=⟨blk,h*2,none⟩) hbw x0c n' os'
   have g1:=fun n' os'=>cell_grown (a:=⟨blk,h*2+1,none⟩) hbw x1c n' os'
   have g2:=fun n' os'=>cell_grown (a:=⟨blk,a*2,none⟩) hbw y0c n' os'
   have g3:=fun n' os'=>cell_grown (a:=⟨blk,a*2+1,none⟩) hbw y1c n' os'
   have HCM:Hid (∀ W,Calls Tryz.prog 175 #[.agg #[.int .i64 x,.string (T x)],.agg #[.int .i64 y,.string (T y)]] W fun e w'=>e=.returned (.int .i64 (cfT T x y))/\∃ q os',w'=grow (W.drewN q) os'):=fun W=>cmp_T T x y W
   have hneg:=cfT_neg T x y
   obtain⟨r,hr⟩:∃ r,r=cfT T x y:=⟨_,rfl⟩
   rw[<-hr]at hneg HCM
   have hz1:(h:Int)<(z:Int):=by omega
   have hz2:(a:Int)<(z:Int):=by omega
   have HCLS:=hideO (fun n' os'=>sortWorldK_grown_c (encT T) 2 w blk 0 n n' d os os')
   rw[<-hwr]at HCLS
   clear hr hx hy hwr hh x0c x0f x1c x1f y0c y0f y1c y1f hHj hbw
   cases hcb:clT T x y with
   |true =>
    rw[hcb]at hneg
    have hlv:r<0:=of_decide_eq_true hneg
    have HL2:Hid (lx (clT T) (f h) (f a)):=by
     unfold Hid
     rw[<-HXY.out.1,<-HXY.out.2]
     exact lx_yes hcb
    clear hneg
    go_wp2_with fail
    go_quiet_grown (first|(go_at_call 175;refine Calls.grown_of (HCM.out _)))
    have HW2:Hid (grow (wr.drewN nq) osq=sortWorldK (encT T) 2 w blk 0 (n+nq) d (os++osq)):=HCLS.out nq osq
    dsimp only
    clear g0 g1 g2 g3
    go_wp2_with fail
    go_roundw
    case rel=>exact⟨h+1,j,n+nq,os++osq,by go_num,rfl,by omega,by omega,hjb,fun _=>HL2.out,HHI.out,HW2.out⟩
    case measure=>simp[intOf];omega
   |false =>
    rw[hcb]at hneg
    have hlv:¬r<0:=of_decide_eq_false hneg
    have HL2:Hid (lx (clT T) (f a) (f h)):=by
     unfold Hid
     have hpl:=HSP.out a h (Nat.le_refl _) ham (by omega) (by omega)
     rw[<-HXY.out.1,<-HXY.out.2]at hpl ⊢
     exact lx_no hcb hpl
    clear hneg
    go_wp2_with fail
    go_quiet_grown (first|(go_at_call 175;refine Calls.grown_of (HCM.out _)))
    have HW2:Hid (grow (wr.drewN nq) osq=sortWorldK (encT T) 2 w blk 0 (n+nq) d (os++osq)):=HCLS.out nq osq
    dsimp only
    clear g0 g1 g2 g3
    go_wp2_with fail
    go_roundw
    case rel=>exact⟨i,h,n+nq,os++osq,rfl,rfl,hmi,by omega,by omega,HLO.out,fun _=>HL2.out,HW2.out⟩
    case measure=>simp[intOf];omega
  ·obtain rfl:i=j:=by omega
   have HRR:Hid (Ris (clT T) a b (rotF a m i f)):=by
    unfold Hid
    have hmm:=HM.out
    rw[hmm]at HR2 ⊢
    exact up_ris (clT_weak T) HR2.out (by omega) (by omega)
     (fun k h1 h2=>HR2.out.le h1 (show k<=i-1 by omega) (by omega) (clT_weak T) (HLO.out (by omega)))
     (fun k h1 h2=>HR2.out.ge (by omega) h1 h2 (clT_weak T) (HHI.out (by omega)))
   have HPP:Hid (PermF a b f (rotF a m i f)):=(rot_perm f (by omega) (by omega)).mono (Nat.le_refl _) (by omega) hjb
   clear hwr
   go_wp2_with fail
   go_loopw [13] (fun u wr2=>∃ (k n:Nat) (dk:Array Nat) (os:Array Obj),u=.int .i64 k/\a<=k/\k+1<=i/\dk.size=z/\dF dk=rotF a m (k+1) f/\wr2=sortWorldK (encT T) 2 w blk 0 n dk os) (fun u _=>i-(intOf u).toNat)
   case atStart=>exact⟨a,n,d,os,rfl,Nat.le_refl _,by omega,HZ.out.symm,by rw[HM.out,rot_up0];exact HFD.out.symm,HW.out⟩
   case round =>
    obtain⟨k,n2,dk,os2,rfl,hak,hki,hsk,hfk,hwr⟩:=hrel
    have HSK:=hideO hsk
    have HFK:=hideO hfk
    obtain⟨ip,hip⟩:∃ ip,i=ip+1:=⟨i-1,by omega⟩
    have eip:(i:Int)-1=(ip:Int):=by omega
    have hipw:IntKind.i64.wrap (ip:Int)=(ip:Int):=by rw[IntKind.wrap_i64];omega
    have HIP:=hideO hip
    by_cases hlt2:k+1<i
    ·obtain⟨q,hq⟩:∃ q,q=k+1:=⟨_,rfl⟩
     have eq1:(k:Int)+1=(q:Int):=by omega
     have hH2:HoldsK (encT T) 2 wr blk 0 dk:=by rw[hwr];exact world_holds HH.out hblk n2 dk os2 (hsk.trans HZ.out)
     obtain⟨x0c,x0f,x1c,x1f⟩:=cells_T hH2 (i:=k) (by omega)
     obtain⟨y0c,y0f,y1c,y1f⟩:=cells_T hH2 (i:=q) (by omega)
     obtain⟨x,hx⟩:∃ x,x=dk[k]!:=⟨_,rfl⟩
     obtain⟨y,hy⟩:∃ y,y=dk[q]!:=⟨_,rfl⟩
     have hsw:=sortWorldK_swp_c (encT T) 2 w blk 0 (encT_len T) n2 dk os2 hblk k q (by omega) (by omega)
     rw[<-hx,<-hy,<-hwr,Nat.zero_add,Nat.zero_add]at hsw
     rw[<-hx]at x0c x1c
     rw[<-hy]at y0c y1c
     have HSW:=hideO hsw
     have hkz:(k:Int)<(z:Int):=by omega
     have hqz:(q:Int)<(z:Int):=by omega
     have hqw:IntKind.i64.wrap (q:Int)=(q:Int):=by rw[IntKind.wrap_i64];omega
     have hkip:(k:Int)<(ip:Int):=by omega
     have hkq:k<q:=by omega
     have HQ:=hideO hq
     have HROT:Hid (So.swp (rotF a m (k+1) f) k q=rotF a m (k+2) f):=by
      unfold Hid
      rw[HM.out,hq]
      exact rot_up a k f hak
     clear hwr hH2 hx hy hsw hsk hfk hip hq
     go_wp2_with fail
     go_region
     all_goals (try go_wp2_with fail)
     all_goals go_roundw
     case rel =>
      refine⟨q,n2+1,Go.Sort.swp dk k q,os2,rfl,by omega,by have:=HQ.out;omega,by rw[Go.Sort.size_swp];exact HSK.out,?_,HSW.out⟩
      rw[dF_swp dk k q (by have:=HSK.out;have:=HQ.out;omega) (by have:=HSK.out;have:=HQ.out;omega),HFK.out,HROT.out,HQ.out]
     case measure=>have:=HQ.out;simp[intOf];omega
    ·have hkip:¬(k:Int)<(ip:Int):=by omega
     have HWW:=hideO hwr
     have HE:Hid (dF dk=rotF a m i f):=by
      unfold Hid
      rw[hfk,show k+1=i by omega]
     clear hwr hsk hfk hip
     go_wp2_with fail
     refine bodyPost_ret (v:=.tuple #[]) (by simp[results,Tryz.results208,go_sem]) rfl ⟨rfl,n2,dk,⟨os2,HWW.out⟩,HSK.out,by rw[HE.out];exact HPP.out,by rw[HE.out];exact HRR.out⟩
end Go.Proofs.YtkgjfdanjmnmbaaGreatDoor.So


namespace Go.Proofs.YtkgjfdanjmnmbaaGreatDoor.So
open Go.RowKit Go.Sort Go.Proofs
theorem mergeB_T (T:Nat->ByteArray) (blk cap a m:Nat) (d:Array Nat) (w:World) (hH:HoldsK (encT T) 2 w blk 0 d) (hblk:blk<w.heap.size) (ham:a+1<m) (hb:m+1<=d.size) (hsz:d.size<=1048576)
  (hr1:Ris (clT T) a m (dF d)) (hsep:Sep a m (m+1) (dF d)) :
  Calls Tryz.prog 208 #[.slice (some ⟨blk,0,none⟩) d.size cap,.int .i64 a,.int .i64 m,.int .i64 (m+1:Nat),.func (.func 175) #[] #[]] w fun e w' =>
   e=.returned (.tuple #[])/\∃ n d' os,w'=sortWorldK (encT T) 2 w blk 0 n d' os/\d'.size=d.size/\PermF a (m+1) (dF d) (dF d')/\Ris (clT T) a (m+1) (dF d'):=by
 have mixed:=mixed
 have HST:=hideO (world_self hH)
 have HH:=hideO hH
 have HR1:=hideO hr1
 have HSP:=hideO hsep
 clear hH hr1 hsep
 obtain⟨z,hz⟩:∃ z,z=d.size:=⟨_,rfl⟩
 have HZ:=hideO hz
 rw[<-hz]at hb hsz ⊢
 clear hz
 obtain⟨f,hf⟩:∃ f,f=dF d:=⟨_,rfl⟩
 have HFD:=hideO hf
 rw[<-hf]at HR1 HSP ⊢
 clear hf
 obtain⟨b,hm⟩:∃ b,b=m+1:=⟨_,rfl⟩
 have hbm:(b:Int)-(m:Int)=1:=by omega
 have hma:((m:Int)-(a:Int)==1)=false:=beq_eq_false_iff_ne.2 (by omega)
 rw[<-hm]at hb HSP ⊢
 have HM:=hideO hm
 have hmb:m<b:=by omega
 clear hm
 go_enter Tryz.func208,Tryz.ntmps208
 go_wp2_with fail
 clear hbm hma
 go_loopw [14,15] (fun u v wr=>∃ (i j n:Nat) (os:Array Obj),u=.int .i64 i/\v=.int .i64 j/\a<=i/\i<=j/\j<=m/\(a<i->lx (clT T) (f (i-1)) (f m))/\(j<m->lx (clT T) (f m) (f j))/\wr=sortWorldK (encT T) 2 w blk 0 n d os) (fun u v _=>(intOf v).toNat-(intOf u).toNat)
 case atStart=>exact⟨a,m,0,#[],rfl,rfl,Nat.le_refl _,by omega,Nat.le_refl _,fun h=>absurd h (by omega),fun h=>absurd h (by omega),HST.out⟩
 case round =>
  obtain⟨i,j,n,os,rfl,rfl,hai,hij,hjm,hlo,hhi,hwr⟩:=hrel
  have HLO:=hideO hlo
  have HHI:=hideO hhi
  have HW:=hideO hwr
  clear hlo hhi
  by_cases hlt:i<j
  ·obtain⟨h,hh⟩:∃ h,h=(i+j)/2:=⟨_,rfl⟩
   have e1:((i:Int)+(j:Int))/2=(h:Int):=by omega
   have hhb:h<z:=by omega
   have hih:i<=h:=by omega
   have hhj:h<j:=by omega
   have hHj:HoldsK (encT T) 2 wr blk 0 d:=by rw[hwr];exact world_holds HH.out hblk n d os rfl
   have hbw:blk<wr.heap.size:=by rw[hwr];exact Nat.lt_of_lt_of_le hblk (world_size n d os)
   obtain⟨x0c,x0f,x1c,x1f⟩:=cells_T hHj (i:=m) (by have:=HZ.out;omega)
   obtain⟨y0c,y0f,y1c,y1f⟩:=cells_T hHj (i:=h) (by have:=HZ.out;omega)
   obtain⟨x,hx⟩:∃ x,x=d[m]!:=⟨_,rfl⟩
   obtain⟨y,hy⟩:∃ y,y=d[h]!:=⟨_,rfl⟩
   have HXY:Hid (x=f m/\y=f h):=⟨by rw[hx,HFD.out];rfl,by rw[hy,HFD.out];rfl⟩
   rw[<-hx]at x0c x1c
   rw[<-hy]at y0c y1c
   have g0:=fun n' os'=>cell_grown (a:=⟨blk,m*2,none⟩) hbw x0c n' os'
   have g1:=fun n' os'=>cell_grown (a:=⟨blk,m*2+1,none⟩) hbw x1c n' os'
   have g2:=fun n' os'=>cell_grown (a:=⟨blk,h*2,none⟩) hbw y0c n' os'
   have g3:=fun n' os'=>cell_grown (a:=⟨blk,h*2+1,none⟩) hbw y1c n' os'
   have HCM:Hid (∀ W,Calls Tryz.prog 175 #[.agg #[.int .i64 x,.string (T x)],.agg #[.int .i64 y,.string (T y)]] W fun e w'=>e=.returned (.int .i64 (cfT T x y))/\∃ q os',w'=grow (W.drewN q) os'):=fun W=>cmp_T T x y W
   have hneg:=cfT_neg T x y
   obtain⟨r,hr⟩:∃ r,r=cfT T x y:=⟨_,rfl⟩
   rw[<-hr]at hneg HCM
   have hz1:(h:Int)<(z:Int):=by omega
   have hz2:(m:Int)<(z:Int):=by omega
   have HCLS:=hideO (fun n' os'=>sortWorldK_grown_c (encT T) 2 w blk 0 n n' d os os')
   rw[<-hwr]at HCLS
   clear hr hx hy hwr hh x0c x0f x1c x1f y0c y0f y1c y1f hHj hbw
   cases hcb:clT T x y with
   |false =>
    rw[hcb]at hneg
    have hlv:¬r<0:=of_decide_eq_false hneg
    have hlv':decide (r<0)=false:=hneg
    have HL2:Hid (lx (clT T) (f h) (f m)):=by
     unfold Hid
     have hpl:=HSP.out h m (by omega) (by omega) (Nat.le_refl _) hmb
     rw[<-HXY.out.1,<-HXY.out.2]at hpl ⊢
     exact lx_no hcb hpl
    clear hneg
    go_wp2_with fail
    go_quiet_grown (first|(go_at_call 175;refine Calls.grown_of (HCM.out _)))
    have HW2:Hid (grow (wr.drewN nq) osq=sortWorldK (encT T) 2 w blk 0 (n+nq) d (os++osq)):=HCLS.out nq osq
    dsimp only
    clear g0 g1 g2 g3
    go_wp2_with fail
    go_roundw
    case rel=>exact⟨h+1,j,n+nq,os++osq,by go_num,rfl,by omega,by omega,hjm,fun _=>HL2.out,HHI.out,HW2.out⟩
    case measure=>simp[intOf];omega
   |true =>
    rw[hcb]at hneg
    have hlv:r<0:=of_decide_eq_true hneg
    have hlv':decide (r<0)=true:=hneg
    have HL2:Hid (lx (clT T) (f m) (f h)):=by
     unfold Hid
     rw[<-HXY.out.1,<-HXY.out.2]
     exact lx_yes hcb
    clear hneg
    go_wp2_with fail
    go_quiet_grown (first|(go_at_call 175;refine Calls.grown_of (HCM.out _)))
    have HW2:Hid (grow (wr.drewN nq) osq=sortWorldK (encT T) 2 w blk 0 (n+nq) d (os++osq)):=HCLS.out nq osq
    dsimp only
    clear g0 g1 g2 g3
    go_wp2_with fail
    go_roundw
    case rel=>exact⟨i,h,n+nq,os++osq,rfl,rfl,hai,by omega,by omega,HLO.out,fun _=>HL2.out,HW2.out⟩
    case measure=>simp[intOf];omega
  ·obtain rfl:i=j:=by omega
   have HRR:Hid (Ris (clT T) a b (rotF i m b f)):=by
    unfold Hid
    have hmm:=HM.out
    rw[hmm]
    exact down_ris (clT_weak T) HR1.out hai hjm
     (fun k h1 h2=>HR1.out.le h1 (show k<=i-1 by omega) (by omega) (clT_weak T) (HLO.out (by omega)))
     (fun k h1 h2=>HR1.out.ge hai h1 h2 (clT_weak T) (HHI.out (by omega)))
   have HPP:Hid (PermF a b f (rotF i m b f)):=(rot_perm f hjm (by omega)).mono hai (by omega) (Nat.le_refl _)
   clear hwr
   go_wp2_with fail
   go_loopw [17] (fun u wr2=>∃ (k n:Nat) (dk:Array Nat) (os:Array Obj),u=.int .i64 k/\i<=k/\k<=m/\dk.size=z/\dF dk=rotF k m b f/\wr2=sortWorldK (encT T) 2 w blk 0 n dk os) (fun u _=>(intOf u).toNat)
   case atStart=>exact⟨m,n,d,os,rfl,hjm,Nat.le_refl _,HZ.out.symm,by rw[HM.out,rot_down0];exact HFD.out.symm,HW.out⟩
   case round =>
    obtain⟨k,n2,dk,os2,rfl,hik,hkm,hsk,hfk,hwr⟩:=hrel
    have HSK:=hideO hsk
    have HFK:=hideO hfk
    by_cases hlt2:i<k
    ·obtain⟨q,hq⟩:∃ q,k=q+1:=⟨k-1,by omega⟩
     have eq1:(k:Int)-1=(q:Int):=by omega
     have hH2:HoldsK (encT T) 2 wr blk 0 dk:=by rw[hwr];exact world_holds HH.out hblk n2 dk os2 (hsk.trans HZ.out)
     obtain⟨x0c,x0f,x1c,x1f⟩:=cells_T hH2 (i:=k) (by omega)
     obtain⟨y0c,y0f,y1c,y1f⟩:=cells_T hH2 (i:=q) (by omega)
     obtain⟨x,hx⟩:∃ x,x=dk[k]!:=⟨_,rfl⟩
     obtain⟨y,hy⟩:∃ y,y=dk[q]!:=⟨_,rfl⟩
     have hsw:=sortWorldK_swp_c (encT T) 2 w blk 0 (encT_len T) n2 dk os2 hblk k q (by omega) (by omega)
     rw[<-hx,<-hy,<-hwr,Nat.zero_add,Nat.zero_add]at hsw
     rw[<-hx]at x0c x1c
     rw[<-hy]at y0c y1c
     have HSW:=hideO hsw
     have hkz:(k:Int)<(z:Int):=by omega
     have hqz:(q:Int)<(z:Int):=by omega
     have hqw:IntKind.i64.wrap (q:Int)=(q:Int):=by rw[IntKind.wrap_i64];omega
     have hik2:(i:Int)<(k:Int):=by omega
     have hqk:q<k:=by omega
     have HQ:=hideO hq
     have HROT:Hid (So.swp (rotF k m b f) k q=rotF q m b f):=by
      unfold Hid
      rw[HM.out,hq]
      exact rot_down q m f (by omega)
     clear hwr hH2 hx hy hsw hsk hfk hq
     go_wp2_with fail
     go_region
     all_goals (try go_wp2_with fail)
     all_goals go_roundw
     case rel =>
      refine⟨q,n2+1,Go.Sort.swp dk k q,os2,rfl,by have:=HQ.out;omega,by omega,by rw[Go.Sort.size_swp];exact HSK.out,?_,HSW.out⟩
      rw[dF_swp dk k q (by have:=HSK.out;omega) (by have:=HSK.out;omega),HFK.out,HROT.out]
     case measure=>simp[intOf];omega
    ·have hik2:¬(i:Int)<(k:Int):=by omega
     have HWW:=hideO hwr
     have HE:Hid (dF dk=rotF i m b f):=by
      unfold Hid
      rw[hfk,show k=i by omega]
     clear hwr hsk hfk
     go_wp2_with fail
     refine bodyPost_ret (v:=.tuple #[]) (by simp[results,Tryz.results208,go_sem]) rfl ⟨rfl,n2,dk,⟨os2,HWW.out⟩,HSK.out,by rw[HE.out];exact HPP.out,by rw[HE.out];exact HRR.out⟩
end Go.Proofs.YtkgjfdanjmnmbaaGreatDoor.So


namespace Go.Proofs.YtkgjfdanjmnmbaaGreatDoor.So
open Go.RowKit Go.Sort Go.Proofs
theorem swapRange_T (T:Nat->ByteArray) (blk cap a b n:Nat) (d:Array Nat) (w:World) (cv:Value) (hH:HoldsK (encT T) 2 w blk 0 d) (hblk:blk<w.heap.size) (hab:a+n<=b) (hb:b+n<=d.size) (hsz:d.size<=1048576) :
  Calls Tryz.prog 216 #[.slice (some ⟨blk,0,none⟩) d.size cap,.int .i64 a,.int .i64 b,.int .i64 n,cv] w fun e w' =>
   e=.returned (.tuple #[])/\∃ m d',w'=sortWorldK (encT T) 2 w blk 0 m d' #[]/\d'.size=d.size/\dF d'=swpR a b n (dF d):=by
 have HST:=hideO (world_self hH)
 have HH:=hideO hH
 clear hH
 obtain⟨z,hz⟩:∃ z,z=d.size:=⟨_,rfl⟩
 have HZ:=hideO hz
 rw[<-hz]at hb hsz ⊢
 clear hz
 go_enter Tryz.func216,Tryz.ntmps216
 go_wp2_with fail
 go_loopw [10] (fun i wr=>∃ (k m:Nat) (dk:Array Nat),i=.int .i64 k/\k<=n/\dk.size=z/\dF dk=swpR a b k (dF d)/\wr=sortWorldK (encT T) 2 w blk 0 m dk #[]) (fun i _=>n-(intOf i).toNat)
 case atStart=>exact⟨0,0,d,rfl,Nat.zero_le _,HZ.out.symm,(swpR_zero a b (dF d)).symm,HST.out⟩
 case round =>
  obtain⟨k,m,dk,rfl,hk,hsk,hfk,hwr⟩:=hrel
  have HF:=hideO hfk
  have HSK:=hideO hsk
  have HHk:=hideO (world_holds HH.out hblk (m+1) dk #[] (by rw[hsk,HZ.out]))
  have HW:=hideO hwr
  have hdr:wr.drew=sortWorldK (encT T) 2 w blk 0 (m+1) dk #[]:=by rw[hwr];rfl
  have HDR:=hideO hdr
  clear hfk hwr
  by_cases hlt:k<n
  ·obtain⟨p,hp⟩:∃ p,p=a+k:=⟨_,rfl⟩
   obtain⟨q,hq⟩:∃ q,q=b+k:=⟨_,rfl⟩
   have ep:(a:Int)+(k:Int)=(p:Int):=by omega
   have eq:(b:Int)+(k:Int)=(q:Int):=by omega
   have hpz:p<z:=by omega
   have hqz:q<z:=by omega
   have hpq:p<q:=by omega
   have HPQ:Hid (p=a+k/\q=b+k):=⟨hp,hq⟩
   obtain⟨x,hx⟩:∃ x,x=dk[p]!:=⟨_,rfl⟩
   obtain⟨y,hy⟩:∃ y,y=dk[q]!:=⟨_,rfl⟩
   have hd:wr.drew=sortWorldK (encT T) 2 w blk 0 (m+1) dk #[]:=hdr
   have hHd:HoldsK (encT T) 2 wr blk 0 dk:=by
    have:HoldsK (encT T) 2 wr.drew blk 0 dk:=by rw[hd];exact HHk.out
    exact this
   have hsw:((wr.drew.setCells blk (0+p*2) (encT T y)).setCells blk (0+q*2) (encT T x))=sortWorldK (encT T) 2 w blk 0 (m+1) (Go.Sort.swp dk p q) #[]:=by
    rw[HW.out,hx,hy]
    exact sortWorldK_swp_c (encT T) 2 w blk 0 (encT_len T) m dk #[] hblk p q (by omega) (by omega)
   rw[Nat.zero_add,Nat.zero_add]at hsw
   obtain⟨x0c,x0f,x1c,x1f⟩:=cells_T hHd (i:=p) (by omega)
   obtain⟨y0c,y0f,y1c,y1f⟩:=cells_T hHd (i:=q) (by omega)
   rw[<-hx]at x0c x1c
   rw[<-hy]at y0c y1c
   have hpw:IntKind.i64.wrap (p:Int)=(p:Int):=by rw[IntKind.wrap_i64];omega
   have hqw:IntKind.i64.wrap (q:Int)=(q:Int):=by rw[IntKind.wrap_i64];omega
   have hpz':(p:Int)<(z:Int):=by omega
   have hqz':(q:Int)<(z:Int):=by omega
   have HSW:=hideO hsw
   have HXY:Hid (x=dk[p]!/\y=dk[q]!):=⟨hx,hy⟩
   have HNX:Hid (So.swp (swpR a b k (dF d)) p q=swpR a b (k+1) (dF d)):=by
    unfold Hid
    rw[hp,hq]
    exact swpR_next a b k (dF d) (by omega)
   clear hd hdr hx hy hp hq hsk hHd hsw
   go_wp2_with fail
   go_region
   all_goals (try go_wp2_with fail)
   all_goals go_roundw
   case rel =>
    refine⟨k+1,m+1,Go.Sort.swp dk p q,by go_num,by omega,by rw[Go.Sort.size_swp];exact HSK.out,?_,HSW.out⟩
    rw[dF_swp dk p q (by have:=HSK.out;omega) (by have:=HSK.out;omega),HF.out]
    exact HNX.out
   case measure=>simp[intOf];omega
  ·obtain rfl:k=n:=by omega
   clear hdr hsk
   go_wp2_with fail
   refine bodyPost_end (v:=.tuple #[]) (by simp[results,Tryz.results216,go_sem]) rfl ⟨rfl,m,dk,HW.out,HSK.out,HF.out⟩
end Go.Proofs.YtkgjfdanjmnmbaaGreatDoor.So


namespace Go.Proofs.YtkgjfdanjmnmbaaGreatDoor.So
open Go.RowKit Go.Sort Go.Proofs
theorem rotate_T (T:Nat->ByteArray) (blk cap a m b:Nat) (d:Array Nat) (w:World) (cv:Value) (hH:HoldsK (encT T) 2 w blk 0 d) (hblk:blk<w.heap.size) (ham:a<m) (hmb:m<b) (hb:b<=d.size) (hsz:d.size<=1048576) :
  Calls Tryz.prog 213 #[.slice (some ⟨blk,0,none⟩) d.size cap,.int .i64 a,.int .i64 m,.int .i64 b,cv] w fun e w' =>
   e=.returned (.tuple #[])/\∃ n d',w'=sortWorldK (encT T) 2 w blk 0 n d' #[]/\d'.size=d.size/\dF d'=rotF a m b (dF d):=by
 have HST:=hideO (world_self hH)
 have HH:=hideO hH
 clear hH
 obtain⟨z,hz⟩:∃ z,z=d.size:=⟨_,rfl⟩
 have HZ:=hideO hz
 rw[<-hz]at hb hsz ⊢
 clear hz
 have HC:=hideO (fun (n:Nat) (dk:Array Nat) (hs:dk.size=z) (p q l:Nat) (h1:p+l<=q) (h2:q+l<=z) =>
  swapRange_T T blk cap p q l dk (sortWorldK (encT T) 2 w blk 0 n dk #[]) cv (world_holds HH.out hblk n dk #[] (hs.trans HZ.out)) (Nat.lt_of_lt_of_le hblk (world_size n dk #[])) h1 (by rw[hs];exact h2) (by rw[hs];exact hsz))
 have HWW:=hideO (fun (n n':Nat) (dk d':Array Nat) (hs:d'.size=dk.size)=>world_world (enc:=encT T) (k:=2) (w:=w) (blk:=blk) (off:=0) n n' dk d' #[] #[] hblk hs)
 obtain⟨i0,hi0⟩:∃ i0,i0=m-a:=⟨_,rfl⟩
 obtain⟨j0,hj0⟩:∃ j0,j0=b-m:=⟨_,rfl⟩
 have h1:((m:Int)-(a:Int))=(i0:Int):=by omega
 have h2:((b:Int)-(m:Int))=(j0:Int):=by omega
 have HIJ:Hid (i0=m-a/\j0=b-m):=⟨hi0,hj0⟩
 clear hi0 hj0
 go_enter Tryz.func213,Tryz.ntmps213
 go_wp2_with fail
 clear h1 h2
 go_loopw [10,11] (fun u v wr=>∃ (i j n:Nat) (dk:Array Nat),u=.int .i64 i/\v=.int .i64 j/\0<i/\0<j/\i<=m-a/\j<=b-m/\dk.size=z/\rotF (m-i) m (m+j) (dF dk)=rotF a m b (dF d)/\wr=sortWorldK (encT T) 2 w blk 0 n dk #[]) (fun u v _=>(intOf u).toNat+(intOf v).toNat)
 case atStart =>
  have hij:=HIJ.out
  exact⟨i0,j0,0,d,rfl,rfl,by omega,by omega,by omega,by omega,HZ.out.symm,by rw[hij.1,hij.2,show m-(m-a)=a by omega,show m+(b-m)=b by omega],HST.out⟩
 case round =>
  obtain⟨i,j,n,dk,rfl,rfl,hi,hj,hia,hjb,hsk,hrot,hwr⟩:=hrel
  have HR:=hideO hrot
  have HSK:=hideO hsk
  have HW:=hideO hwr
  have HCk:=hideO (fun p q l h1 h2=>HC.out n dk hsk p q l h1 h2)
  rw[<-hwr,hsk]at HCk
  obtain⟨p,hp⟩:∃ p,p=m-i:=⟨_,rfl⟩
  have e1:(m:Int)-(i:Int)=(p:Int):=by omega
  rw[<-hp]at HR
  have HP:=hideO hp
  clear hrot hsk hwr hp
  by_cases hij:i=j
  ·subst hij
   have hne:((i:Int) != (i:Int))=false:=by simp
   have HCC:=hideO (HCk.out p m i (by have:=HP.out;omega) (by omega))
   go_wp2_with fail
   refine HCC.out.mono ?_
   rintro e w' ⟨rfl,n',d',hw',hs',hf'⟩
   have HX:Hid (w'=sortWorldK (encT T) 2 w blk 0 (n+n') d' #[]):=by
    unfold Hid
    rw[hw',HW.out,HWW.out n n' dk d' (hs'.trans HSK.out.symm)]
    rfl
   have HF:Hid (dF d'=rotF a m b (dF d)):=by
    unfold Hid
    rw[hf',HP.out,rot_even m i (dF dk) (by omega),<-HR.out,HP.out]
   have HS':=hideO hs'
   clear hw' hs' hf'
   go_wp2_with fail
   refine bodyPost_end (v:=.tuple #[]) (by simp[results,Tryz.results213,go_sem]) rfl ⟨rfl,n+n',d',HX.out,HS'.out,HF.out⟩
  ·have hne:((i:Int) != (j:Int))=true:=by simp;omega
   have HNE:=hideO hij
   clear hij
   by_cases hlt:j<i
   ·have hlt':(j:Int)<(i:Int):=by omega
    obtain⟨r,hr⟩:∃ r,r=i-j:=⟨_,rfl⟩
    have e2:(i:Int)-(j:Int)=(r:Int):=by omega
    have HRR:=hideO hr
    clear hr
    have HCC:=hideO (HCk.out p m j (by have:=HP.out;omega) (by omega))
    go_wp2_with fail
    refine HCC.out.mono ?_
    rintro e w' ⟨rfl,n',d',hw',hs',hf'⟩
    have HX:Hid (w'=sortWorldK (encT T) 2 w blk 0 (n+n') d' #[]):=by
     unfold Hid
     rw[hw',HW.out,HWW.out n n' dk d' (hs'.trans HSK.out.symm)]
     rfl
    have HF:Hid (rotF (m-r) m (m+j) (dF d')=rotF a m b (dF d)):=by
     unfold Hid
     rw[hf',HRR.out,HP.out,rot_long m i j (dF dk) hlt (by omega),<-HR.out,HP.out]
    have HS':=hideO hs'
    clear hw' hs' hf'
    go_wp2_with fail
    go_roundw
    case rel=>exact⟨r,j,n+n',d',rfl,rfl,by have:=HRR.out;omega,hj,by have:=HRR.out;omega,hjb,HS'.out,HF.out,HX.out⟩
    case measure=>have:=HRR.out;simp[intOf];omega
   ·have hlt':¬(j:Int)<(i:Int):=by omega
    obtain⟨r,hr⟩:∃ r,r=j-i:=⟨_,rfl⟩
    have e2:(j:Int)-(i:Int)=(r:Int):=by omega
    have HRR:=hideO hr
    obtain⟨q,hq⟩:∃ q,q=m+j-i:=⟨_,rfl⟩
    have e3:(m:Int)+(j:Int)-(i:Int)=(q:Int):=by omega
    have HQ:=hideO hq
    clear hr hq
    have HCC:=hideO (HCk.out p q i (by have:=HP.out;have:=HQ.out;omega) (by have:=HQ.out;omega))
    go_wp2_with fail
    refine HCC.out.mono ?_
    rintro e w' ⟨rfl,n',d',hw',hs',hf'⟩
    have HX:Hid (w'=sortWorldK (encT T) 2 w blk 0 (n+n') d' #[]):=by
     unfold Hid
     rw[hw',HW.out,HWW.out n n' dk d' (hs'.trans HSK.out.symm)]
     rfl
    have HF:Hid (rotF (m-i) m (m+r) (dF d')=rotF a m b (dF d)):=by
     unfold Hid
     rw[hf',HRR.out,HP.out,HQ.out,rot_short m i j (dF dk) (by have:=HNE.out;omega) (by omega),<-HR.out,HP.out]
    have HS':=hideO hs'
    clear hw' hs' hf'
    go_wp2_with fail
    go_roundw
    case rel=>exact⟨i,r,n+n',d',rfl,rfl,hi,by have:=HRR.out;have:=HNE.out;omega,hia,by have:=HRR.out;omega,HS'.out,HF.out,HX.out⟩
    case measure=>have:=HRR.out;simp[intOf];omega
end Go.Proofs.YtkgjfdanjmnmbaaGreatDoor.So


namespace Go.Proofs.YtkgjfdanjmnmbaaGreatDoor.So
open Go.RowKit Go.Sort Go.Proofs
theorem mergeC_T (T:Nat->ByteArray) (blk cap a m b:Nat) (d:Array Nat) (w:World) (hH:HoldsK (encT T) 2 w blk 0 d) (hblk:blk<w.heap.size) (ham:a+1<m) (hmb:m+1<b) (hb:b<=d.size) (hsz:d.size<=1048576)
  (hr1:Ris (clT T) a m (dF d)) (hr2:Ris (clT T) m b (dF d)) (hsep:Sep a m b (dF d))
  (IH:∀ (a' m' b':Nat) (d':Array Nat) (W:World),b' - a' < b-a->HoldsK (encT T) 2 W blk 0 d'->blk<W.heap.size->a' < m'->m' < b'->b'<=d'.size->d'.size<=1048576->Ris (clT T) a' m' (dF d')->Ris (clT T) m' b' (dF d')->Sep a' m' b' (dF d') ->
   Calls Tryz.prog 208 #[.slice (some ⟨blk,0,none⟩) d'.size cap,.int .i64 a',.int .i64 m',.int .i64 b',.func (.func 175) #[] #[]] W fun e w' =>
    e=.returned (.tuple #[])/\∃ n d'' os,w'=sortWorldK (encT T) 2 W blk 0 n d'' os/\d''.size=d'.size/\PermF a' b' (dF d') (dF d'')/\Ris (clT T) a' b' (dF d'')) :
  Calls Tryz.prog 208 #[.slice (some ⟨blk,0,none⟩) d.size cap,.int .i64 a,.int .i64 m,.int .i64 b,.func (.func 175) #[] #[]] w fun e w' =>
   e=.returned (.tuple #[])/\∃ n d' os,w'=sortWorldK (encT T) 2 w blk 0 n d' os/\d'.size=d.size/\PermF a b (dF d) (dF d')/\Ris (clT T) a b (dF d'):=by
 have mixed:=mixed
 have HST:=hideO (world_self hH)
 have HH:=hideO hH
 have HR1:=hideO hr1
 have HR2:=hideO hr2
 have HSP:=hideO hsep
 have HIH:=hideO IH
 clear hH hr1 hr2 hsep IH
 obtain⟨z,hz⟩:∃ z,z=d.size:=⟨_,rfl⟩
 have HZ:=hideO hz
 rw[<-hz]at hb hsz ⊢
 clear hz
 obtain⟨f,hf⟩:∃ f,f=dF d:=⟨_,rfl⟩
 have HFD:=hideO hf
 rw[<-hf]at HR1 HR2 HSP ⊢
 clear hf
 obtain⟨mid,hmd⟩:∃ mid,mid=(a+b)/2:=⟨_,rfl⟩
 obtain⟨nn,hnn⟩:∃ nn,nn=mid+m:=⟨_,rfl⟩
 obtain⟨p,hp⟩:∃ p,nn=p+1:=⟨nn-1,by omega⟩
 have em:((a:Int)+(b:Int))/2=(mid:Int):=by omega
 have en:(mid:Int)+(m:Int)=(nn:Int):=by omega
 have ep:(nn:Int)-1=(p:Int):=by omega
 have hma:((m:Int)-(a:Int)==1)=false:=beq_eq_false_iff_ne.2 (by omega)
 have hbm:((b:Int)-(m:Int)==1)=false:=beq_eq_false_iff_ne.2 (by omega)
 have hmz:mid<z:=by omega
 have hpz:p<2*z:=by omega
 have hmw:IntKind.i64.wrap (mid:Int)=(mid:Int):=by rw[IntKind.wrap_i64];omega
 rcases Nat.lt_or_ge mid m with hM|hM
 all_goals
  obtain⟨s0,r0,hs0⟩:∃ s0 r0,(s0=a/\r0=m/\m<=mid)∨(nn=s0+b/\r0=mid/\mid<m):=by first|exact⟨a,m,.inl ⟨rfl,rfl,hM⟩⟩|exact⟨nn-b,mid,.inr ⟨by omega,rfl,hM⟩⟩
  have HREL:Hid (2*mid<=a+b/\a+b<=2*mid+1/\nn=mid+m/\nn=p+1/\((s0=a/\r0=m/\m<=mid)∨(nn=s0+b/\r0=mid/\mid<m))):=by
   unfold Hid
   omega
  first|have hmm:(mid:Int)<(m:Int):=by omega|have hmm:¬(mid:Int)<(m:Int):=by omega
  have es:mid<m->(nn:Int)-(b:Int)=(s0:Int):=by omega
  first|have es:=es hM|clear es
  clear hmd hnn hp hs0
  go_enter Tryz.func208,Tryz.ntmps208
  go_wp2_with fail
  try clear es
  clear em en hma hbm
  go_loopw [20,21] (fun u v wr=>∃ (i j n:Nat) (os:Array Obj),u=.int .i64 i/\v=.int .i64 j/\s0<=i/\i<=j/\j<=r0/\(s0<i->lx (clT T) (f (i-1)) (f (p-(i-1))))/\(j<r0->lx (clT T) (f (p-j)) (f j))/\wr=sortWorldK (encT T) 2 w blk 0 n d os) (fun u v _=>(intOf v).toNat-(intOf u).toNat)
  case atStart =>
   have hrel:=HREL.out
   exact⟨s0,r0,0,#[],by first|rfl|(congr 1;omega),by first|rfl|(congr 1;omega),by omega,by omega,Nat.le_refl _,fun h=>absurd h (by omega),fun h=>absurd h (by omega),HST.out⟩
  case round =>
   obtain⟨i,j,n,os,rfl,rfl,hsi,hij,hjr,hlo,hhi,hwr⟩:=hrel
   have hrel:=HREL.out
   have HLO:=hideO hlo
   have HHI:=hideO hhi
   have HW:=hideO hwr
   clear hlo hhi
   by_cases hlt:i<j
   ·obtain⟨c,hc⟩:∃ c,c=(i+j)/2:=⟨_,rfl⟩
    obtain⟨q,hq⟩:∃ q,p=q+c:=⟨p-c,by omega⟩
    have e1:((i:Int)+(j:Int))/2=(c:Int):=by omega
    have e2:(p:Int)-(c:Int)=(q:Int):=by omega
    have hic:i<=c:=by omega
    have hcj:c<j:=by omega
    have hcm:c<m:=by omega
    have hac:a<=c:=by omega
    have hmq:m<=q:=by omega
    have hqb:q<b:=by omega
    have hHj:HoldsK (encT T) 2 wr blk 0 d:=by rw[hwr];exact world_holds HH.out hblk n d os rfl
    have hbw:blk<wr.heap.size:=by rw[hwr];exact Nat.lt_of_lt_of_le hblk (world_size n d os)
    obtain⟨x0c,x0f,x1c,x1f⟩:=cells_T hHj (i:=q) (by have:=HZ.out;omega)
    obtain⟨y0c,y0f,y1c,y1f⟩:=cells_T hHj (i:=c) (by have:=HZ.out;omega)
    obtain⟨x,hx⟩:∃ x,x=d[q]!:=⟨_,rfl⟩
    obtain⟨y,hy⟩:∃ y,y=d[c]!:=⟨_,rfl⟩
    have HXY:Hid (x=f q/\y=f c):=⟨by rw[hx,HFD.out];rfl,by rw[hy,HFD.out];rfl⟩
    rw[<-hx]at x0c x1c
    rw[<-hy]at y0c y1c
    have g0:=fun n' os'=>cell_grown (a:=⟨blk,q*2,none⟩) hbw x0c n' os'
    have g1:=fun n' os'=>cell_grown (a:=⟨blk,q*2+1,none⟩) hbw x1c n' os'
    have g2:=fun n' os'=>cell_grown (a:=⟨blk,c*2,none⟩) hbw y0c n' os'
    have g3:=fun n' os'=>cell_grown (a:=⟨blk,c*2+1,none⟩) hbw y1c n' os'
    have HCM:Hid (∀ W,Calls Tryz.prog 175 #[.agg #[.int .i64 x,.string (T x)],.agg #[.int .i64 y,.string (T y)]] W fun e w'=>e=.returned (.int .i64 (cfT T x y))/\∃ q os',w'=grow (W.drewN q) os'):=fun W=>cmp_T T x y W
    have hneg:=cfT_neg T x y
    obtain⟨r,hr⟩:∃ r,r=cfT T x y:=⟨_,rfl⟩
    rw[<-hr]at hneg HCM
    have hz1:(q:Int)<(z:Int):=by omega
    have hz2:(c:Int)<(z:Int):=by omega
    have hqw:IntKind.i64.wrap (q:Int)=(q:Int):=by rw[IntKind.wrap_i64];omega
    have HCLS:=hideO (fun n' os'=>sortWorldK_grown_c (encT T) 2 w blk 0 n n' d os os')
    rw[<-hwr]at HCLS
    have HQC:Hid (p-c=q):=by
     unfold Hid
     omega
    clear hr hx hy hwr hc hq x0c x0f x1c x1f y0c y0f y1c y1f hHj hbw hrel
    cases hcb:clT T x y with
    |false =>
     rw[hcb]at hneg
     have hlv:¬r<0:=of_decide_eq_false hneg
     have hlv':decide (r<0)=false:=hneg
     have HL2:Hid (lx (clT T) (f c) (f (p-c))):=by
      unfold Hid
      rw[HQC.out]
      have hpl:=HSP.out c q hac hcm hmq hqb
      rw[<-HXY.out.1,<-HXY.out.2]at hpl ⊢
      exact lx_no hcb hpl
     clear hneg
     go_wp2_with fail
     go_quiet_grown (first|(go_at_call 175;refine Calls.grown_of (HCM.out _)))
     have HW2:Hid (grow (wr.drewN nq) osq=sortWorldK (encT T) 2 w blk 0 (n+nq) d (os++osq)):=HCLS.out nq osq
     dsimp only
     clear g0 g1 g2 g3
     go_wp2_with fail
     go_roundw
     case rel=>exact⟨c+1,j,n+nq,os++osq,by go_num,rfl,by omega,by omega,hjr,fun _=>HL2.out,HHI.out,HW2.out⟩
     case measure=>simp[intOf];omega
    |true =>
     rw[hcb]at hneg
     have hlv:r<0:=of_decide_eq_true hneg
     have hlv':decide (r<0)=true:=hneg
     have HL2:Hid (lx (clT T) (f (p-c)) (f c)):=by
      unfold Hid
      rw[HQC.out,<-HXY.out.1,<-HXY.out.2]
      exact lx_yes hcb
     clear hneg
     go_wp2_with fail
     go_quiet_grown (first|(go_at_call 175;refine Calls.grown_of (HCM.out _)))
     have HW2:Hid (grow (wr.drewN nq) osq=sortWorldK (encT T) 2 w blk 0 (n+nq) d (os++osq)):=HCLS.out nq osq
     dsimp only
     clear g0 g1 g2 g3
     go_wp2_with fail
     go_roundw
     case rel=>exact⟨i,c,n+nq,os++osq,rfl,rfl,hsi,by omega,by omega,HLO.out,fun _=>HL2.out,HW2.out⟩
     case measure=>simp[intOf];omega
   ·obtain rfl:i=j:=by omega
    obtain⟨e,he⟩:∃ e,nn=e+i:=⟨nn-i,by omega⟩
    have ee:(nn:Int)-(i:Int)=(e:Int):=by omega
    have hcut:Cut (clT T) a m b mid i e f:=by
     refine⟨by omega,by omega,by omega,by omega,by omega,by omega,by omega,fun h1 h2=>?_,fun h1 h2=>?_⟩
     ·have:=HLO.out (by omega)
      rwa[show p-(i-1)=e by omega]at this
     ·have:=HHI.out (by omega)
      rwa[show p-i=e-1 by omega]at this
    have HC:=hideO hcut
    have HRL:Hid (a<=i/\i<=mid/\mid<=e/\e<=b/\i<=m/\m<=e/\i+e=mid+m):=⟨hcut.as,hcut.smid,hcut.mide,hcut.eb,hcut.sm,hcut.me,hcut.sum⟩
    have HBM:Hid (mid-a<b-a/\b-mid<b-a/\a<mid/\mid<b):=by
     unfold Hid
     omega
    have hez:e<=z:=by have:=hcut.eb;omega
    have hew:IntKind.i64.wrap (e:Int)=(e:Int):=by rw[IntKind.wrap_i64];omega
    have hiz:i<=z:=by have:=hcut.sm;omega
    have HG0:Hid (dF d=f):=HFD.out.symm
    clear he hcut hlt hij hsi hjr hrel
    have hwz:Hid (d.size=z):=HZ.out.symm
    obtain⟨g,hg⟩:∃ g,g=rotF i m e f:=⟨_,rfl⟩
    have HGE:=hideO hg
    have HPG:Hid (PermF a b f g):=by rw[hg];exact HC.out.perm
    have HA1:Hid (Ris (clT T) a i g):=by rw[hg];exact HC.out.ris1 HR1.out
    have HB1:Hid (Ris (clT T) i mid g):=by rw[hg];exact HC.out.ris2 HR2.out
    have HA2:Hid (Ris (clT T) mid e g):=by rw[hg];exact HC.out.ris3 HR1.out
    have HB2:Hid (Ris (clT T) e b g):=by rw[hg];exact HC.out.ris4 HR2.out
    have HS1:Hid (Sep a i mid g):=by rw[hg];exact HC.out.sep1 HSP.out
    have HS2:Hid (Sep mid e b g):=by rw[hg];exact HC.out.sep2 HSP.out
    have HX:Hid (∀ u v,a<=u->u<mid->mid<=v->v<b->lx (clT T) (g u) (g v)):=by rw[hg];exact HC.out.cross (clT_weak T) HR1.out HR2.out
    clear hg hwr
    by_cases k0:a<i<;>by_cases k1:i<mid<;>by_cases k2:i<m<;>by_cases k3:e<b
    all_goals
     try exact absurd HRL.out (by have:=HBM.out;omega)
    all_goals
     have hr:=HRL.out
     first|(have pim:(i:Int)<(m:Int):=(by omega);have him:=decide_eq_true pim)|(have pim:¬(i:Int)<(m:Int):=(by omega);have him:=decide_eq_false pim)
     first|(have pme:(m:Int)<(e:Int):=(by omega);have hme:=decide_eq_true pme)|(have pme:¬(m:Int)<(e:Int):=(by omega);have hme:=decide_eq_false pme)
     first|(have pai:(a:Int)<(i:Int):=(by omega);have hai:=decide_eq_true pai)|(have pai:¬(a:Int)<(i:Int):=(by omega);have hai:=decide_eq_false pai)
     first|(have pimid:(i:Int)<(mid:Int):=(by omega);have himid:=decide_eq_true pimid)|(have pimid:¬(i:Int)<(mid:Int):=(by omega);have himid:=decide_eq_false pimid)
     first|(have pmide:(mid:Int)<(e:Int):=(by omega);have hmide:=decide_eq_true pmide)|(have pmide:¬(mid:Int)<(e:Int):=(by omega);have hmide:=decide_eq_false pmide)
     first|(have peb:(e:Int)<(b:Int):=(by omega);have heb:=decide_eq_true peb)|(have peb:¬(e:Int)<(b:Int):=(by omega);have heb:=decide_eq_false peb)
     clear hr
     first
     |have c1:i<m/\i<mid:=⟨k2,k1⟩
      have HK1:=hideO (rotate_T T blk cap i m e d wr (.func (.func 175) #[] #[]) (by rw[HW.out];exact world_holds HH.out hblk n d os rfl) (by rw[HW.out];exact Nat.lt_of_lt_of_le hblk (world_size n d os)) (by have:=HRL.out;omega) (by have:=HRL.out;omega) (by rw[hwz.out];exact hez) (by rw[hwz.out];exact hsz))
      rw[hwz.out]at HK1
      go_wp2_with fail
      refine HK1.out.mono ?_
      rintro er w1 ⟨rfl,n1,d1,hw1,hs1,hf1⟩
      have HW1:Hid (w1=sortWorldK (encT T) 2 w blk 0 (n+n1) d1 (os++#[])):=by
       unfold Hid
       rw[hw1,HW.out]
       exact world_world n n1 d d1 os #[] hblk (hs1.trans hwz.out.symm)
      have HS1':Hid (d1.size=z):=hs1
      have HG1:Hid (dF d1=g):=by
       unfold Hid
       rw[hf1,HG0.out,HGE.out]
      clear hw1 hs1 hf1 HK1
      generalize n+n1=n1 at HW1
      generalize os++#[]=o1 at HW1
     |obtain⟨w1,n1,d1,o1,hq,HW1,HS1',HG1⟩:∃ w1 n1 d1 o1,w1=wr/\Hid (w1=sortWorldK (encT T) 2 w blk 0 n1 d1 o1)/\Hid (d1.size=z)/\Hid (dF d1=g):=⟨wr,n,d,os,rfl,HW,hwz,by
       unfold Hid
       have hr:=HRL.out
       rw[HG0.out,HGE.out,rot_none f (by omega) (by omega) (by omega)]⟩
      subst hq
     first
     |have c2:a<i/\i<mid:=⟨k0,k1⟩
      have HK2:=hideO (HIH.out a i mid d1 w1 HBM.out.1 (by rw[HW1.out];exact world_holds HH.out hblk n1 d1 o1 (HS1'.out.trans HZ.out)) (by rw[HW1.out];exact Nat.lt_of_lt_of_le hblk (world_size n1 d1 o1)) (by have:=HRL.out;omega) (by have:=HRL.out;omega) (by rw[HS1'.out];omega) (by rw[HS1'.out];exact hsz) (by rw[HG1.out];exact HA1.out) (by rw[HG1.out];exact HB1.out) (by rw[HG1.out];exact HS1.out))
      rw[HS1'.out]at HK2
      go_wp2_with fail
      refine HK2.out.mono ?_
      rintro er w2 ⟨rfl,n2,d2,os2,hw2,hs2,hp2,hr2⟩
      have HW2:Hid (w2=sortWorldK (encT T) 2 w blk 0 (n1+n2) d2 (o1++os2)):=by
       unfold Hid
       rw[hw2,HW1.out]
       exact world_world n1 n2 d1 d2 o1 os2 hblk (hs2.trans HS1'.out.symm)
      have HS2':Hid (d2.size=z):=hs2
      rw[HG1.out]at hp2
      have HP2:=hideO hp2
      have HR2':=hideO hr2
      clear hw2 hs2 hp2 hr2 HK2
      generalize n1+n2=n2 at HW2
      generalize o1++os2=o2 at HW2
     |obtain⟨w2,n2,d2,o2,hq,HW2,HS2',HP2,HR2'⟩:∃ w2 n2 d2 o2,w2=w1/\Hid (w2=sortWorldK (encT T) 2 w blk 0 n2 d2 o2)/\Hid (d2.size=z)/\Hid (PermF a mid g (dF d2))/\Hid (Ris (clT T) a mid (dF d2)):=⟨w1,n1,d1,o1,rfl,HW1,HS1',by
       unfold Hid
       rw[HG1.out]
       exact PermF.refl _ _ _,by
       unfold Hid
       rw[HG1.out]
       have hr:=HRL.out
       first|exact HB1.out.sub (by omega) (Nat.le_refl _)|exact HA1.out.sub (Nat.le_refl _) (by omega)⟩
      subst hq
     have HE2:Hid (∀ k,mid<=k->dF d2 k=g k):=fun k hk=>HP2.out.2 k (Or.inr hk)
     first
     |have c3:i<m/\e<b:=⟨k2,k3⟩
      have HK3:=hideO (HIH.out mid e b d2 w2 HBM.out.2.1 (by rw[HW2.out];exact world_holds HH.out hblk n2 d2 o2 (HS2'.out.trans HZ.out)) (by rw[HW2.out];exact Nat.lt_of_lt_of_le hblk (world_size n2 d2 o2)) (by have:=HRL.out;omega) (by have:=HRL.out;omega) (by rw[HS2'.out];omega) (by rw[HS2'.out];exact hsz) (HA2.out.congr (fun k h1 _=>HE2.out k h1)) (HB2.out.congr (fun k h1 _=>HE2.out k (by have:=HRL.out;omega))) (fun u v h1 h2 h3 h4=>by rw[HE2.out u h1,HE2.out v (by omega)];exact HS2.out u v h1 h2 h3 h4))
      rw[HS2'.out]at HK3
      go_wp2_with fail
      refine HK3.out.mono ?_
      rintro er w3 ⟨rfl,n3,d3,os3,hw3,hs3,hp3,hr3⟩
      have HW3:Hid (w3=sortWorldK (encT T) 2 w blk 0 (n2+n3) d3 (o2++os3)):=by
       unfold Hid
       rw[hw3,HW2.out]
       exact world_world n2 n3 d2 d3 o2 os3 hblk (hs3.trans HS2'.out.symm)
      have HS3':Hid (d3.size=z):=hs3
      have HFIN:=hideO (halves HX.out (Nat.le_of_lt HBM.out.2.2.1) (Nat.le_of_lt HBM.out.2.2.2) HP2.out hp3 HR2'.out hr3)
      clear hw3 hs3 hp3 hr3 HK3
      go_wp2_with fail
      refine bodyPost_end (v:=.tuple #[]) (by simp[results,Tryz.results208,go_sem]) rfl ⟨rfl,_,d3,_,HW3.out,HS3'.out,HPG.out.trans HFIN.out.1,HFIN.out.2⟩
     |have HR3:Hid (Ris (clT T) mid b (dF d2)):=by
       unfold Hid
       have hr:=HRL.out
       refine Ris.congr (f:=g) ?_ (fun k h1 _=>HP2.out.2 k (Or.inr h1))
       first|exact HB2.out.sub (by omega) (Nat.le_refl _)|exact HA2.out.sub (Nat.le_refl _) (by omega)
      have HFIN:=hideO (halves HX.out (Nat.le_of_lt HBM.out.2.2.1) (Nat.le_of_lt HBM.out.2.2.2) HP2.out (PermF.refl mid b (dF d2)) HR2'.out HR3.out)
      go_wp2_with fail
      refine bodyPost_end (v:=.tuple #[]) (by simp[results,Tryz.results208,go_sem]) rfl ?_
      first|exact⟨rfl,n2,d2,o2,HW2.out,HS2'.out,HPG.out.trans HFIN.out.1,HFIN.out.2⟩|exact⟨rfl,n2,d2,⟨o2,HW2.out⟩,HS2'.out,HPG.out.trans HFIN.out.1,HFIN.out.2⟩
end Go.Proofs.YtkgjfdanjmnmbaaGreatDoor.So


/- A merge in place at turns, in whole. -/
namespace Go.Proofs.YtkgjfdanjmnmbaaGreatDoor.So
open Go.RowKit Go.Sort Go.Proofs
theorem merge_T (T:Nat->ByteArray) (blk cap:Nat):∀ (N a m b:Nat) (d:Array Nat) (w:World),b-a<=N->HoldsK (encT T) 2 w blk 0 d->blk<w.heap.size->a<m->m<b->b<=d.size->d.size<=1048576->Ris (clT T) a m (dF d)->Ris (clT T) m b (dF d)->Sep a m b (dF d) ->
  Calls Tryz.prog 208 #[.slice (some ⟨blk,0,none⟩) d.size cap,.int .i64 a,.int .i64 m,.int .i64 b,.func (.func 175) #[] #[]] w fun e w' =>
   e=.returned (.tuple #[])/\∃ n d' os,w'=sortWorldK (encT T) 2 w blk 0 n d' os/\d'.size=d.size/\PermF a b (dF d) (dF d')/\Ris (clT T) a b (dF d'):=by
 intro N
 induction N with
 |zero=>intro a m b d w hN _ _ ham hmb;omega
 |succ N ih =>
  intro a m b d w hN hH hblk ham hmb hb hsz hr1 hr2 hsep
  by_cases hA:m=a+1
  ·subst hA
   exact mergeA_T T blk cap a b d w hH hblk hmb hb hsz hr2 hsep
  ·by_cases hB:b=m+1
   ·subst hB
    exact mergeB_T T blk cap a m d w hH hblk (by omega) hb hsz hr1 hsep
   ·exact mergeC_T T blk cap a m b d w hH hblk (by omega) (by omega) hb hsz hr1 hr2 hsep (fun a' m' b' d' W h1=>ih a' m' b' d' W (by omega))
end Go.Proofs.YtkgjfdanjmnmbaaGreatDoor.So


namespace Go.Proofs.YtkgjfdanjmnmbaaGreatDoor.So
open Go.RowKit Go.Sort Go.Proofs
theorem stable_T (T:Nat->ByteArray) (blk cap:Nat) (d:Array Nat) (w:World) (hH:HoldsK (encT T) 2 w blk 0 d) (hblk:blk<w.heap.size) (hsz:d.size<=1048576) (hid:∀ i,i<d.size->dF d i=i) :
  Calls Tryz.prog 194 #[.slice (some ⟨blk,0,none⟩) d.size cap,.int .i64 d.size,.func (.func 175) #[] #[]] w fun e w' =>
   e=.returned (.tuple #[])/\∃ n d' os,w'=sortWorldK (encT T) 2 w blk 0 n d' os/\d'.size=d.size/\PermF 0 d.size (dF d) (dF d')/\Ris (clT T) 0 d.size (dF d'):=by
 have HST:=hideO (world_self hH)
 have HH:=hideO hH
 clear hH
 obtain⟨z,hz⟩:∃ z,z=d.size:=⟨_,rfl⟩
 have HZ:=hideO hz
 rw[<-hz]at hsz hid ⊢
 clear hz
 obtain⟨f0,hf⟩:∃ f0,f0=dF d:=⟨_,rfl⟩
 have HFD:=hideO hf
 rw[<-hf]at hid ⊢
 have HID:=hideO hid
 clear hf hid
 have HIN:=hideO (fun (n:Nat) (dk:Array Nat) (os:Array Obj) (hs:dk.size=z) (a b:Nat) (h1:a<=b) (h2:b<=z) (hr:∀ i j,a<=i->i<j->j<b->dF dk i<dF dk j) =>
  insertion_T T blk cap a b dk (sortWorldK (encT T) 2 w blk 0 n dk os) (world_holds HH.out hblk n dk os (hs.trans HZ.out)) (Nat.lt_of_lt_of_le hblk (world_size n dk os)) h1 (by rw[hs];exact h2) (by rw[hs];exact hsz) hr)
 have HMG:=hideO (fun (n:Nat) (dk:Array Nat) (os:Array Obj) (hs:dk.size=z) (a m b:Nat) (h1:a<m) (h2:m<b) (h3:b<=z) (c1:Ch (clT T) a m (dF dk)) (c2:Ch (clT T) m b (dF dk)) =>
  merge_T T blk cap (b-a) a m b dk (sortWorldK (encT T) 2 w blk 0 n dk os) (Nat.le_refl _) (world_holds HH.out hblk n dk os (hs.trans HZ.out)) (Nat.lt_of_lt_of_le hblk (world_size n dk os)) h1 h2 (by rw[hs];exact h3) (by rw[hs];exact hsz) c1.1 c2.1 (c1.sep c2))
 have HWW:=hideO (fun (n n':Nat) (dk d':Array Nat) (os os':Array Obj) (hs:d'.size=dk.size)=>world_world (enc:=encT T) (k:=2) (w:=w) (blk:=blk) (off:=0) n n' dk d' os os' hblk hs)
 go_enter Tryz.func194,Tryz.ntmps194
 go_wp2_with fail
 go_loopw [7,8] (fun u v wr=>∃ (k n:Nat) (dk:Array Nat) (os:Array Obj),u=.int .i64 (20*k:Nat)/\v=.int .i64 (20*k+20:Nat)/\20*k<=z/\dk.size=z/\Chs (clT T) 20 z 0 (20*k) (dF dk)/\(∀ i,20*k<=i->i<z->dF dk i=i)/\PermF 0 z f0 (dF dk)/\wr=sortWorldK (encT T) 2 w blk 0 n dk os) (fun u _ _=>z-(intOf u).toNat)
 case atStart=>exact⟨0,0,d,#[],rfl,rfl,by omega,HZ.out.symm,Chs.none,fun i _ h=>by rw[<-HFD.out];exact HID.out i h,by rw[<-HFD.out];exact PermF.refl _ _ _,HST.out⟩
 case round =>
  obtain⟨k,n,dk,os,rfl,rfl,hkz,hsk,hch,hidk,hpm,hwr⟩:=hrel
  have HSK:=hideO hsk
  have HCH:=hideO hch
  have HIK:=hideO hidk
  have HPM:=hideO hpm
  have HW:=hideO hwr
  obtain⟨a,ha⟩:∃ a,a=20*k:=⟨_,rfl⟩
  obtain⟨b,hb⟩:∃ b,b=20*k+20:=⟨_,rfl⟩
  have HAB:Hid (a=20*k/\b=20*k+20):=⟨ha,hb⟩
  have hab:a<b:=by omega
  rw[<-ha]at hkz
  rw[<-hb,<-ha]
  clear hsk hch hidk hpm ha hb
  by_cases hlt:b<=z
  ·have HC:=hideO (HIN.out n dk os HSK.out a b (by omega) hlt (fun i j h1 h2 h3=>by have:=HAB.out;rw[HIK.out i (by omega) (by omega),HIK.out j (by omega) (by omega)];exact h2))
   rw[<-hwr,HSK.out]at HC
   have hlt':(b:Int)<=(z:Int):=by omega
   clear hwr
   go_wp2_with fail
   refine HC.out.mono ?_
   rintro er w1 ⟨rfl,n1,d1,os1,hw1,hs1,hp1,hr1⟩
   have HW1:Hid (w1=sortWorldK (encT T) 2 w blk 0 (n+n1) d1 (os++os1)):=by
    unfold Hid
    rw[hw1,HW.out]
    exact HWW.out n n1 dk d1 os os1 (hs1.trans HSK.out.symm)
   have HS1:=hideO hs1
   have HP1:=hideO hp1
   have HR1:=hideO hr1
   obtain⟨b4,hb4⟩:∃ b4,b4=b+20:=⟨_,rfl⟩
   have e3:(b:Int)+20=(b4:Int):=by omega
   have HB4:=hideO hb4
   clear hb4
   clear hw1 hs1 hp1 hr1 HC
   go_wp2_with fail
   go_roundw
   case rel =>
    have hr:=HAB.out
    refine⟨k+1,n+n1,d1,os++os1,by rw[hr.2];rfl,by rw[HB4.out,hr.2];rfl,by omega,HS1.out,?_,fun i h1 h2=>?_,HPM.out.trans (HP1.out.mono (Nat.zero_le _) (by omega) (by omega)),HW1.out⟩
    ·have hc:Ch (clT T) (20*k) (20*k+20) (dF d1):=by
      rw[<-hr.2,<-hr.1]
      exact Ch.start (fun i h1 h2=>HIK.out i (by omega) (by omega)) HP1.out HR1.out
     have:=HCH.out.more (g:=dF d1) (by omega) (fun i hi=>HP1.out.2 i (Or.inl (by omega))) hc
     rw[Nat.mul_succ]
     exact this
    ·rw[HP1.out.2 i (Or.inr (by omega))]
     exact HIK.out i (by omega) h2
   case measure=>have:=HAB.out;simp[intOf];omega
  ·have hlt':¬(b:Int)<=(z:Int):=by omega
   have HC:=hideO (HIN.out n dk os HSK.out a z (by omega) (Nat.le_refl _) (fun i j h1 h2 h3=>by have:=HAB.out;rw[HIK.out i (by omega) (by omega),HIK.out j (by omega) (by omega)];exact h2))
   rw[<-hwr,HSK.out]at HC
   clear hwr
   go_wp2_with fail
   refine HC.out.mono ?_
   rintro er w1 ⟨rfl,n1,d1,os1,hw1,hs1,hp1,hr1⟩
   have HW1:Hid (w1=sortWorldK (encT T) 2 w blk 0 (n+n1) d1 (os++os1)):=by
    unfold Hid
    rw[hw1,HW.out]
    exact HWW.out n n1 dk d1 os os1 (hs1.trans HSK.out.symm)
   have HCA:Hid (Chs (clT T) 20 z 0 z (dF d1)):=by
    have hr:=HAB.out
    refine HCH.out.last (by omega) (fun i hi=>hp1.2 i (Or.inl (by omega))) ?_
    rw[<-hr.1]
    exact Ch.start (fun i h1 h2=>HIK.out i (by omega) h2) hp1 hr1
   have HPA:=hideO (HPM.out.trans (hp1.mono (Nat.zero_le _) hkz (Nat.le_refl _)))
   have HS1:=hideO hs1
   clear hw1 hs1 hp1 hr1 HC
   go_wp2_with fail
   go_loopw [6] (fun u wr=>∃ (bs n:Nat) (dk:Array Nat) (os:Array Obj),u=.int .i64 bs/\0<bs/\bs<=2*z+20/\dk.size=z/\Chs (clT T) bs z 0 z (dF dk)/\PermF 0 z f0 (dF dk)/\wr=sortWorldK (encT T) 2 w blk 0 n dk os) (fun u _=>z-(intOf u).toNat)
   case atStart=>exact⟨20,n+n1,d1,os++os1,rfl,by omega,by omega,HS1.out,HCA.out,HPA.out,HW1.out⟩
   case round =>
    obtain⟨bs,n2,d2,os2,rfl,hbs0,hbsz,hs2,hch2,hpm2,hwr2⟩:=hrel
    have HS2:=hideO hs2
    have HC2:=hideO hch2
    have HP2:=hideO hpm2
    have HW2:=hideO hwr2
    clear hs2 hch2 hpm2 hwr2
    by_cases hlz:bs<z
    ·have hlz':(bs:Int)<(z:Int):=by omega
     obtain⟨b2,hb2⟩:∃ b2,b2=2*bs:=⟨_,rfl⟩
     have eb2:2*(bs:Int)=(b2:Int):=by omega
     have eb2':(bs:Int)*2=(b2:Int):=by omega
     have HB2:=hideO hb2
     clear hb2
     go_wp2_with fail
     go_loopw [7,8] (fun u v wr=>∃ (k n:Nat) (dk:Array Nat) (os:Array Obj),u=.int .i64 (b2*k:Nat)/\v=.int .i64 (b2*k+b2:Nat)/\b2*k<=z/\dk.size=z/\Chs (clT T) b2 z 0 (b2*k) (dF dk)/\Chs (clT T) bs z (b2*k) z (dF dk)/\PermF 0 z f0 (dF dk)/\wr=sortWorldK (encT T) 2 w blk 0 n dk os) (fun u _ _=>z-(intOf u).toNat)
     case atStart=>exact⟨0,n2,d2,os2,by simp,by simp,by omega,HS2.out,by rw[Nat.mul_zero];exact Chs.none,by rw[Nat.mul_zero];exact HC2.out,HP2.out,HW2.out⟩
     case round =>
      obtain⟨k,n3,d3,os3,rfl,rfl,hkz3,hs3,hch3,hcr3,hpm3,hwr3⟩:=hrel
      have HS3:=hideO hs3
      have HC3:=hideO hch3
      have HD3:=hideO hcr3
      have HP3:=hideO hpm3
      have HW3:=hideO hwr3
      obtain⟨a3,ha3⟩:∃ a3,a3=b2*k:=⟨_,rfl⟩
      obtain⟨e3,he3⟩:∃ e3,e3=b2*k+b2:=⟨_,rfl⟩
      obtain⟨m3,hm3⟩:∃ m3,m3=b2*k+bs:=⟨_,rfl⟩
      have HAE:Hid (a3=b2*k/\e3=a3+b2/\m3=a3+bs/\b2=2*bs/\a3=bs*(2*k)):=by
       refine⟨ha3,by omega,by omega,HB2.out,?_⟩
       rw[ha3,HB2.out,Nat.mul_comm 2 bs,Nat.mul_assoc]
      have em3:(a3:Int)+(bs:Int)=(m3:Int):=by omega
      rw[<-ha3]at hkz3 HC3 HD3
      rw[<-he3,<-ha3]
      have hal:=HAE.out
      have hm3z:m3<=z+bs:=by omega
      have he3z:e3<=z+b2:=by omega
      have hb2z:b2<=2*z:=by omega
      clear hs3 hch3 hcr3 hpm3 ha3 he3 hm3
      by_cases hle:e3<=z
      ·have hle':(e3:Int)<=(z:Int):=by omega
       have c1:Ch (clT T) a3 m3 (dF d3):=by
        have:=HD3.out.at0 hal.2.2.2.2 (by omega)
        rwa[Nat.min_eq_left (by omega),<-hal.2.2.1]at this
       have c2:Ch (clT T) m3 e3 (dF d3):=by
        have:=HD3.out.at1 hal.2.2.2.2 (by omega)
        rwa[Nat.min_eq_left (by omega),<-hal.2.2.1,show m3+bs=e3 by omega]at this
       have HC:=hideO (HMG.out n3 d3 os3 HS3.out a3 m3 e3 (by omega) (by omega) hle c1 c2)
       rw[<-hwr3,HS3.out]at HC
       have HCC:Hid (Ch (clT T) a3 m3 (dF d3)/\Ch (clT T) m3 e3 (dF d3)):=⟨c1,c2⟩
       obtain⟨e4,he4⟩:∃ e4,e4=e3+b2:=⟨_,rfl⟩
       have ee4:(e3:Int)+(b2:Int)=(e4:Int):=by omega
       have HE4:=hideO he4
       clear hwr3 c1 c2 hal he4
       go_wp2_with fail
       refine HC.out.mono ?_
       rintro er w4 ⟨rfl,n4,d4,os4,hw4,hs4,hp4,hr4⟩
       have HW4:Hid (w4=sortWorldK (encT T) 2 w blk 0 (n3+n4) d4 (os3++os4)):=by
        unfold Hid
        rw[hw4,HW3.out]
        exact HWW.out n3 n4 d3 d4 os3 os4 (hs4.trans HS3.out.symm)
       have HS4:=hideO hs4
       have HP4:=hideO hp4
       have HR4:=hideO hr4
       clear hw4 hs4 hp4 hr4 HC
       go_wp2_with fail
       go_roundw
       case rel =>
        have hal:=HAE.out
        have hk1:b2*(k+1)=e3:=by rw[Nat.mul_succ];omega
        refine⟨k+1,n3+n4,d4,os3++os4,by rw[hk1],by rw[hk1,<-HE4.out],by omega,HS4.out,?_,?_,HP3.out.trans (HP4.out.mono (Nat.zero_le _) (by omega) hle),HW4.out⟩
        ·rw[hk1]
         have:=HC3.out
         rw[hal.1]at this
         have q:=this.more (g:=dF d4) (by omega) (fun i hi=>HP4.out.2 i (Or.inl (by omega))) (by
          rw[<-hal.1,<-hal.2.1]
          exact HCC.out.1.merge HCC.out.2 (by omega) (by omega) HP4.out HR4.out)
         rw[<-hal.1,<-hal.2.1]at q
         exact q
        ·rw[hk1]
         exact HD3.out.rest (by omega) (fun i h1 h2=>HP4.out.2 i (Or.inr h1))
       case measure=>have:=HAE.out;simp[intOf];omega
      ·have hle':¬(e3:Int)<=(z:Int):=by omega
       by_cases hmz:m3<z
       ·have hmz':(m3:Int)<(z:Int):=by omega
        have c1:Ch (clT T) a3 m3 (dF d3):=by
         have:=HD3.out.at0 hal.2.2.2.2 (by omega)
         rwa[Nat.min_eq_left (by omega),<-hal.2.2.1]at this
        have c2:Ch (clT T) m3 z (dF d3):=by
         have:=HD3.out.at1 hal.2.2.2.2 (by omega)
         rwa[Nat.min_eq_right (by omega),<-hal.2.2.1]at this
        have HC:=hideO (HMG.out n3 d3 os3 HS3.out a3 m3 z (by omega) hmz (Nat.le_refl _) c1 c2)
        rw[<-hwr3,HS3.out]at HC
        have HCC:Hid (Ch (clT T) a3 m3 (dF d3)/\Ch (clT T) m3 z (dF d3)):=⟨c1,c2⟩
        clear hwr3 c1 c2 hal
        go_wp2_with fail
        refine HC.out.mono ?_
        rintro er w4 ⟨rfl,n4,d4,os4,hw4,hs4,hp4,hr4⟩
        have HW4:Hid (w4=sortWorldK (encT T) 2 w blk 0 (n3+n4) d4 (os3++os4)):=by
         unfold Hid
         rw[hw4,HW3.out]
         exact HWW.out n3 n4 d3 d4 os3 os4 (hs4.trans HS3.out.symm)
        have HS4:=hideO hs4
        have HP4:=hideO hp4
        have HR4:=hideO hr4
        clear hw4 hs4 hp4 hr4 HC
        go_wp2_with fail
        go_roundw
        case rel =>
         have hal:=HAE.out
         refine⟨b2,n3+n4,d4,os3++os4,rfl,by omega,by omega,HS4.out,?_,HP3.out.trans (HP4.out.mono (Nat.zero_le _) (by omega) (Nat.le_refl _)),HW4.out⟩
         have:=HC3.out
         rw[hal.1]at this
         refine this.last (by omega) (fun i hi=>HP4.out.2 i (Or.inl (by omega))) ?_
         rw[<-hal.1]
         exact HCC.out.1.merge HCC.out.2 (by omega) (by omega) HP4.out HR4.out
        case measure=>have:=HAE.out;simp[intOf];omega
       ·have hmz':¬(m3:Int)<(z:Int):=by omega
        clear hwr3 hal
        go_wp2_with fail
        go_roundw
        case rel =>
         have hal:=HAE.out
         refine⟨b2,n3,d3,os3,rfl,by omega,by omega,HS3.out,?_,HP3.out,HW3.out⟩
         rcases Nat.eq_or_lt_of_le hkz3 with q|q
         ·rw[<-q]
          rw[q]
          have:=HC3.out
          rw[q]at this
          exact this
         ·have:=HC3.out
          rw[hal.1]at this
          refine this.last (by omega) (fun i hi=>rfl) ?_
          rw[<-hal.1]
          have c1:=HD3.out.at0 hal.2.2.2.2 q
          rwa[Nat.min_eq_right (by omega)]at c1
        case measure=>have:=HAE.out;simp[intOf];omega
    ·have hlz':¬(bs:Int)<(z:Int):=by omega
     have HF:=hideO (HC2.out.whole (by omega))
     go_wp2_with fail
     refine bodyPost_end (v:=.tuple #[]) (by simp[results,Tryz.results194,go_sem]) rfl ⟨rfl,n2,d2,⟨os2,HW2.out⟩,HS2.out,HP2.out,HF.out⟩
end Go.Proofs.YtkgjfdanjmnmbaaGreatDoor.So


namespace Go.Proofs.YtkgjfdanjmnmbaaGreatDoor.So
open Go.RowKit Go.Sort Go.Proofs Go.Shelf
attribute [local go_sem] Oper.semAt_some
theorem Tryz.infoU189:(Tryz.prog.info? 189).map (fun i=>(i.zero,i.size,i.bytes))=some (some (.agg #[.int .i64 0,.string ⟨#[]⟩]),2,24):=by kernel_rfl
theorem sortStable_T (T:Nat->ByteArray) (blk cap:Nat) (d:Array Nat) (w:World) (hH:HoldsK (encT T) 2 w blk 0 d) (hblk:blk<w.heap.size) (hsz:d.size<=1048576) (hid:∀ i,i<d.size->dF d i=i) :
  Calls Tryz.prog 174 #[.slice (some ⟨blk,0,none⟩) d.size cap,.func (.func 175) #[] #[]] w fun e w' =>
   e=.returned (.tuple #[])/\∃ n d' os,w'=sortWorldK (encT T) 2 w blk 0 n d' os/\d'.size=d.size/\PermF 0 d.size (dF d) (dF d')/\Ris (clT T) 0 d.size (dF d'):=by
 have HS:=hideO (stable_T T blk cap d w hH hblk hsz hid)
 clear hH hid
 generalize d.size=z at HS hsz ⊢
 go_enter Tryz.func174,Tryz.ntmps174
 go_wp2_with fail
 refine HS.out.mono ?_
 rintro e w' ⟨rfl,n,d',os,hw,hs,hp,hr⟩
 have HX:Hid (∃ n d' os,w'=sortWorldK (encT T) 2 w blk 0 n d' os/\d'.size=z/\PermF 0 z (dF d) (dF d')/\Ris (clT T) 0 z (dF d')):=⟨n,d',os,hw,hs,hp,hr⟩
 clear hw hs hp hr
 go_wp2_with fail
 refine bodyPost_end (v:=.tuple #[]) (by simp[results,Tryz.results174,go_sem]) rfl ⟨rfl,HX.out⟩
theorem world_type {enc:Nat->List Value} {k:Nat} {w:World} {blk off:Nat} {cur:Array Value} {t:TypeId} {fr:Nat × Nat} (h:w.heap[blk]? = some (.cells cur t fr)) (m:Nat) (d':Array Nat) (os:Array Obj):∃ cur',(sortWorldK enc k w blk off m d' os).heap[blk]? = some (.cells cur' t fr):=by
 have hlt:=(Array.getElem?_eq_some_iff.1 h).1
 unfold sortWorldK
 rw[heap_grow_old _ _ (by rw[size_putRowK];exact hlt)]
 unfold putRowK putRow mapBlock
 simp only[Array.getElem?_modify,if_true]
 have h2:(Go.Sort.ahead w m).heap[blk]? = some (.cells cur t fr):=h
 rw[h2]
 exact⟨_,rfl⟩
def flatT (T:Nat->ByteArray) (l:List Nat):List Value:=l.flatMap (encT T)
theorem flatT_snoc (T:Nat->ByteArray) (l:List Nat) (x:Nat):flatT T (l++[x])=flatT T l++[.int .i64 (x:Nat),.string (T x)]:=by simp[flatT,encT]
theorem flatT_get (T:Nat->ByteArray) (l:List Nat) (i c:Nat) (hi:i<l.length) (hc:c<2):(flatT T l)[i*2+c]? = some (encT T l[i])[c]!:=by
 induction l generalizing i with
 |nil=>simp at hi
 |cons x l ih =>
  cases i with
  |zero =>
   have:c=0∨c=1:=by omega
   rcases this with rfl|rfl<;>simp[flatT,encT]
  |succ i =>
   have:=ih i (by simpa using hi)
   rw[show flatT T (x :: l)=encT T x++flatT T l from rfl,List.getElem?_append_right (by rw[encT_len];omega),encT_len,show (i+1)*2+c-2=i*2+c by omega,this]
   rfl
theorem two_newT (W:World) (x y:Value) (t:TypeId):∀ (j:Nat) (u:Value),[x,y][j]? = some u->(W.alloc (.cells #[x,y] t)).cell? ((⟨W.heap.size,0,none⟩:Addr).add j)=some u:=by
 intro j u hj
 match j,hj with
 |0,hj=>simp at hj;subst hj;simp[Addr.add]
 |1,hj=>simp at hj;subst hj;simp[Addr.add]
theorem holds_of_own {T:Nat->ByteArray} {w:World} {base g n cap:Nat} {l:List Nat} {e:TypeId} (h:w.ownsRow base e 2 (.slice (some ⟨g,0,none⟩) n cap) l.length (flatT T l)):HoldsK (encT T) 2 w g 0 l.toArray:=by
 obtain⟨_,h⟩:=h
 rcases h with⟨h,_⟩|⟨g',cap',cur,hv,_,hb,_,_,_,htk⟩
 ·cases h
 ·have hg:g=g':=by simp at hv;exact hv.1
  subst hg
  intro j hj
  rw[size_flatK]at hj
  have hj':j<l.length*2:=by simpa using hj
  rw[get_flatK _ _ _ _ hj,Nat.zero_add]
  have hi:j/2<l.length:=by omega
  refine⟨?_,frozen_of_row w g j _ e hb⟩
  rw[cell_of_row w g j _ e (0,0) hb,<-Array.getElem?_toList]
  have h1:cur.toList[j]? = (cur.toList.take (l.length*2))[j]?:=by rw[List.getElem?_take_of_lt hj']
  rw[h1,htk]
  have h2:=flatT_get T l (j/2) (j%2) hi (by omega)
  rw[show j/2*2+j%2=j by omega]at h2
  rw[h2]
  have h3:l.toArray[j/2]! = l[j/2]:=by simp[hi]
  rw[h3]
  rfl
theorem sorted_T (t:ByteArray) (ht:t.size<=1048576) (w:World) :
  Calls Tryz.prog 135 #[.string t] w fun e w'=>∃ g cap d,e=.returned (.slice (some ⟨g,0,none⟩) t.size cap)/\w.heap.size<=g/\g<w'.heap.size/\HoldsK (encT (turnV t)) 2 w' g 0 d/\d.size=t.size/\(seg (dF d) 0 t.size).Perm (List.range t.size)/\Ris (clT (turnV t)) 0 t.size (dF d)/\(∃ cur,w'.heap[g]? = some (.cells cur 189 (0,0)))/\Below w.heap.size w w':=by
 obtain⟨i0,hi,hz0,hz1,hz2⟩:=info_parts Tryz.infoU189
 refine(callsIn_wide (n:=3)).1 ?_
 refine callsIn_of_wp_marks Tryz.func135 rfl trivial ?_ rfl
 simp only[Tryz.ntmps135,List.size_toArray,List.length_cons,List.length_nil,Nat.reduceAdd,Nat.reduceSub,Array.replicate_succ,Array.replicate_zero,List.push_toArray,List.append_toArray,List.nil_append,List.cons_append]
 gi_wp2_with (first|(gi_at_make;refine wpListIn_make_own _ rfl _ _ 186 rfl w.heap.size 189 i0 _ 2 Tryz.underlying186 hi hz0 hz1 .i64 .i64 _ t.size rfl rfl (by simp) (by rw[hz2];omega) (by unfold maxLen;omega) (Nat.le_refl _) ?_;intro w1 hown1 hgrow1)|(gi_at_call 173;refine(turnsOf_in Fence.wide _ trivial rfl _ _).mono ?_;rintro e w' ⟨rfl,rfl⟩))
 refine⟨trivial,(turnsOf_in Fence.wide 2 trivial rfl _ _).mono ?_⟩
 rintro e w' ⟨rfl,rfl⟩
 have z1:=hgrow1.size
 have hb1:Below w.heap.size w w1:=(Below.refl _ _).grown hgrow1 (Nat.le_refl _) (by simp)
 have zg:w.heap.size<w1.heap.size:=(hown1.lt w.heap.size rfl).2
 obtain⟨B0,hB0⟩:∃ B0,B0=w1.heap.size:=⟨_,rfl⟩
 have bV:=Boxed.new w1 186 (.slice (some ⟨w.heap.size,0,none⟩) 0 t.size)
 have bS:=Boxed.new (w1.alloc (.cells #[.slice (some ⟨w.heap.size,0,none⟩) 0 t.size] 186)) 9 (.string t)
 have bV2:=bV.alloc (.cells #[.string t] 9)
 have hr2:=(hown1.alloc (.cells #[.slice (some ⟨w.heap.size,0,none⟩) 0 t.size] 186)).alloc (.cells #[.string t] 9)
 have hb2:Below w.heap.size w ((w1.alloc (.cells #[.slice (some ⟨w.heap.size,0,none⟩) 0 t.size] 186)).alloc (.cells #[.string t] 9)):=(hb1.alloc (by omega) _).alloc (by simp;omega) _
 rw[World.size_alloc]at bS
 rw[<-hB0]at bV2 bS
 rw[<-hB0]at zg
 have hsz:((w1.alloc (.cells #[.slice (some ⟨w.heap.size,0,none⟩) 0 t.size] 186)).alloc (.cells #[.string t] 9)).heap.size=B0+2:=by simp[hB0]
 gi_wp2
 rw[<-hB0]
 generalize (w1.alloc (.cells #[.slice (some ⟨w.heap.size,0,none⟩) 0 t.size] 186)).alloc (.cells #[.string t] 9)=W0 at bV2 bS hr2 hb2 hsz ⊢
 clear bV hown1 hgrow1 hb1 hB0 z1
 refine wpIn_rangeFunc_ownH rfl (by decide) (gf:=193) (lb:=#[.pointer (some ⟨B0+1,0,none⟩)]) rfl trivial (enters_of Tryz.func193 (by kernel_rfl) rfl)
  (turns_stops 2 (B0+1) t ht W0 (by omega) bS.cell) (fun h1 h2=>h1.trans h2)
  (fun W l o o' hl h1 h2 h3=>(belowK_b (w:=W0) (n₀:=B0+2) (by omega) W l o o' hl h1 h2 h3).cell (p:=⟨B0+1,0,none⟩) (by simp)) (Below.refl _ _) (fun _=>rfl)
  (fun pre W=>((∃ v,Boxed W B0 186 v/\W.ownsRow w.heap.size 189 2 v pre.length (flatT (turnV t) pre)/\v≠.slice none 0 0)/\Boxed W (B0+1) 9 (.string t))/\Below w.heap.size w W)
  (fun _ _ _=>False)
  (OwnFrom.and (OwnFrom.and (Own.from (holdsRow_own w.heap.size B0 186 189 2 (fun pre=>pre.length) (fun pre=>flatT (turnV t) pre) (fun _ v=>v≠.slice none 0 0)) _) (Own.from (boxed_own _ _ _) _)) (ownFrom_below (Nat.le_refl _) (by omega)))
  (fun _ _ _ _ _ hs _ _=>hs)
  ⟨⟨⟨_,bV2,hr2,by simp⟩,bS⟩,hb2⟩
  (fun x a' W=>∃ Bx,B0+1<Bx/\W.heap[Bx]? = some (.cells #[.int .i64 (x:Nat),.string (turnV t x)] 189 (0,0))/\a'={ tmps:=#[.string t,undef,.slice none 0 0,.pointer (some ⟨B0,0,none⟩),.pointer (some ⟨Bx,0,none⟩),.string t,.int .i64 t.size,.slice (some ⟨w.heap.size,0,none⟩) 0 t.size,.string t,.func (.func 193) #[] #[.pointer (some ⟨B0+1,0,none⟩)],.agg #[.int .i64 (x:Nat),.string (turnV t x)],undef,undef,undef,undef,undef,undef,undef],defers:=[] })
  (fun x a' _ X Y row hs hg hr=>by
   obtain⟨Bx,h1,h2,h3⟩:=hs
   refine⟨Bx,h1,(hg.block Bx (Array.getElem?_eq_some_iff.1 h2).1 (fun e=>?_)).trans h2,h3⟩
   obtain⟨o,ho,hc⟩:=(hr Bx e.symm).2
   rw[h2]at ho
   cases ho
   cases hc)
  ?assign ?body ?done ?stop
 case assign =>
  rintro l pre x W K ⟨⟨⟨v,hv,hrow,hn⟩,hs⟩,hB⟩ hK
  gi_wp2
  exact hK _ _ ((KeepsOthers.alloc _ _).from _) ((hs.alloc _).cell.trans hs.cell.symm) ⟨⟨⟨v,hv.alloc _,hrow.alloc _,hn⟩,hs.alloc _⟩,hB.alloc hB.size _⟩ ⟨W.heap.size,hs.lt,World.alloc_heap_new W _,rfl⟩
 case body =>
  rintro l pre x a' W hl ⟨r,hr⟩ ⟨⟨⟨v,hv,hrow,hn⟩,hs⟩,hB⟩ ⟨Bx,hBx,hX,rfl⟩ hlt
  have hc:=hv.cell
  have x0:W.cell? ⟨Bx,0,none⟩=some (.int .i64 (x:Nat)):=by rw[cell_of_row W Bx 0 _ _ (0,0) hX];rfl
  have x1:W.cell? ⟨Bx,1,none⟩=some (.string (turnV t x)):=by rw[cell_of_row W Bx 1 _ _ (0,0) hX];rfl
  have hzw:=hB.size
  gi_wp2_with (gi_at_builtin;refine wpListIn_append_own _ rfl _ _ 186 rfl w.heap.size 189 i0 _ 2 24 Tryz.underlying186 hi hz0 hz1 hz2 rfl (by decide) _ _ _ rfl (hrow.alloc _) ⟨W.heap.size,0,none⟩ 1 1 [.int .i64 (x:Nat),.string (turnV t x)] rfl rfl (two_newT _ _ _ _) (by intro u hu;simp at hu;rcases hu with rfl|rfl<;>rfl) (by unfold maxLen;omega) (by omega) (by simp;omega) ?_;intro v' w1 hown' hgrow _;obtain⟨g',cap',rfl⟩:=ownsRow_succ hown';obtain⟨hv1,hv2,hr2,hk2,hb2⟩:=hv.appended (by decide) hrow hB.size (by omega) hown' hgrow;have hc1:=hv1.cell;have hf1:=hv1.frozen;have hs1:=(hs.alloc _).kept hgrow (hs.not_row (by decide) hrow))
  have hs2:=(hs1.kept (grownBy_setCell' w1 B0 _) (by simp):Boxed (w1.setCell ⟨B0,0,none⟩ (.slice (some ⟨g',0,none⟩) (pre.length+1) cap')) (B0+1) 9 (.string t))
  exact⟨hk2.from _,hs2.cell.trans hs.cell.symm,⟨⟨_,hv2,by rw[flatT_snoc,List.length_append];exact hr2,by simp⟩,hs2⟩,hB.trans hb2⟩
 case done =>
  rintro D ys W hD rfl ⟨⟨⟨v,hv,hrow,hn⟩,hs⟩,hB⟩ hK
  have hrow':=hrow
  obtain⟨_,hrr⟩:=hrow'
  rcases hrr with⟨rfl,_⟩|⟨g,cap,cur,rfl,hg,hgb,_⟩
  ·exact absurd rfl hn
  ·have hgl:g<W.heap.size:=(Array.getElem?_eq_some_iff.1 hgb).1
   have hH:=holds_of_own hrow
   have hds:(List.range t.size).toArray.size=t.size:=by simp
   have hid:∀ i,i<(List.range t.size).toArray.size->dF (List.range t.size).toArray i=i:=fun i hi=>by
    have:i<t.size:=by simpa using hi
    simp[dF,this]
   have HS:=hideO (sortStable_T (turnV t) g cap (List.range t.size).toArray W hH hgl (by rw[hds];exact ht) hid)
   rw[hds]at HS
   have hg0:g≠B0:=fun e=>by
    have h1:W.heap[B0]? = _:=hv
    rw[<-e,hgb]at h1
    simp at h1
   have hgD:g≠D:=fun e=>by
    rw[<-e,hgb]at hK
    cases hK
   have hc:=hv.cell
   rw[List.length_range]at hc hv
   have HV:=hideO hv
   have HB:=hideO hB
   have HK:=hideO hK
   have HHd:=hideO hH
   have hB0W:=hv.lt
   have hDW:D<W.heap.size:=(Array.getElem?_eq_some_iff.1 hK).1
   have HPI:Hid (seg (dF (List.range t.size).toArray) 0 t.size=List.range t.size):=by
    unfold Hid
    rw[seg_congr (f:=dF (List.range t.size).toArray) (g:=fun i=>i) fun i _ h=>hid i (by rw[hds];exact h)]
    unfold seg
    rw[Nat.sub_zero,List.map_id',List.range_eq_range']
   have HTY:=hideO hgb
   clear hrow hn hs hv hB hK hH hid hgb
   gi_wp2
   refine⟨trivial,(callsIn_wide.2 HS.out).mono ?_⟩
   rintro e w' ⟨rfl,n,d',os,hw',hs',hp',hr'⟩
   have hbV:w'.heap[B0]? = W.heap[B0]?:=by rw[hw'];exact world_block n d' os hB0W (fun h=>hg0 h.symm)
   have hc2:w'.cell? ⟨B0,0,none⟩=some (.slice (some ⟨g,0,none⟩) t.size cap):=by
    have:Boxed w' B0 186 (.slice (some ⟨g,0,none⟩) t.size cap):=hbV.trans HV.out
    exact this.cell
   have hK2:w'.heap[D]? = some (.deferred (some [])):=by rw[hw',world_block n d' os hDW (fun h=>hgD h.symm)];exact HK.out
   have HH2:Hid (HoldsK (encT (turnV t)) 2 w' g 0 d'):=by
    unfold Hid
    rw[hw']
    exact world_holds HHd.out hgl n d' os (by rw[hs',hds])
   have HB2:Hid (Below w.heap.size w w'):=by
    unfold Hid
    rw[hw']
    exact HB.out.trans (world_below n d' os hg (by omega))
   have hgw:g<w'.heap.size:=by rw[hw'];exact Nat.lt_of_lt_of_le hgl (world_size n d' os)
   have HP2:Hid ((seg (dF d') 0 t.size).Perm (List.range t.size)):=by
    have:=hp'.1
    rw[HPI.out]at this
    exact this
   have HTY2:Hid (∃ cur',w'.heap[g]? = some (.cells cur' 189 (0,0))):=by
    unfold Hid
    rw[hw']
    exact world_type HTY.out n d' os
   have HR2:=hideO hr'
   have HS2:=hideO hs'
   clear hw' hs' hp' hr' hbV
   gi_wp2
   refine⟨by simp,.inl ⟨_,_,rfl,run_takeDeferred hK2,?_⟩⟩
   refine⟨_,results_tmp rfl _ _ _,g,cap,d',rfl,hg,?_,?_,HS2.out,HP2.out,HR2.out,?_,?_⟩
   ·simpa [World.putObj] using hgw
   ·exact holds_block HH2.out (World.putObj_heap_other hgD)
   ·rw[World.putObj_heap_other hgD]
    exact HTY2.out
   ·exact HB2.out.trans (belowK_b (w:=w) (Nat.le_refl _) w' D _ _ (by omega) hK2 rfl rfl)
 case stop =>
  rintro D c pre W _ _ h _
  exact h.elim
end Go.Proofs.YtkgjfdanjmnmbaaGreatDoor.So

