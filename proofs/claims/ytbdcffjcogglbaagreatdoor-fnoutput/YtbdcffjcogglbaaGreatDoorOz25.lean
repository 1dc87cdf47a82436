import Derived.Test.YtbdcffjcogglbaaGreatDoorOz21
set_option maxRecDepth 100000
set_option maxHeartbeats 8000000
namespace Go.Proofs.YtbdcffjcogglbaaGreatDoor
open Go.RowKit
open Go.Proofs.Tryz
namespace Ze
theorem zrun_back (r:Nat):∀ (s:List Int) (v:Nat),((zrun r).foldl bstep (s,v)).1=s++List.replicate (v*r) 0:=by
 induction r using Nat.strongRecOn with
 |ind r ih =>
  intro s v;by_cases h0:r=0
  ·subst h0
   rw[zrun_zero];simp
  ·by_cases h1:r%2=1
   ·rw[zrun_odd h1,List.foldl_cons,bstep,if_neg (by omega),ih ((r-1)/2) (by omega),List.append_assoc,List.replicate_append_replicate]
    congr 2
    obtain⟨q,rfl⟩:∃ q,r=2*q+1:=⟨(r-1)/2,by omega⟩;rw[show (2*q+1-1)/2=q by omega,Nat.mul_add,Nat.mul_assoc];simp;omega
   ·rw[zrun_even (by omega) h1,List.foldl_cons,bstep,if_neg (by omega),ih ((r-2)/2) (by omega),List.append_assoc,List.replicate_append_replicate]
    congr 2
    obtain⟨q,rfl⟩:∃ q,r=2*q+2:=⟨(r-2)/2,by omega⟩;rw[show (2*q+2-2)/2=q by omega,Nat.mul_add,Nat.mul_assoc];simp;omega
theorem zst_back (l:List Int) (h:∀ x∈l,0<=x/\x<=255):∀ k,k<=l.length->(bst (zst (l.take k)).1).2=1/\(bst (zst (l.take k)).1).1++List.replicate (zst (l.take k)).2 0=l.take k:=by
 intro k
 induction k with
 |zero=>intro _;simp[zst,bst]
 |succ k ih =>
  intro hk;obtain⟨h1,h2⟩:=ih (by omega);have hx:=h _ (List.getElem_mem (show k<l.length by omega));by_cases h0:l[k]=0
  ·rw[zst_zero hk h0]
   refine⟨h1,?_⟩
   show (bst (zst (l.take k)).1).1++List.replicate ((zst (l.take k)).2+1) 0=_
   rw[Bi.take_more hk,h0,List.replicate_succ',<-List.append_assoc,h2]
  ·rw[zst_other hk h0]
   have e:bst ((zst (l.take k)).1++zrun (zst (l.take k)).2++[l[k]+1])=(l.take k++[l[k]],1):=by
    have hb:bst (zst (l.take k)).1=((bst (zst (l.take k)).1).1,1):=by rw[<-h1]
    have hb2:(zst (l.take k)).1.foldl bstep ([],1)=((bst (zst (l.take k)).1).1,1):=hb;unfold bst;rw[List.foldl_append,List.foldl_append,hb2,List.foldl_cons,List.foldl_nil,bstep,if_pos (by omega),zrun_back,Nat.one_mul,h2];simp
   rw[e];refine⟨rfl,?_⟩;rw[Bi.take_more hk];simp
theorem zeros_back {l:List Int} (h:numsR l 255=true):backR (zerosR l)=l:=by
 obtain⟨hl,hu⟩:=numsR_yes h;have hx:=upTo_yes hu;obtain⟨h1,h2⟩:=zst_back l hx l.length nl;rw[List.take_length]at h1 h2
 have hb:(bst (zerosR l)).1=l:=by
  rw[zerosR_yes h]
  have hb2:(zst l).1.foldl bstep ([],1)=((bst (zst l).1).1,1):=by
   show bst (zst l).1=_
   rw[<-h1]
  unfold bst;rw[List.foldl_append,hb2,zrun_back,Nat.one_mul];exact h2
 have hm:∀ k,k<=l.length->∀ x∈(zst (l.take k)).1,0<=x/\x<=256:=by
  intro k
  induction k with
  |zero=>intro _ x hx;simp[zst]at hx
  |succ k ih =>
   intro hk x hxm;have hy:=hx _ (List.getElem_mem (show k<l.length by omega));by_cases h0:l[k]=0
   ·rw[zst_zero hk h0]at hxm
    exact ih (by omega) x hxm
   ·rw[zst_other hk h0]at hxm
    rcases List.mem_append.1 hxm with hxm|hxm
    ·rcases List.mem_append.1 hxm with hxm|hxm
     ·exact ih (by omega) x hxm
     ·rcases zrun_mem _ x hxm with e|e<;>omega
    ·rw[List.mem_singleton]at hxm
     omega
 have hn:numsR (zerosR l) 256=true:=by
  rw[numsR_of (Nat.le_trans (zerosR_len l) hl)];refine upTo_of fun x hxm=>?_;rw[zerosR_yes h]at hxm
  rcases List.mem_append.1 hxm with hxm|hxm
  ·have:=hm l.length nl
   rw[List.take_length]at this;exact this x hxm
  ·rcases zrun_mem _ x hxm with e|e<;>omega
 rw[backR_yes hn (by rw[hb];exact hl),hb]
end Ze
namespace Bi
open Sh (bt strF bt_strF strF_size strF_bt strF_congr bt_lt)
theorem hd_div (t:ByteArray) (q r:Nat):∀ d,hd t q (r+d)/2 ^ d=hd t q r
 |0=>by simp
 |d+1=>by
  have ih:=hd_div t q r d;have h1:=one_le t (8*q+(r+d));rw[show r+(d+1)=(r+d)+1 by omega,Nat.pow_succ,Nat.mul_comm,<-Nat.div_div_eq_div_mul]
  show (2*hd t q (r+d)+one t (8*q+(r+d)))/2/2 ^ d=_
  rw[show (2*hd t q (r+d)+one t (8*q+(r+d)))/2=hd t q (r+d) by omega];exact ih
theorem hd_bit (t:ByteArray) (q r:Nat) (hr:r<8):hd t q 8/2 ^ (7-r)%2=one t (8*q+r):=by
 have h:=hd_div t q (r+1) (7-r);rw[show r+1+(7-r)=8 by omega]at h;rw[h]
 show (2*hd t q r+one t (8*q+r))%2=_
 have:=one_le t (8*q+r)
 omega
theorem packV_size (t:ByteArray):(packV t).size=(t.size+7)/8:=strF_size _ _
theorem open_bit (t:ByteArray) (i:Nat) (hi:i<8*(packV t).size):bitB (bt (packV t) (i/8)) (7-i%8)=48+one t i:=by
 rw[packV_size]at hi;have h1:bt (packV t) (i/8)=pk t (i/8) 8:=bt_strF _ _ _ (by omega) (pk_lt t _ 8 nl);unfold bitB;rw[h1,<-hd_all,hd_bit t (i/8) (i%8) (by omega),show 8*(i/8)+i%8=i by omega]
theorem one_good {t:ByteArray} (hg:good t=true) (i:Nat) (hi:i<t.size):48+one t i=bt t i:=by
 unfold one
 rcases good_yes hg i hi with h|h
 ·rw[if_neg (by omega),h]
 ·rw[if_pos ⟨hi,h⟩,h]
theorem one_add_lt (t:ByteArray) (i:Nat):48+one t i<256:=by have:=one_le t i;omega
theorem strF_take (n m:Nat) (f:Nat->Nat) (h:n<=m):(strF m f).data.toList.take n=(strF n f).data.toList:=by
 unfold strF
 simp only
 rw[<-List.map_take,List.take_range,Nat.min_eq_left h]
theorem open_all {t:ByteArray} (hg:good t=true) (hs:t.size<=8000):∃ z,(openR (packV t) ((8*(packV t).size:Nat):Int)).data.toList=t.data.toList++z/\good (openR (packV t) ((8*(packV t).size:Nat):Int))=true:=by
 have hp:=packV_size t
 have e:openR (packV t) ((8*(packV t).size:Nat):Int)=strF (8*(packV t).size) (fun i=>48+one t i):=by
  rw[openR_yes _ _ (by omega) nl];unfold openV;exact strF_congr _ _ _ fun i hi=>open_bit t i hi
 rw[e];refine⟨(strF (8*(packV t).size) (fun i=>48+one t i)).data.toList.drop t.size,?_,good_of fun j hj=>?_⟩
 ·have h1:t.data.toList=(strF (8*(packV t).size) (fun i=>48+one t i)).data.toList.take t.size:=by
   rw[strF_take t.size (8*(packV t).size) _ (by omega),strF_congr t.size (fun i=>48+one t i) (bt t) fun i hi=>one_good hg i hi,strF_bt]
  conv=>rhs;rw[h1]
  exact(List.take_append_drop _ _).symm
 ·rw[strF_size]at hj
  rw[bt_strF _ _ _ hj (one_add_lt t j)]
  have:=one_le t j
  omega
theorem putL_split (l s:List Int) (k:Nat):putL l s=putL l (s.take k)++putL l (s.drop k):=by
 unfold putL;rw[<-List.flatMap_append,List.take_append_drop]
theorem extract0 (t:ByteArray) (n:Nat):(t.extract 0 n).data.toList=t.data.toList.take n:=by
 rw[ByteArray.data_extract,Array.toList_extract];simp[List.extract_eq_take_drop]
theorem rst_list (t:ByteArray) (p:Nat):(rst t p).data.toList=t.data.toList.drop p:=by
 unfold rst;rw[ByteArray.data_extract,Array.toList_extract,List.extract_eq_take_drop];rw[List.take_of_length_le];rw[List.length_drop,Array.length_toList];exact nl
theorem ext_list {a b:ByteArray} (h:a.data.toList=b.data.toList):a=b:=ByteArray.ext (by rw[<-Array.toArray_toList (xs:=a.data),h,Array.toArray_toList])
theorem st_put {l s:List Int} (hr:csum l<=4096) (hok:∀ x∈l,0<=x/\x<=12) (hs:∀ x∈s,okS l x) {t:ByteArray} {z:List UInt8} (ht:t.data.toList=putL l s++z):∀ k,k<=s.length->st l t k=.inr (s.take k,(putL l (s.take k)).length)
 |0,_=>rfl
 |k+1,hk=>by
  have ih:=st_put hr hok hs ht k (by omega);have hx:=hs s[k] (List.getElem_mem (by omega));obtain⟨h0,h1,h2⟩:=hx
  have hi:((s[k].toNat:Nat):Int)=s[k]:=by omega
  have hcs:=codeOf_size l s[k].toNat
  have hcl:(codeOf l s[k].toNat).data.toList.length=wd l s[k].toNat:=by
   rw[Array.length_toList];exact hcs
  have hrl:(rst t (putL l (s.take k)).length).data.toList=(codeOf l s[k].toNat).data.toList++(putL l (s.drop (k+1))++z):=by
   rw[rst_list,ht,putL_split l s k,List.append_assoc,List.drop_left,List.drop_eq_getElem_cons (by omega)];unfold putL;rw[List.flatMap_cons,List.append_assoc]
  have hm:mt l (rst t (putL l (s.take k)).length) s[k].toNat:=by
   refine⟨by omega,h2,?_,?_⟩
   ·have:(rst t (putL l (s.take k)).length).size=(rst t (putL l (s.take k)).length).data.toList.length:=by simp
    rw[this,hrl,List.length_append,hcl];omega
   ·refine ext_list ?_
    rw[extract0,hrl,<-hcl,List.take_left]
  rw[st_more ih (sym_of hr hok hm),hi,take_more (by omega),putL_snoc,List.length_append,hcl]
theorem get_put {l s:List Int} (hw:whole l=true) (hs:∀ x∈s,okS l x) (h4:s.length<=400) {t:ByteArray} {z:List UInt8} (ht:t.data.toList=putL l s++z) (h8:t.size<=8000) (hg:good t=true):getR l t (s.length:Int)=(s,((putL l s).length:Int),0):=by
 have h1:=(right_yes (whole_right hw)).2;have h2:=whole_len hw;rw[getR_in (by omega) hw hg h4,st_put h1 (whole_ok hw) hs ht s.length nl,List.take_length];rfl
theorem code_good (l:List Int) (i:Nat):∀ y∈(codeOf l i).data.toList,y.toNat=48∨y.toNat=49:=by
 intro y hy;unfold codeOf at hy
 split at hy
 ·unfold bitsV strF at hy
  simp only at hy
  obtain⟨j,_,rfl⟩:=List.mem_map.1 hy;rw[UInt8.toNat_ofNat',Nat.mod_eq_of_lt (bitB_lt _ _)];exact bitB_01 _ _
 ·cases hy
theorem put_good (l s:List Int):good ⟨(putL l s).toArray⟩=true:=by
 refine good_of fun j hj=>?_
 have hj':j<(putL l s).length:=by
  have:(⟨(putL l s).toArray⟩:ByteArray).size=(putL l s).toArray.size:=rfl
  rw[this,List.size_toArray]at hj;exact hj
 have hm:(putL l s)[j]∈putL l s:=List.getElem_mem hj';obtain⟨x,_,hx⟩:=List.mem_flatMap.1 hm
 have:=code_good l x.toNat _ hx
 unfold bt
 simp only
 rw[List.getD_eq_getElem?_getD,List.getElem?_eq_getElem hj'];exact this
end Bi
namespace So
open Go.RowKit Go.Sort Go.Proofs
theorem mergeB_I (T:ByteArray) (cc:Nat) (blk cap a m:Nat) (d:Array Nat) (w:World) (hH:HoldsK encI 1 w blk 0 d) (hblk:blk<w.heap.size) (ham:a+1<m) (hb:m+1<=d.size) (hsz:d.size<=1048576) (hcap:Cap w cc T) (hcb0:cc≠blk) (hbd:∀ i,dF d i<T.size)
  (hr1:Ris (clI T) a m (dF d)) (hsep:Sep a m (m+1) (dF d)) :
  Calls prog 216 #[.slice (some ⟨blk,0,none⟩) d.size cap,.int .i64 a,.int .i64 m,.int .i64 (m+1:Nat),.func (.func 210) #[] #[.pointer (some ⟨cc,0,none⟩)]] w fun e w' =>
   e=.returned (.tuple #[])/\∃ n d' os,w'=sortWorldK encI 1 w blk 0 n d' os/\d'.size=d.size/\PermF a (m+1) (dF d) (dF d')/\Ris (clI T) a (m+1) (dF d'):=by
 have mixed:=mixed;have HST:=hideO (world_self hH);have HH:=hideO hH;have HCP:Hid (∀ (m:Nat) (dk:Array Nat) (os:Array Obj),Cap (sortWorldK encI 1 w blk 0 m dk os) cc T):=fun m dk os=>hcap.block (world_block m dk os hcap.lt hcb0);have HBD:=hideO hbd;clear hcap hcb0 hbd;have HR1:=hideO hr1;have HSP:=hideO hsep;clear hH hr1 hsep;obtain⟨z,hz⟩:∃ z,z=d.size:=⟨_,rfl⟩;have HZ:=hideO hz;rw[<-hz]at hb hsz ⊢;clear hz;obtain⟨f,hf⟩:∃ f,f=dF d:=⟨_,rfl⟩;have HFD:=hideO hf
 have HBF:Hid (∀ i,f i<T.size):=by
  unfold Hid;rw[hf];exact HBD.o
 rw[<-hf]at HR1 HSP ⊢;clear hf;obtain⟨b,hm⟩:∃ b,b=m+1:=⟨_,rfl⟩
 have hbm:(b:Int)-(m:Int)=1:=by omega
 have hma:((m:Int)-(a:Int)==1)=false:=beq_eq_false_iff_ne.2 (by omega);rw[<-hm]at hb HSP ⊢;have HM:=hideO hm
 have hmb:m<b:=by omega
 clear hm;go_enter func216,ntmps216
 go_wp2_with fail
 clear hbm hma
 go_loopw [14,15] (fun u v wr=>∃ (i j n:Nat) (os:Array Obj),u=.int .i64 i/\v=.int .i64 j/\a<=i/\i<=j/\j<=m/\(a<i->lx (clI T) (f (i-1)) (f m))/\(j<m->lx (clI T) (f m) (f j))/\wr=sortWorldK encI 1 w blk 0 n d os) (fun u v _=>(intOf v).toNat-(intOf u).toNat)
 case atStart=>exact⟨a,m,0,#[],rfl,rfl,nl,by omega,nl,fun h=>absurd h (by omega),fun h=>absurd h (by omega),HST.o⟩
 case round =>
  obtain⟨i,j,n,os,rfl,rfl,hai,hij,hjm,hlo,hhi,hwr⟩:=hrel;have HLO:=hideO hlo;have HHI:=hideO hhi;have HW:=hideO hwr;clear hlo hhi;by_cases hlt:i<j
  ·obtain⟨h,hh⟩:∃ h,h=(i+j)/2:=⟨_,rfl⟩
   have e1:((i:Int)+(j:Int))/2=(h:Int):=by omega
   have hhb:h<z:=by omega
   have hih:i<=h:=by omega
   have hhj:h<j:=by omega
   have hHj:HoldsK encI 1 wr blk 0 d:=by rw[hwr];exact world_holds HH.o hblk n d os rfl
   have hbw:blk<wr.heap.size:=by rw[hwr];exact Nat.lt_of_lt_of_le hblk (world_size n d os)
   obtain⟨x0c,x0f⟩:=cells_I hHj (i:=m) (by have:=HZ.o;omega);obtain⟨y0c,y0f⟩:=cells_I hHj (i:=h) (by have:=HZ.o;omega);obtain⟨x,hx⟩:∃ x,x=d[m]!:=⟨_,rfl⟩;obtain⟨y,hy⟩:∃ y,y=d[h]!:=⟨_,rfl⟩;have HXY:Hid (x=f m/\y=f h):=⟨by rw[hx,HFD.o];rfl,by rw[hy,HFD.o];rfl⟩;rw[<-hx]at x0c;rw[<-hy]at y0c;have g0:=fun n' os'=>cell_grown (a:=⟨blk,m,none⟩) hbw x0c n' os';have g2:=fun n' os'=>cell_grown (a:=⟨blk,h,none⟩) hbw y0c n' os'
   have hcc:wr.cell? ⟨cc,0,none⟩=some (.string T):=by rw[hwr];exact HCP.o _ _ _
   have hcw:cc<wr.heap.size:=Cap.lt hcc;have gc:=fun n' os'=>cell_grown (a:=⟨cc,0,none⟩) hcw hcc n' os';clear hcc hcw;have HCM:Hid (∀ W,Cap W cc T->Calls prog 210 #[.int .i64 x,.int .i64 y,.pointer (some ⟨cc,0,none⟩)] W fun e w'=>e=.returned (.int .i64 (cfI T x y))/\∃ q os',w'=grow (W.drewN q) os'):=fun W hW=>cmp_I T cc x y W hW (by rw[HXY.o.1];exact HBF.o _) (by rw[HXY.o.2];exact HBF.o _);have hneg:=cfI_neg T x y;obtain⟨r,hr⟩:∃ r,r=cfI T x y:=⟨_,rfl⟩;rw[<-hr]at hneg HCM
   have hz1:(h:Int)<(z:Int):=by omega
   have hz2:(m:Int)<(z:Int):=by omega
   have HCLS:=hideO (fun n' os'=>sortWorldK_grown_c encI 1 w blk 0 n n' d os os');rw[<-hwr]at HCLS;clear hr hx hy hwr hh x0c x0f y0c y0f hHj hbw
   cases hcb:clI T x y with
   |false =>
    rw[hcb]at hneg;have hlv:¬r<0:=of_decide_eq_false hneg;have hlv':decide (r<0)=false:=hneg
    have HL2:Hid (lx (clI T) (f h) (f m)):=by
     unfold Hid;have hpl:=HSP.o h m (by omega) (by omega) nl hmb;rw[<-HXY.o.1,<-HXY.o.2]at hpl ⊢;exact lx_no hcb hpl
    clear hneg;(go_wp2_with fail)
    go_quiet_grown (first|(go_at_call 210;refine Calls.grown_of (HCM.o _ (gc _ _))))
    have HW2:Hid (grow (wr.drewN nq) osq=sortWorldK encI 1 w blk 0 (n+nq) d (os++osq)):=HCLS.o nq osq;dsimp only;clear g0 g2 gc;(go_wp2_with fail)
    go_roundw
    case rel=>exact⟨h+1,j,n+nq,os++osq,by go_num,rfl,by omega,by omega,hjm,fun _=>HL2.o,HHI.o,HW2.o⟩
    case measure=>simp[intOf];omega
   |true =>
    rw[hcb]at hneg;have hlv:r<0:=of_decide_eq_true hneg;have hlv':decide (r<0)=true:=hneg
    have HL2:Hid (lx (clI T) (f m) (f h)):=by
     unfold Hid;rw[<-HXY.o.1,<-HXY.o.2];exact lx_yes hcb
    clear hneg;(go_wp2_with fail)
    go_quiet_grown (first|(go_at_call 210;refine Calls.grown_of (HCM.o _ (gc _ _))))
    have HW2:Hid (grow (wr.drewN nq) osq=sortWorldK encI 1 w blk 0 (n+nq) d (os++osq)):=HCLS.o nq osq;dsimp only;clear g0 g2 gc;(go_wp2_with fail)
    go_roundw
    case rel=>exact⟨i,h,n+nq,os++osq,rfl,rfl,hai,by omega,by omega,HLO.o,fun _=>HL2.o,HW2.o⟩
    case measure=>simp[intOf];omega
  ·obtain rfl:i=j:=by omega
   have HRR:Hid (Ris (clI T) a b (rotF i m b f)):=by
    unfold Hid;have hmm:=HM.o;rw[hmm]
    exact down_ris (clI_weak T) HR1.o hai hjm
     (fun k h1 h2=>HR1.o.le h1 (show k<=i-1 by omega) (by omega) (clI_weak T) (HLO.o (by omega)))
     (fun k h1 h2=>HR1.o.ge hai h1 h2 (clI_weak T) (HHI.o (by omega)))
   have HPP:Hid (PermF a b f (rotF i m b f)):=(rot_perm f hjm (by omega)).mono hai (by omega) nl;clear hwr
   go_wp2_with fail
   go_loopw [17] (fun u wr2=>∃ (k n:Nat) (dk:Array Nat) (os:Array Obj),u=.int .i64 k/\i<=k/\k<=m/\dk.size=z/\dF dk=rotF k m b f/\wr2=sortWorldK encI 1 w blk 0 n dk os) (fun u _=>(intOf u).toNat)
   case atStart=>exact⟨m,n,d,os,rfl,hjm,nl,HZ.o.symm,by rw[HM.o,rot_down0];exact HFD.o.symm,HW.o⟩
   case round =>
    obtain⟨k,n2,dk,os2,rfl,hik,hkm,hsk,hfk,hwr⟩:=hrel;have HSK:=hideO hsk;have HFK:=hideO hfk;by_cases hlt2:i<k
    ·obtain⟨q,hq⟩:∃ q,k=q+1:=⟨k-1,by omega⟩
     have eq1:(k:Int)-1=(q:Int):=by omega
     have hH2:HoldsK encI 1 wr blk 0 dk:=by rw[hwr];exact world_holds HH.o hblk n2 dk os2 (hsk.trans HZ.o)
     obtain⟨x0c,x0f⟩:=cells_I hH2 (i:=k) (by omega);obtain⟨y0c,y0f⟩:=cells_I hH2 (i:=q) (by omega);obtain⟨x,hx⟩:∃ x,x=dk[k]!:=⟨_,rfl⟩;obtain⟨y,hy⟩:∃ y,y=dk[q]!:=⟨_,rfl⟩;have hsw:=sortWorldK_swp_c encI 1 w blk 0 encI_len n2 dk os2 hblk k q (by omega) (by omega);rw[<-hx,<-hy,<-hwr,Nat.zero_add,Nat.zero_add,Nat.mul_one,Nat.mul_one]at hsw;rw[<-hx]at x0c;rw[<-hy]at y0c;have HSW:=hideO hsw;have hkz:(k:Int)<(z:Int):=(by omega);have hqz:(q:Int)<(z:Int):=(by omega);have hqw:IntKind.i64.wrap (q:Int)=(q:Int):=(by rw[IntKind.wrap_i64];omega);have hik2:(i:Int)<(k:Int):=(by omega);have hqk:q<k:=(by omega);have HQ:=hideO hq
     have HROT:Hid (So.swp (rotF k m b f) k q=rotF q m b f):=by
      unfold Hid;rw[HM.o,hq];exact rot_down q m f (by omega)
     clear hwr hH2 hx hy hsw hsk hfk hq;(go_wp2_with fail)
     go_region
     all_goals (try go_wp2_with fail)
     all_goals go_roundw
     case rel =>
      refine⟨q,n2+1,Go.Sort.swp dk k q,os2,rfl,by have:=HQ.o;omega,by omega,by rw[Go.Sort.size_swp];exact HSK.o,?_,HSW.o⟩;rw[dF_swp dk k q (by have:=HSK.o;omega) (by have:=HSK.o;omega),HFK.o,HROT.o]
     case measure=>simp[intOf];omega
    ·have hik2:¬(i:Int)<(k:Int):=by omega
     have HWW:=hideO hwr
     have HE:Hid (dF dk=rotF i m b f):=by
      unfold Hid;rw[hfk,show k=i by omega]
     clear hwr hsk hfk;(go_wp2_with fail);refine bodyPost_ret (v:=.tuple #[]) (by simp[results,results216,go_sem]) rfl ⟨rfl,n2,dk,⟨os2,HWW.o⟩,HSK.o,by rw[HE.o];exact HPP.o,by rw[HE.o];exact HRR.o⟩
end So
namespace Bi
open Sh
open Nu (ret_strJ bv own_string app_below)
def pkL (t:ByteArray) (q:Nat):List UInt8:=(List.range q).map fun j=>UInt8.ofNat (pk t j 8)
theorem pkL_length (t:ByteArray) (q:Nat):(pkL t q).length=q:=by simp[pkL]
theorem pkL_next (t:ByteArray) (q:Nat):pkL t (q+1)=pkL t q++[UInt8.ofNat (pk t q 8)]:=by simp[pkL,List.range_succ]
theorem pkL_all (t:ByteArray):(⟨(pkL t ((t.size+7)/8)).toArray⟩:ByteArray)=packV t:=rfl
theorem pkL_row {w:World} {B q:Nat} {e:TypeId} {v:Value} {t:ByteArray} {h:Nat} (hh:h=pk t q 8) (hr:w.ownsRow B e 1 v (q+1) ((pkL t q).map bv++[.int .u8 (h:Int)])) :
  w.ownsRow B e 1 v (q+1) ((pkL t (q+1)).map bv):=by
 rw[pkL_next,List.map_append,List.map_singleton]
 have:bv (UInt8.ofNat (pk t q 8))=.int .u8 (h:Int):=by
  have:=pk_lt t q 8 nl
  unfold bv;rw[UInt8.toNat_ofNat',Nat.mod_eq_of_lt (by omega),hh]
 rw[this];exact hr
theorem own_len {w:World} {B m n:Nat} {e:TypeId} {v:Value} {xs:List Value} (h:w.ownsRow B e 1 v m xs) (hm:m=n):w.ownsRow B e 1 v n xs:=by rw[<-hm];exact h
theorem packS_yes (t:ByteArray) (w:World) (ht:¬8000<t.size) (hg:good t=true) :
  Calls prog 102 #[.string t] w fun e w'=>e=.returned (.string (packV t))/\Below w.heap.size w w':=by
 obtain⟨i0,hi,hz0,hz1,hz2⟩:=info_parts Nu.Tryz.infoJ5;have HG:=hideB (good_spec t w (by omega));rw[hg]at HG;have HA:=hideB (good_yes hg);have hd8:decide (8000<(t.size:Int))=false:=decide_eq_false (by omega);clear hg;go_enter func102,ntmps102
 go_wp2_with fail
 refine HG.o.mono ?_;rintro e w' ⟨rfl,hw⟩;subst w'
 go_wp2_with fail
 go_loopw [4,3] (fun i v wr=>∃ q:Nat,i=.int .i64 (8*(q:Int))/\8*q<=t.size+7/\wr.ownsRow w.heap.size 5 1 v q ((pkL t q).map bv)/\Below w.heap.size w wr) (fun i _ _=>t.size+8-(intOf i).toNat)
 case atStart=>exact⟨0,rfl,by omega,World.ownsRow_made _ _ _ nl (by decide) rfl,(Below.refl _ _).alloc nl _⟩
 case round =>
  obtain⟨q,rfl,hq,hown,hbel⟩:=hrel;have HO:=hideB hown;have GB:=hideB hbel;clear hown hbel;by_cases hlt:8*q<t.size
  ·have hlt':8*(q:Int)<t.size:=by omega
   go_wp2_with fail
   go_loopw [6,5] (fun i v wr2=>∃ r h:Nat,i=.int .i64 (8*(q:Int)+r)/\v=.int .i64 h/\h=hd t q r/\r<=8/\wr2=wr) (fun i _ _=>8*q+8-(intOf i).toNat)
   case atStart=>exact⟨0,0,by go_num,rfl,rfl,by omega,rfl⟩
   case round =>
    obtain⟨r,h,rfl,rfl,hh,hr,hw⟩:=hrel;subst hw;have HH:=hideB hh;have hle:h<256:=(by rw[hh];exact hd_le t q r hr);clear hh;by_cases hr8:r<8
    ·by_cases hin:8*q+r<t.size
     ·obtain⟨i,hii⟩:∃ i:Nat,i=8*q+r:=⟨_,rfl⟩
      have hiz:8*(q:Int)+r=i:=by omega
      have hib:i<t.size:=by omega
      obtain⟨y,b0,hy⟩:=byte_at t i hib;have h01:=HA.o i (by omega);rw[<-hy]at h01;have h02:(48:Int)<=y.toNat/\(y.toNat:Int)<=49:=(by omega)
      have HN:Hid (2*(h:Int)+((y.toNat:Int)-48)=((hd t q (r+1):Nat):Int)):=by
       unfold Hid;simp only[hd];rw[<-HH.o,<-hii];unfold one;by_cases e:bt t i=49
       ·rw[if_pos ⟨by omega,e⟩]
        omega
       ·rw[if_neg (fun x=>e x.2)]
        omega
      have HI:=hideB hii;clear hy h01 hii;rw[hiz];have hi8:(i:Int)<8*(q:Int)+8:=(by omega);have hit:(i:Int)<t.size:=(by omega);(go_wp2_with fail)
      go_roundw
      case rel=>exact⟨r+1,hd t q (r+1),by go_num,by rw[<-HN.o],rfl,by omega,trivial⟩
      case measure=>simp[intOf];omega
     ·have HN:Hid (2*(h:Int)=((hd t q (r+1):Nat):Int)):=by
       unfold Hid;simp only[hd];rw[<-HH.o,one_behind t _ (by omega)];omega
      have hit:¬8*(q:Int)+r<t.size:=by omega
      (go_wp2_with fail)
      go_roundw
      case rel=>exact⟨r+1,hd t q (r+1),by go_num,by rw[<-HN.o],rfl,by omega,trivial⟩
      case measure=>simp[intOf];omega
    ·have HE:Hid (h=pk t q 8):=by
      unfold Hid;rw[HH.o,show r=8 by omega,hd_all]
     have hge:¬8*(q:Int)+r<8*(q:Int)+8:=by omega
     have hown:=HO.o;have hbz:=GB.o.size
     go_wp2_with (at_builtin;refine wpList_append_own _ rfl (.tmp 42) (.tmp 45) 22 rfl w.heap.size 5 i0 (.int .u8 0) 1 1 underlying22 hi hz0 hz1 hz2 rfl (by decide) _ _ _ rfl (hown.alloc _) ⟨wr.heap.size,0,none⟩ 1 1 [.int .u8 (h:Int)] rfl rfl ?c1 ?c2 ?c3 ?c4 ?c5 ?_)
     case c2=>rfl
     case c3=>unfold maxLen;omega
     case c4=>omega
     case c5=>omega
     intro v' w1 hown' hgrow _;have H1:=hideB (app_below GB.o nl HO.o hgrow);have R1:=hideB (pkL_row HE.o hown');clear hown' hgrow hown;(go_wp2_with fail)
     go_roundw
     case rel=>exact⟨q+1,by go_num,by omega,R1.o,H1.o⟩
     case measure=>simp[intOf];omega
  ·have hlt':¬8*(q:Int)<t.size:=by omega
   have HQ:Hid (q=(t.size+7)/8):=by
    unfold Hid;omega
   have hcv:=own_string (P:=prog) (src:=22) (dst:=9) (pkL t q) (own_len HO.o (pkL_length t q).symm) underlying22 underlying5 underlying9
   have HE:Hid ((⟨(pkL t q).toArray⟩:ByteArray)=packV t):=by
    unfold Hid;rw[HQ.o];exact pkL_all t
   rw[HE.o]at hcv
   go_wp2_with fail
   go_ret;exact⟨rfl,GB.o⟩
theorem pack_spec (t:ByteArray) (w:World) (ht:t.size<=1048576) :
  Calls prog 102 #[.string t] w fun e w'=>e=.returned (.string (packR t))/\Below w.heap.size w w':=by
 by_cases h:8000<t.size
 ·have HE:=hideB (packR_no t (Or.inl h))
  go_enter func102,ntmps102
  go_wp2_with fail
  go_ret;exact⟨ret_strJ HE.o.symm,Below.refl _ _⟩
 ·cases hg:good t with
  |false =>
   have HE:=hideB (packR_no t (Or.inr hg));have HG:=hideB (good_spec t w (by omega));rw[hg]at HG;go_enter func102,ntmps102
   go_wp2_with fail
   refine HG.o.mono ?_;rintro e w' ⟨rfl,hw⟩;subst w'
   go_wp2_with fail
   go_ret;exact⟨ret_strJ HE.o.symm,Below.refl _ _⟩
  |true =>
   rw[packR_yes t h hg];exact packS_yes t w h hg
end Bi
namespace So
open In (OwnI IsO one_newI one_cellI)
open In.Tryz (infoI2)
open Ze (own_some own_news own_cells)
theorem turn_spec (t:ByteArray) (k:Nat) (w:World) (ht:t.size<=1048576) (hk:k<=t.size) :
  Calls prog 167 #[.string t,.int .i64 k] w fun e w'=>e=.returned (.string (turnV t k))/\∃ q,w'=w.drewN q:=by
 have mixed:=mixed;unfold turnV
 have hq0:(t.extract k t.size).size+(t.extract 0 k).size<=9223372036854775807:=by simp;omega
 have hle:(k:Int)<=(t.size:Int):=by omega
 have hge:¬(t.size:Int)<(k:Int):=by omega
 go_enter func167,ntmps167
 go_wp2_with fail
 go_quiet (fail)
 go_wp2_with fail
 go_ret;exact⟨rfl,nq,rfl⟩
theorem below_drewN {B:Nat} {w w':World} (h:Below B w w') (n:Nat):Below B w (w'.drewN n):=⟨h.os,h.tape,h.output,h.size,h.block⟩
theorem own_drewN {w:World} {base:Nat} {v:Value} {l:List Int} (h:OwnI w base v l) (n:Nat):OwnI (w.drewN n) base v l :=
 h.below (below_drewN (Below.refl _ _) n)
theorem isO_take {w:World} {g:Nat} {l:List Nat} (h:IsO w g 2 (ints l)) (p:Nat):IsO w g 2 (ints (l.take p)):=by
 obtain⟨cur,hb,hc⟩:=h;refine⟨cur,hb,fun j hj=>?_⟩
 have hj2:j<min p l.length:=by simpa [ints] using hj
 have hj':j<p/\j<l.length:=by omega
 have:=hc j (by rw[ints_len];exact hj'.2)
 simpa [ints] using this
theorem isO_drop {w:World} {g:Nat} {l:List Nat} (h:IsO w g 2 (ints l)) (p:Nat):∀ (j:Nat) (u:Value),((ints (l.drop p)).map (Value.int .i64))[j]? = some u->w.cell? ((⟨g,p,none⟩:Addr).add j)=some u:=by
 intro j u hj
 have hadd:(⟨g,p,none⟩:Addr).add j=⟨g,p+j,none⟩:=by unfold Addr.add;split<;>simp_all
 rw[hadd];simp only[ints,List.getElem?_map,List.getElem?_drop]at hj
 cases hl:l[p+j]? with
 |none=>rw[hl]at hj;cases hj
 |some x =>
  rw[hl]at hj;obtain⟨hlt,hx⟩:=List.getElem?_eq_some_iff.1 hl;rw[h.cell (j:=p+j) (by rw[ints_len];exact hlt)];simp[ints,hx]at hj ⊢;exact hj
theorem own_ne {w:World} {base:Nat} {v:Value} {l:List Int} (h:OwnI w base v l) (hl:0<l.length):v≠.slice none 0 0:=by
 rcases h.split with⟨_,rfl⟩|⟨g,cap,rfl,_⟩
 ·simp at hl
 ·simp
theorem order_spec (t:ByteArray) (w:World) (ht:t.size<=48) :
  Calls prog 134 #[.string t] w fun e w'=>∃ v l,e=.returned v/\OwnI w' w.heap.size v (ints l)/\OrdOk t l/\v≠.slice none 0 0/\Below w.heap.size w w':=by
 have mixed:=mixed;obtain⟨i0,hi0,hz0,hz1,hz2⟩:=info_parts infoI2;have HW:=hideO (Ze.OwnI.empty w);have HT:=hideO (fun (k:Nat) (W:World) (hk:k<=t.size)=>turn_spec t k W (by omega) hk)
 have htz:(t.size:Int)<=48:=by omega
 go_enter func134,ntmps134
 go_wp2_with fail
 go_loopw [4,3] (fun i u wr=>∃ (k:Nat) (l:List Nat),i=.int .i64 k/\k<=t.size/\l.Perm (List.range k)/\l.Pairwise (lx (clT (turnV t)))/\OwnI wr w.heap.size u (ints l)/\u≠.slice none 0 0/\Below w.heap.size w wr) (fun i _ _=>t.size-(intOf i).toNat)
 case atStart=>exact⟨0,[],rfl,Nat.zero_le _,List.Perm.refl _,List.Pairwise.nil,HW.o,by simp,(Below.refl _ _).alloc nl _⟩
 case round =>
  obtain⟨k,l,rfl,hk,hp,hs,hown,hne,hbel⟩:=hrel;have HP:=hideO hp;have HS:=hideO hs;have GB:=hideO hbel;have hsz:=hbel.size
  have hlk:l.length=k:=by have:=hp.length_eq;simpa using this
  have HL:=hideO hlk;have G1:=hideO hown;obtain⟨g,cap,rfl,hg,hgl,ho⟩:=own_some hown hne;rw[ints_len,hlk]at G1 ⊢;have HO:=hideO ho
  have hcap:k<=cap:=by
   obtain⟨_,h⟩:=hown
   rcases h with⟨h,_⟩|⟨g',cap',cur,hv,_,_,hle,_⟩
   ·cases h
   ·simp at hv
    rw[ints_len,hlk]at hle;omega
  have hcm:cap<=maxLen:=by
   obtain⟨_,h⟩:=hown
   rcases h with⟨h,_⟩|⟨g',cap',cur,hv,_,_,_,hle,_⟩
   ·cases h
   ·simp at hv
    omega
  clear hown hne hbel hp hs ho hlk;by_cases hlt:k<t.size
  ·have hlt':(k:Int)<(t.size:Int):=by omega
   obtain⟨wo,hwo⟩:∃ wo,wo=wr:=⟨_,rfl⟩;subst hwo
   go_wp2_with fail
   go_loopw [5] (fun i wr2=>∃ (p q:Nat),i=.int .i64 p/\p<=k/\(∀ j (h:j<l.length),p<=j->clT (turnV t) k l[j]=true)/\wr2=wo.drewN q) (fun i _=>(intOf i).toNat)
   case atStart=>exact⟨k,0,rfl,nl,fun j h1 h2=>absurd h1 (by have:=HL.o;omega),rfl⟩
   case round =>
    obtain⟨p,q,rfl,hpk,hhi,hwr⟩:=hrel;have HHI:=hideO hhi;have HWR:=hideO hwr;have hO2:IsO wr g 2 (ints l):=(by rw[hwr];exact HO.o.of_heap rfl);clear hhi hwr;by_cases hp0:0<p
    ·obtain⟨pp,hpp⟩:∃ pp,p=pp+1:=⟨p-1,by omega⟩
     have hppl:pp<l.length:=by have:=HL.o;omega
     have c0:=hO2.cell (j:=pp) (by rw[ints_len];exact hppl);have ey:(ints l)[pp]'(by rw[ints_len];exact hppl)=((l[pp]:Nat):Int):=(by simp[ints]);rw[ey]at c0
     have hyk:l[pp]<k:=by
      have:=HP.o.mem_iff.1 (List.getElem_mem hppl)
      simpa using this
     obtain⟨y,hy⟩:∃ y,y=l[pp]:=⟨_,rfl⟩;rw[<-hy]at c0 hyk;have c1:=fun n'=>(show (wr.drewN n').cell? ⟨g,pp,none⟩=some (.int .i64 (y:Nat)) from c0);have HTK:=hideO (fun W=>HT.o k W (by omega));have HTY:=hideO (fun W=>HT.o y W (by omega));have HCL:Hid (Op.bytesLess (turnV t k).toList (turnV t y).toList=clT (turnV t) k y):=rfl;have e1:(p:Int)-1=(pp:Int):=(by omega);have hwp:IntKind.i64.wrap (pp:Int)=(pp:Int):=(by rw[IntKind.wrap_i64];omega);have hpz:(pp:Int)<(k:Int):=(by omega);have hp0':(0:Int)<(p:Int):=(by omega);have hpd:decide ((0:Int)<(p:Int))=true:=decide_eq_true hp0';have HPP:=hideO hpp;have HY:=hideO hy;generalize turnV t k=A at HTK HCL;generalize turnV t y=B at HTY HCL;clear c0 ey hpp hy hO2
     cases hcb:clT (turnV t) k y with
     |true =>
      have hbl:Op.bytesLess A.toList B.toList=true:=HCL.o.trans hcb
      have HC2:Hid (∀ j (h:j<l.length),pp<=j->clT (turnV t) k l[j]=true):=fun j h1 h2=>by
       rcases Nat.eq_or_lt_of_le h2 with e|e
       ·subst e
        rw[<-HY.o];exact hcb
       ·exact HHI.o j h1 (by have:=HPP.o;omega)
      (go_wp2_with fail)
      go_quiet (first|(go_at_call 167;(with_reducible refine Calls.quiet_of (HTK.o _)))|(go_at_call 167;(with_reducible refine Calls.quiet_of (HTY.o _))))
      all_goals (try go_wp2_with fail)
      go_roundw
      case rel=>exact⟨pp,q+nq,rfl,by omega,HC2.o,by rw[HWR.o];exact World.drewN_drewN _ _ _⟩
      case measure=>have:=HPP.o;simp[intOf];omega
     |false =>
      have hbl:Op.bytesLess A.toList B.toList=false:=HCL.o.trans hcb;(go_wp2_with fail)
      go_quiet (first|(go_at_call 167;(with_reducible refine Calls.quiet_of (HTK.o _)))|(go_at_call 167;(with_reducible refine Calls.quiet_of (HTY.o _))))
      have HQ:=hideO (ord_put (clT_weak (turnV t)) HP.o HS.o (show p<=l.length by have:=HL.o;omega) HHI.o (by
       have:=HPP.o
       exact Or.inr ⟨by omega,by
        have e:l[p-1]'(by omega)=y:=by rw[HY.o];congr 1;omega
        rw[e]
        exact hcb⟩))
      have G4:=hideO (own_drewN G1.o (q+nq));have O4:Hid (IsO (wo.drewN (q+nq)) g 2 (ints l)):=HO.o.of_heap rfl;have B4:=hideO (below_drewN GB.o (q+nq));have hW:wr.drewN nq=wo.drewN (q+nq):=(by rw[HWR.o];exact World.drewN_drewN _ _ _);have z4:g<(wo.drewN (q+nq)).heap.size:=hgl;have zs4:w.heap.size<=(wo.drewN (q+nq)).heap.size:=hsz;rw[hW];clear hW;generalize wo.drewN (q+nq)=W at G4 O4 B4 z4 zs4 ⊢;have HEM:=hideO (Ze.OwnI.empty W)
      have HTA:Hid ((ints l).length=k):=by
       unfold Hid;rw[ints_len,HL.o]
      have hpc:(p:Int)<=(cap:Int):=by omega
      have hpk':(p:Int)<=(k:Int):=by omega
      go_wp2_with (at_builtin;refine wpList_append_own _ rfl (.tmp 33) (.tmp 36) 69 rfl W.heap.size 2 i0 (.int .i64 0) 1 8 underlying69 hi0 hz0 hz1 hz2 rfl (by decide) _ 0 [] rfl HEM.o ⟨g,0,none⟩ p cap ((ints (l.take p)).map (Value.int .i64)) rfl ?len1 ?new1 (own_cells _) (by unfold maxLen;omega) (by omega) (by simp) ?_)
      case len1=>simp[ints_len];have:=HL.o;omega
      case new1=>exact own_news (isO_take (O4.o.below ((Below.refl _ W).alloc nl _) z4) p)
      intro v1 w1 hown1 hgrow1 _
      have HO1:Hid (OwnI w1 W.heap.size v1 (ints (l.take p))):=by
       have e:(ints (l.take p)).length=p:=by simp[ints_len];have:=HL.o;omega
       unfold Hid OwnI;rw[e];exact hown1
      have hb1:Below W.heap.size W w1:=((Below.refl W.heap.size W).alloc nl _).grown hgrow1 (by simp) (fun k hk=>by simp[Value.ownBlock]at hk;omega);have z1:=hb1.size;have O1:=hideO (O4.o.below hb1 z4);have B1:=hideO hb1;clear hown1 hgrow1 hb1
      have HLT:Hid ((ints (l.take p)).length=p):=by
       unfold Hid;simp[ints_len]
       have:=HL.o
       omega
      go_wp2_with (at_builtin;refine wpList_append_own _ rfl (.tmp 38) (.tmp 40) 69 rfl W.heap.size 2 i0 (.int .i64 0) 1 8 underlying69 hi0 hz0 hz1 hz2 rfl (by decide) _ _ _ rfl (Ze.OwnI.alloc HO1.o _) ⟨w1.heap.size,0,none⟩ 1 1 [.int .i64 (k:Nat)] rfl rfl (one_newI _ _ _) (one_cellI _) (by rw[HLT.o];unfold maxLen;omega) (by rw[HLT.o];omega) (by simp;omega) ?_)
      intro v2 w2 hown2 hgrow2 _
      have HO2:Hid (OwnI w2 W.heap.size v2 (ints (l.take p++[k]))):=by
       unfold Hid;rw[ints_snoc];exact In.OwnI.snoc hown2
      have hb2:=In.app_one B1.o z1 nl HO1.o hgrow2;have z2:=hb2.size;have O2:=hideO (O4.o.below hb2 z4);have B2:=hideO hb2;clear hown2 hgrow2 hb2 B1 O1
      have HLT2:Hid ((ints (l.take p++[k])).length=p+1):=by
       unfold Hid;simp[ints_len]
       have:=HL.o
       omega
      have HLD:Hid ((ints (l.drop p)).length=k-p):=by
       unfold Hid;simp[ints_len,HL.o]
      have HFIN:Hid (∀ v3 w3,w3.ownsRow W.heap.size 2 1 v3 (p+1+(k-p)) ((ints (l.take p++[k])).map (Value.int .i64)++(ints (l.drop p)).map (Value.int .i64))->OwnI w3 W.heap.size v3 (ints (l.take p++[k]++l.drop p))):=fun v3 w3 h=>by
       have e:ints (l.take p++[k]++l.drop p)=ints (l.take p++[k])++ints (l.drop p):=by simp[ints]
       rw[e]
       apply Ze.OwnI.joined
       rw[HLT2.o,HLD.o];exact h
      have HOW2:Hid (w2.ownsRow W.heap.size 2 1 v2 (p+1) ((ints (l.take p++[k])).map (Value.int .i64))):=by
       have:=HO2.o
       unfold OwnI at this;rw[HLT2.o]at this;exact this
      have hv2:v2≠.slice none 0 0:=own_ne HO2.o (by rw[HLT2.o];omega);by_cases hkp:p=k
      ·have HD0:Hid (ints (l.drop p)=[]):=by
        unfold Hid;rw[hkp,<-HL.o,List.drop_length];rfl
       subst hkp;by_cases hcp:cap=p
       ·subst hcp
        go_wp2_with (at_builtin;refine wpList_append_own _ rfl (.tmp 42) (.tmp 45) 69 rfl W.heap.size 2 i0 (.int .i64 0) 1 8 underlying69 hi0 hz0 hz1 hz2 rfl (by decide) _ _ _ rfl HOW2.o _ 0 _ [] rfl rfl (by intro j u hj;simp at hj) (by intro u hu;simp at hu) (by unfold maxLen;omega) (by omega) (by omega) ?_)
        intro v3 w3 hown3 hgrow3 _;have HO3:=hideO (HFIN.o v3 w3 (by rw[HD0.o,Nat.sub_self,List.map_nil,List.append_nil];exact hown3));have HN3:=hideO (own_ne HO3.o (by simp[ints_len];omega));have hb3:=hideO (Ze.app_row B2.o z2 nl HO2.o hgrow3);clear hown3 hgrow3;(go_wp2_with fail)
        go_roundw
        case rel=>exact⟨cap+1,_,by go_num,by omega,HQ.o.1,HQ.o.2,HO3.o.mono zs4,HN3.o,B4.o.trans (hb3.o.mono zs4)⟩
        case measure=>simp[intOf];omega
       ·have hcp1:¬(cap:Int)=(p:Int):=by omega
        have hcp2:p<cap:=by omega
        go_wp2_with (at_builtin;refine wpList_append_own _ rfl (.tmp 42) (.tmp 45) 69 rfl W.heap.size 2 i0 (.int .i64 0) 1 8 underlying69 hi0 hz0 hz1 hz2 rfl (by decide) _ _ _ rfl HOW2.o _ 0 _ [] rfl rfl (by intro j u hj;simp at hj) (by intro u hu;simp at hu) (by unfold maxLen;omega) (by omega) (by omega) ?_)
        intro v3 w3 hown3 hgrow3 _;have HO3:=hideO (HFIN.o v3 w3 (by rw[HD0.o,Nat.sub_self,List.map_nil,List.append_nil];exact hown3));have HN3:=hideO (own_ne HO3.o (by simp[ints_len];omega));have hb3:=hideO (Ze.app_row B2.o z2 nl HO2.o hgrow3);clear hown3 hgrow3;(go_wp2_with fail)
        go_roundw
        case rel=>exact⟨p+1,_,by go_num,by omega,HQ.o.1,HQ.o.2,HO3.o.mono zs4,HN3.o,B4.o.trans (hb3.o.mono zs4)⟩
        case measure=>simp[intOf];omega
      ·have hpk2:p<k:=by omega
       have hcp0:¬cap=p:=by omega
       have hcp1:¬(cap:Int)=(p:Int):=by omega
       obtain⟨dl,hdl⟩:∃ dl,dl=k-p:=⟨_,rfl⟩;have edl:(k:Int)-(p:Int)=(dl:Int):=(by omega);have edl2:k-p=dl:=hdl.symm;rw[<-hdl]at HFIN HLD;clear hkp hdl
       go_wp2_with (at_builtin;refine wpList_append_own _ rfl (.tmp 42) (.tmp 45) 69 rfl W.heap.size 2 i0 (.int .i64 0) 1 8 underlying69 hi0 hz0 hz1 hz2 rfl (by decide) _ _ _ rfl HOW2.o ⟨g,p,none⟩ dl _ ((ints (l.drop p)).map (Value.int .i64)) rfl ?len3 ?new3 (own_cells _) ?c31 ?c32 (by omega) ?_)
       case len3=>rw[List.length_map,HLD.o,Nat.mul_one]
       case new3=>exact isO_drop O2.o p
       case c31=>have:=HLD.o;unfold maxLen;omega
       case c32=>have:=HLD.o;omega
       intro v3 w3 hown3 hgrow3 _;have HO3:=hideO (HFIN.o v3 w3 hown3);have HN3:=hideO (own_ne HO3.o (by simp[ints_len];omega));have hb3:=hideO (Ze.app_row B2.o z2 nl HO2.o hgrow3);clear hown3 hgrow3;(go_wp2_with fail)
       go_roundw
       case rel=>exact⟨k+1,_,by go_num,by omega,HQ.o.1,HQ.o.2,HO3.o.mono zs4,HN3.o,B4.o.trans (hb3.o.mono zs4)⟩
       case measure=>simp[intOf];omega
    ·have hpd:decide ((0:Int)<(p:Int))=false:=decide_eq_false (by omega)
     have hpn:¬(0:Int)<(p:Int):=by omega
     clear hO2;(go_wp2_with fail)
     go_quiet (fail)
     have HQ:=hideO (ord_put (clT_weak (turnV t)) HP.o HS.o (show p<=l.length by have:=HL.o;omega) HHI.o (by exact Or.inl (by omega)));have G4:=hideO (own_drewN G1.o (q+nq));have O4:Hid (IsO (wo.drewN (q+nq)) g 2 (ints l)):=HO.o.of_heap rfl;have B4:=hideO (below_drewN GB.o (q+nq));have hW:wr.drewN nq=wo.drewN (q+nq):=(by rw[HWR.o];exact World.drewN_drewN _ _ _);have z4:g<(wo.drewN (q+nq)).heap.size:=hgl;have zs4:w.heap.size<=(wo.drewN (q+nq)).heap.size:=hsz;rw[hW];clear hW;generalize wo.drewN (q+nq)=W at G4 O4 B4 z4 zs4 ⊢;have HEM:=hideO (Ze.OwnI.empty W)
     have HTA:Hid ((ints l).length=k):=by
      unfold Hid;rw[ints_len,HL.o]
     have hpc:(p:Int)<=(cap:Int):=by omega
     have hpk':(p:Int)<=(k:Int):=by omega
     go_wp2_with (at_builtin;refine wpList_append_own _ rfl (.tmp 33) (.tmp 36) 69 rfl W.heap.size 2 i0 (.int .i64 0) 1 8 underlying69 hi0 hz0 hz1 hz2 rfl (by decide) _ 0 [] rfl HEM.o ⟨g,0,none⟩ p cap ((ints (l.take p)).map (Value.int .i64)) rfl ?len1 ?new1 (own_cells _) (by unfold maxLen;omega) (by omega) (by simp) ?_)
     case len1=>simp[ints_len];have:=HL.o;omega
     case new1=>exact own_news (isO_take (O4.o.below ((Below.refl _ W).alloc nl _) z4) p)
     intro v1 w1 hown1 hgrow1 _
     have HO1:Hid (OwnI w1 W.heap.size v1 (ints (l.take p))):=by
      have e:(ints (l.take p)).length=p:=by simp[ints_len];have:=HL.o;omega
      unfold Hid OwnI;rw[e];exact hown1
     have hb1:Below W.heap.size W w1:=((Below.refl W.heap.size W).alloc nl _).grown hgrow1 (by simp) (fun k hk=>by simp[Value.ownBlock]at hk;omega);have z1:=hb1.size;have O1:=hideO (O4.o.below hb1 z4);have B1:=hideO hb1;clear hown1 hgrow1 hb1
     have HLT:Hid ((ints (l.take p)).length=p):=by
      unfold Hid;simp[ints_len]
      have:=HL.o
      omega
     go_wp2_with (at_builtin;refine wpList_append_own _ rfl (.tmp 38) (.tmp 40) 69 rfl W.heap.size 2 i0 (.int .i64 0) 1 8 underlying69 hi0 hz0 hz1 hz2 rfl (by decide) _ _ _ rfl (Ze.OwnI.alloc HO1.o _) ⟨w1.heap.size,0,none⟩ 1 1 [.int .i64 (k:Nat)] rfl rfl (one_newI _ _ _) (one_cellI _) (by rw[HLT.o];unfold maxLen;omega) (by rw[HLT.o];omega) (by simp;omega) ?_)
     intro v2 w2 hown2 hgrow2 _
     have HO2:Hid (OwnI w2 W.heap.size v2 (ints (l.take p++[k]))):=by
      unfold Hid;rw[ints_snoc];exact In.OwnI.snoc hown2
     have hb2:=In.app_one B1.o z1 nl HO1.o hgrow2;have z2:=hb2.size;have O2:=hideO (O4.o.below hb2 z4);have B2:=hideO hb2;clear hown2 hgrow2 hb2 B1 O1
     have HLT2:Hid ((ints (l.take p++[k])).length=p+1):=by
      unfold Hid;simp[ints_len]
      have:=HL.o
      omega
     have HLD:Hid ((ints (l.drop p)).length=k-p):=by
      unfold Hid;simp[ints_len,HL.o]
     have HFIN:Hid (∀ v3 w3,w3.ownsRow W.heap.size 2 1 v3 (p+1+(k-p)) ((ints (l.take p++[k])).map (Value.int .i64)++(ints (l.drop p)).map (Value.int .i64))->OwnI w3 W.heap.size v3 (ints (l.take p++[k]++l.drop p))):=fun v3 w3 h=>by
      have e:ints (l.take p++[k]++l.drop p)=ints (l.take p++[k])++ints (l.drop p):=by simp[ints]
      rw[e]
      apply Ze.OwnI.joined
      rw[HLT2.o,HLD.o];exact h
     have HOW2:Hid (w2.ownsRow W.heap.size 2 1 v2 (p+1) ((ints (l.take p++[k])).map (Value.int .i64))):=by
      have:=HO2.o
      unfold OwnI at this;rw[HLT2.o]at this;exact this
     have hv2:v2≠.slice none 0 0:=own_ne HO2.o (by rw[HLT2.o];omega);by_cases hkp:p=k
     ·have HD0:Hid (ints (l.drop p)=[]):=by
       unfold Hid;rw[hkp,<-HL.o,List.drop_length];rfl
      subst hkp;by_cases hcp:cap=p
      ·subst hcp
       go_wp2_with (at_builtin;refine wpList_append_own _ rfl (.tmp 42) (.tmp 45) 69 rfl W.heap.size 2 i0 (.int .i64 0) 1 8 underlying69 hi0 hz0 hz1 hz2 rfl (by decide) _ _ _ rfl HOW2.o _ 0 _ [] rfl rfl (by intro j u hj;simp at hj) (by intro u hu;simp at hu) (by unfold maxLen;omega) (by omega) (by omega) ?_)
       intro v3 w3 hown3 hgrow3 _;have HO3:=hideO (HFIN.o v3 w3 (by rw[HD0.o,Nat.sub_self,List.map_nil,List.append_nil];exact hown3));have HN3:=hideO (own_ne HO3.o (by simp[ints_len];omega));have hb3:=hideO (Ze.app_row B2.o z2 nl HO2.o hgrow3);clear hown3 hgrow3;(go_wp2_with fail)
       go_roundw
       case rel=>exact⟨cap+1,_,by go_num,by omega,HQ.o.1,HQ.o.2,HO3.o.mono zs4,HN3.o,B4.o.trans (hb3.o.mono zs4)⟩
       case measure=>simp[intOf];omega
      ·have hcp1:¬(cap:Int)=(p:Int):=by omega
       have hcp2:p<cap:=by omega
       go_wp2_with (at_builtin;refine wpList_append_own _ rfl (.tmp 42) (.tmp 45) 69 rfl W.heap.size 2 i0 (.int .i64 0) 1 8 underlying69 hi0 hz0 hz1 hz2 rfl (by decide) _ _ _ rfl HOW2.o _ 0 _ [] rfl rfl (by intro j u hj;simp at hj) (by intro u hu;simp at hu) (by unfold maxLen;omega) (by omega) (by omega) ?_)
       intro v3 w3 hown3 hgrow3 _;have HO3:=hideO (HFIN.o v3 w3 (by rw[HD0.o,Nat.sub_self,List.map_nil,List.append_nil];exact hown3));have HN3:=hideO (own_ne HO3.o (by simp[ints_len];omega));have hb3:=hideO (Ze.app_row B2.o z2 nl HO2.o hgrow3);clear hown3 hgrow3;(go_wp2_with fail)
       go_roundw
       case rel=>exact⟨p+1,_,by go_num,by omega,HQ.o.1,HQ.o.2,HO3.o.mono zs4,HN3.o,B4.o.trans (hb3.o.mono zs4)⟩
       case measure=>simp[intOf];omega
     ·have hpk2:p<k:=by omega
      have hcp0:¬cap=p:=by omega
      have hcp1:¬(cap:Int)=(p:Int):=by omega
      obtain⟨dl,hdl⟩:∃ dl,dl=k-p:=⟨_,rfl⟩;have edl:(k:Int)-(p:Int)=(dl:Int):=(by omega);have edl2:k-p=dl:=hdl.symm;rw[<-hdl]at HFIN HLD;clear hkp hdl
      go_wp2_with (at_builtin;refine wpList_append_own _ rfl (.tmp 42) (.tmp 45) 69 rfl W.heap.size 2 i0 (.int .i64 0) 1 8 underlying69 hi0 hz0 hz1 hz2 rfl (by decide) _ _ _ rfl HOW2.o ⟨g,p,none⟩ dl _ ((ints (l.drop p)).map (Value.int .i64)) rfl ?len3 ?new3 (own_cells _) ?c31 ?c32 (by omega) ?_)
      case len3=>rw[List.length_map,HLD.o,Nat.mul_one]
      case new3=>exact isO_drop O2.o p
      case c31=>have:=HLD.o;unfold maxLen;omega
      case c32=>have:=HLD.o;omega
      intro v3 w3 hown3 hgrow3 _;have HO3:=hideO (HFIN.o v3 w3 hown3);have HN3:=hideO (own_ne HO3.o (by simp[ints_len];omega));have hb3:=hideO (Ze.app_row B2.o z2 nl HO2.o hgrow3);clear hown3 hgrow3;(go_wp2_with fail)
      go_roundw
      case rel=>exact⟨k+1,_,by go_num,by omega,HQ.o.1,HQ.o.2,HO3.o.mono zs4,HN3.o,B4.o.trans (hb3.o.mono zs4)⟩
      case measure=>simp[intOf];omega
  ·obtain rfl:k=t.size:=by omega
   go_wp2_with fail
   go_ret;exact⟨_,l,rfl,G1.o,⟨HP.o,HS.o⟩,by simp,GB.o⟩
end So
namespace Sh
theorem pad_first (t:ByteArray) (j:Nat) (h:j<t.size+1):(if j=t.size then 128 else bt t j)=pad t j:=by
 by_cases e:j=t.size
 ·subst e;simp[pad,padK]
 ·have:j<t.size:=by omega
  simp[pad,padK,e,this]
theorem pad_zero (t:ByteArray) (n:Nat) (h1:t.size<n) (h2:n+8<chunks t.size*64):pad t n=0:=by
 have a:¬n<t.size:=by omega
 have b:¬n=t.size:=by omega
 have c:¬chunks t.size*64<=n+8:=by omega
 simp[pad,padK,a,b,c]
theorem pad_len (t:ByteArray) (m:Nat) (hm:m<8):pad t (chunks t.size*64-8+m)=t.size*8/2 ^ (56-8*m)%256:=by
 have hr:=chunks_room t.size
 have a:¬chunks t.size*64-8+m<t.size:=by omega
 have b:¬chunks t.size*64-8+m=t.size:=by omega
 have c:chunks t.size*64<=chunks t.size*64-8+m+8:=by omega
 have d:chunks t.size*64-1-(chunks t.size*64-8+m)=7-m:=by omega
 have e:8*(7-m)=56-8*m:=by omega
 simp only[pad,padK,if_neg a,if_neg b,if_pos c,d,e]
theorem pad_app (t:ByteArray) (n x:Nat) (hx:x=pad t n) (j:Nat):(if j=n then x else pad t j)=pad t j:=by
 by_cases e:j=n
 ·subst e;simp[hx]
 ·simp[e]
theorem part_congr (B B':Nat->Nat) (h:∀ j,j<64->B j=B' j) (i:Nat) (hi:i<16):∀ j,j<=4->part B i j=part B' i j
 |0,_=>rfl
 |j+1,hj=>by simp only[part];rw[part_congr B B' h i hi j (by omega),h _ (by omega)]
theorem wv_congr (B B':Nat->Nat) (h:∀ j,j<64->B j=B' j) (i:Nat):wv B i=wv B' i:=by
 induction i using Nat.strongRecOn with
 |_ i ih =>
  by_cases hi:i<16
  ·rw[wv_lo B i hi,wv_lo B' i hi]
   simp only[word];rw[part_congr B B' h i hi 4 nl]
  ·rw[wv_hi B i hi,wv_hi B' i hi,ih (i-16) (by omega),ih (i-15) (by omega),ih (i-7) (by omega),ih (i-2) (by omega)]
theorem run_congr (B B':Nat->Nat) (s:Nat->Int) (h:∀ j,j<64->B j=B' j):∀ k,run B s k=run B' s k
 |0=>rfl
 |k+1=>by simp only[run];rw[run_congr B B' s h k,wv_congr B B' h k]
theorem blk_congr (B B':Nat->Nat) (s:Nat->Int) (h:∀ j,j<64->B j=B' j):blk B s=blk B' s:=by
 funext j
 simp only[blk];rw[run_congr B B' s h 64]
theorem blk_str (t:ByteArray) (k:Nat) (s:Nat->Int):blk (bt (strF 64 (blkB t k))) s=blk (blkB t k) s :=
 blk_congr _ _ s (fun j hj=>bt_strF 64 _ j hj (blkB_lt t k j))
theorem firstF_range (j:Nat):0<=firstF j/\firstF j<4294967296:=by
 by_cases h:j<8
 ·have:j=0∨j=1∨j=2∨j=3∨j=4∨j=5∨j=6∨j=7:=by omega
  rcases this with rfl|rfl|rfl|rfl|rfl|rfl|rfl|rfl<;>decide
 ·simp[firstF,firstL,List.getD,List.getElem?_eq_none (show [1779033703,3144134277,1013904242,2773480762,1359893119,2600822924,528734635,(1541459225:Int)].length<=j by simp;omega)]
theorem shaS_range (t:ByteArray) (k j:Nat):0<=shaS t k j/\shaS t k j<4294967296:=by
 cases k with
 |zero=>exact firstF_range j
 |succ k=>simp only[shaS,blk];omega
theorem OwnB.piece {P:Program} {w:World} {base g cap L:Nat} {f:Nat->Nat} (h:OwnB w base (.slice (some ⟨g,0,none⟩) L cap) L f) (off m c:Nat) (hm:off+m<=L) (hf:∀ j,f j<256) {src dst e:TypeId}
  (hs:P.underlying src=some (.slice e)) (he:P.underlying e=some (.int .u8)) (hd:P.underlying dst=some .string) :
  (convert src dst (.slice (some ⟨g,off,none⟩) m c)).run P w=.ok (.string (strF m (fun j=>f (off+j)))) w:=by
 obtain⟨g',cap',e1,_,_,_,_,hcl,_⟩:=h;simp at e1;obtain⟨rfl,rfl⟩:=e1
 have hl:((List.range m).map fun j=>UInt8.ofNat (f (off+j))).length=m:=by simp
 have:=run_convert_bytes_back (P:=P) w src dst e ⟨g,off,none⟩ c ((List.range m).map fun j=>UInt8.ofNat (f (off+j))) hs he hd (by
  intro j hj;rw[hl]at hj
  have hadd:(⟨g,off,none⟩:Addr).add j=⟨g,off+j,none⟩:=by unfold Addr.add;split<;>simp_all
  rw[hadd,hcl (off+j) (by omega)];have h3:=hf (off+j);simp
  omega)
 rw[hl]at this;exact this
theorem own_str {P:Program} {w:World} {base e:Nat} {v:Value} {n:Nat} {f:Nat->Nat} (h:w.ownsRow base e 1 v n (rowF .u8 n (fun j=>(f j:Nat))).toList) (hf:∀ j,f j<256) {src dst:TypeId}
  (hs:P.underlying src=some (.slice e)) (he:P.underlying e=some (.int .u8)) (hd:P.underlying dst=some .string) :
  (convert src dst v).run P w=.ok (.string (strF n f)) w:=by
 have hl:((List.range n).map fun j=>UInt8.ofNat (f j)).length=n:=by simp
 have hm:((List.range n).map fun j=>UInt8.ofNat (f j)).map Nu.bv=(rowF .u8 n (fun j=>(f j:Nat))).toList:=by
  simp only[rowF,List.map_map]
  apply List.map_congr_left
  intro j _
  have:=hf j
  simp[Nu.bv];omega
 have:=Nu.own_string (P:=P) (src:=src) (dst:=dst) ((List.range n).map fun j=>UInt8.ofNat (f j)) (by rw[hl,hm];exact h) hs he hd
 exact this
theorem outF_at (s:Nat->Int) (j r:Nat) (hr:r<4):((outF s (4*j+r):Nat):Int)=s j/2 ^ (24-8*r)%256:=by
 rw[<-outF_cast]
 have h1:(4*j+r)/4=j:=by omega
 have h2:(4*j+r)%4=r:=by omega
 rw[h1,h2]
theorem out_four (s:Nat->Int) (j:Nat) (x0 x1 x2 x3:Int) (h0:x0=s j/16777216%256) (h1:x1=s j/65536%256) (h2:x2=s j/256%256) (h3:x3=s j%256) :
  (rowF .u8 (4*j) (fun q=>(outF s q:Nat))).toList++[.int .u8 x0,.int .u8 x1,.int .u8 x2,.int .u8 x3]=(rowF .u8 (4*(j+1)) (fun q=>(outF s q:Nat))).toList:=by
 have e0:x0=((outF s (4*j):Nat):Int):=by rw[h0];exact(outF_at s j 0 (by decide)).symm
 have e1:x1=((outF s (4*j+1):Nat):Int):=by rw[h1];exact(outF_at s j 1 (by decide)).symm
 have e2:x2=((outF s (4*j+2):Nat):Int):=by rw[h2];exact(outF_at s j 2 (by decide)).symm
 have e3:x3=((outF s (4*j+3):Nat):Int):=by
  rw[h3,outF_at s j 3 (by decide)];simp
 rw[e0,e1,e2,e3,show 4*(j+1)=4*j+1+1+1+1 by omega,<-rowF_snoc,<-rowF_snoc,<-rowF_snoc,<-rowF_snoc];simp
theorem four_new (W:World) (a b c d:Value) (t:TypeId):∀ (j:Nat) (u:Value),[a,b,c,d][j]? = some u->(W.alloc (.cells #[a,b,c,d] t)).cell? ((⟨W.heap.size,0,none⟩:Addr).add j)=some u:=by
 intro j u hj
 match j,hj with
 |0,hj=>simp at hj;subst hj;simp[Addr.add]
 |1,hj=>simp at hj;subst hj;simp[Addr.add]
 |2,hj=>simp at hj;subst hj;simp[Addr.add]
 |3,hj=>simp at hj;subst hj;simp[Addr.add]
end Sh
end Go.Proofs.YtbdcffjcogglbaaGreatDoor
