import Derived.Test.YtbdcffjcogglbaaGreatDoorOz17
import Derived.Test.YtbdcffjcogglbaaGreatDoorOz18
import Derived.Test.YtbdcffjcogglbaaGreatDoorOz19
import Derived.Test.YtbdcffjcogglbaaGreatDoorOz12
import Derived.Test.YtbdcffjcogglbaaGreatDoorOz2
import Derived.Test.YtbdcffjcogglbaaGreatDoorOz15
import Derived.ArgAppend
set_option maxRecDepth 100000
set_option maxHeartbeats 8000000
namespace Go.Proofs.YtbdcffjcogglbaaGreatDoor
open Go.RowKit
open Go.Proofs.Tryz
namespace Pk
open St (Strs IsS made_strs)
open In (Ints IsI OwnI made_ints)
open Nu (putS)
theorem hideP {p:Prop} (h:p):Hid p:=h
def cat (l:List ByteArray):List UInt8:=l.flatMap fun s=>s.data.toList
theorem cat_next (l:List ByteArray) (k:Nat) (h:k<l.length):cat (l.take (k+1))=cat (l.take k)++l[k].data.toList:=by
 rw[List.take_add_one,List.getElem?_eq_getElem h];unfold cat;rw[List.flatMap_append];simp
theorem cat_take_le (l:List ByteArray) (k:Nat):(cat (l.take k)).length<=(cat l).length:=by
  have:cat l=cat (l.take k)++cat (l.drop k):=by
   unfold cat;rw[<-List.flatMap_append,List.take_append_drop]
  rw[this,List.length_append];omega
theorem join_any (l:List ByteArray) (a:Option Addr) (cap n:Nat) (w:World) (h:Strs w w.heap.size a l) (hn:l.length=n) (hn2:n<=1048576) (hc:(cat l).length<=1048576) :
  Calls prog 28 #[.slice a n cap] w fun e w'=>e=.returned (.string ⟨(cat l).toArray⟩)/\Below w.heap.size w w':=by
 have HN:=hideP hn;have HS:=hideP h;have HC:=hideP (fun k=>Nat.le_trans (cat_take_le l k) hc);clear h hn hc;go_enter func28,ntmps28
 go_wp2_with fail
 go_loopw [8,5] (fun i _ wr=>∃ k:Nat,i=.int .i64 k/\k<=n/\Lib.IsBuilder 83 5 w.heap.size w.heap.size (Lib.byteCells (cat (l.take k))) wr/\Below w.heap.size w wr/\w.heap.size<=wr.heap.size) (fun i _ _=>n-(intOf i).toNat)
 case atStart=>exact⟨0,rfl,Nat.zero_le _,Lib.fresh_isBuilder _ _ w,(Below.refl _ _).alloc nl _,by simp⟩
 case round =>
  obtain⟨k,rfl,hk,hbu,hbel,hbz⟩:=hrel;have HBU:=hideP hbu;have GB:=hideP hbel;clear hbu hbel;by_cases hlt:k<n
  ·have hkl:k<l.length:=by rw[HN.o];exact hlt
   obtain⟨b,off,rfl,hb,hcl⟩:∃ b off,a=some ⟨b,off,none⟩/\b<w.heap.size/\∀ j (h:j<l.length),wr.cell? ⟨b,off+j,none⟩=some (.string l[j]):=by
    rcases HS.o.below GB.o with h0|h
    ·subst h0
     simp at hkl
    ·exact h
   have ci:=hcl k hkl;have HNX:=hideP (cat_next l k hkl);have h1:=HC.o (k+1);rw[HNX.o,List.length_append]at h1;generalize l[k]=s at ci HNX h1
   have hss:s.data.toList.length=s.size:=by simp
   have HLE:Hid ((Lib.byteCells (cat (l.take k))).length+s.size<=140737488355328):=by
    unfold Hid;rw[Lib.byteCells_length];omega
   have HNC:Hid (Lib.byteCells (cat (l.take k))++Lib.strCells s=Lib.byteCells (cat (l.take (k+1)))):=by
    unfold Hid;rw[HNX.o,Lib.byteCells_append,Lib.strCells_eq]
   have HWR:=hideP (Sb.write_any w.heap.size w.heap.size _ s wr HBU.o HLE.o hbz);clear hcl h1 hss hkl
   go_wp2_with fail
   refine HWR.o.mono ?_;rintro e w2 ⟨rfl,hbt,hb2⟩;rw[HNC.o]at hbt;have HBT:=hideP hbt;have B2:=hideP (GB.o.trans hb2);have z2:=hb2.size;clear hbt hb2
   go_wp2_with fail
   go_roundw
   case rel=>exact⟨k+1,by go_num,by omega,Or.inr HBT.o,B2.o,by omega⟩
   case measure=>simp[intOf];omega
  ·obtain rfl:k=n:=by omega
   have HE:Hid (cat (l.take k)=cat l):=by
    unfold Hid;rw[List.take_of_length_le (by rw[HN.o];exact nl)]
   have HST:=hideP (Sb.string_any w.heap.size w.heap.size _ wr HBU.o hbz);rw[HE.o]at HST
   go_wp2_with fail
   refine HST.o.mono ?_;rintro e w2 ⟨rfl,hb2⟩;have B2:=hideP (GB.o.trans hb2);clear hb2
   go_wp2_with fail
   go_ret;exact⟨rfl,B2.o⟩
def numsL (l:List Int):List UInt8:=l.flatMap fun x=>(putS x).data.toList
def putsN (l:List Int) (k:Nat):List ByteArray:=(l.take k).map putS++List.replicate (l.length-k) ⟨#[]⟩
theorem putsN_all (l:List Int):cat (putsN l l.length)=numsL l:=by
 unfold putsN cat numsL;rw[List.take_length,Nat.sub_self,List.replicate_zero,List.append_nil,List.flatMap_map]
theorem putsN_length (l:List Int) (k:Nat) (h:k<=l.length):(putsN l k).length=l.length:=by
 unfold putsN;rw[List.length_append,List.length_map,List.length_take,List.length_replicate];omega
theorem putsN_next (l:List Int) (k:Nat) (h:k<l.length):(putsN l k).set k (putS l[k])=putsN l (k+1):=by
 have hl:((l.take k).map putS).length=k:=by rw[List.length_map,List.length_take];omega
 unfold putsN;rw[List.set_append,if_neg (by omega),hl,Nat.sub_self,show l.length-k=(l.length-(k+1))+1 by omega,List.replicate_succ,List.set_cons_zero,List.take_add_one,List.getElem?_eq_getElem h,List.map_append,List.append_assoc];rfl
theorem putsN_zero (l:List Int):putsN l 0=List.replicate l.length ⟨#[]⟩:=by
 unfold putsN;simp
theorem putS_size (n:Int):(putS n).size<=10:=by
 show (Nu.numB (Nu.zz n)).toArray.size<=10
 rw[List.size_toArray];unfold Nu.numB;rw[Nu.numL_length]
 have:=Nu.cnt_le 9 (Nu.zz n)
 omega
theorem numsL_le (l:List Int):(numsL l).length<=10*l.length:=by
 induction l with
 |nil=>exact nl
 |cons x l ih =>
  have h1:=ih;have h3:=putS_size x
  have h4:(putS x).data.toList.length=(putS x).size:=by simp
  unfold numsL at h1 ⊢;rw[List.flatMap_cons,List.length_append,List.length_cons];omega
theorem nums_any (l:List Int) (a:Option Addr) (cap n:Nat) (w:World) (h:Ints w w.heap.size a l) (hn:l.length=n) (hn2:n<=100000) (hr:∀ x∈l,-9223372036854775808<=x/\x<=9223372036854775807) :
  Calls prog 94 #[.slice a n cap] w fun e w'=>e=.returned (.string ⟨(numsL l).toArray⟩)/\Below w.heap.size w w':=by
 obtain⟨i0,hi0,hz0,hz1,hz2⟩:=info_parts St.Tryz.infoS9;have HN:=hideP hn;have HS:=hideP h;have HR:=hideP hr;have HLE:=hideP (numsL_le l);clear h hn hr;go_enter func94,ntmps94
 go_wp2_with (at_make;refine wpList_make_full _ rfl (.tmp 7) (.tmp 7) 31 rfl w.heap.size 9 i0 (.string ⟨#[]⟩) 1 underlying31 hi0 hz0 hz1 .i64 .i64 _ _ n rfl rfl (by simp) (by simp) (by rw[hz2];omega) (by unfold maxLen;omega) nl ?_;intro w1 hown hgrow;have HI1:=hideP (made_strs hown);have HB1:=hideP ((Below.refl w.heap.size w).grown hgrow nl (by simp));clear hown hgrow)
 have z1:=HI1.o.lt
 go_loopw [11,4,5] (fun i _ _ wr=>∃ k:Nat,i=.int .i64 k/\k<=n/\IsS wr w.heap.size 9 (putsN l k)/\Below w.heap.size w wr) (fun i _ _ _=>n-(intOf i).toNat)
 case atStart=>exact⟨0,rfl,Nat.zero_le _,by rw[putsN_zero,HN.o];exact HI1.o,HB1.o⟩
 case round =>
  obtain⟨k,rfl,hk,hsr,hbw⟩:=hrel;have SR:=hideP hsr;have BW:=hideP hbw;have hzr:=hbw.size;clear hsr hbw;by_cases hlt:k<n
  ·have hkl:k<l.length:=by rw[HN.o];exact hlt
   obtain⟨b,off,rfl,hb,hcl⟩:=(HS.o.below BW.o).some (by omega);have ci:=hcl k hkl;have HNX:=hideP (putsN_next l k hkl);have hx:=HR.o l[k] (List.getElem_mem hkl)
   have hpl:k<(putsN l k).length:=by rw[putsN_length l k (by omega)];exact hkl
   have HOLD:=hideP (fun (W:World) (hW:IsS W w.heap.size 9 (putsN l k))=>hW.cell hpl);generalize l[k]=x at ci HNX hx;generalize (putsN l k)[k]=old at HOLD
   have hkn:(k:Int)<n:=by omega
   clear hcl hkl hpl
   go_wp2_with fail
   refine(Nu.put_impl x _ hx.1 hx.2).mono ?_;rintro e w2 ⟨rfl,hb2⟩;have S2:=hideP (SR.o.below hb2 SR.o.lt);have B2:=hideP (BW.o.trans (hb2.mono hzr));have c2:=HOLD.o w2 S2.o;have f2:=S2.o.frozen k;clear hb2
   go_wp2_with fail
   go_roundw
   case rel=>exact⟨k+1,by go_num,by omega,by rw[<-HNX.o];exact S2.o.set k _,B2.o.setCell (by simp) _⟩
   case measure=>simp[intOf];omega
  ·obtain rfl:k=n:=by omega
   have HJ:Hid (Calls prog 28 #[.slice (some ⟨w.heap.size,0,none⟩) k k] wr fun e w'=>e=.returned (.string ⟨(numsL l).toArray⟩)/\Below wr.heap.size wr w'):=by
    have hlk:k=l.length:=HN.o.symm
    have:=join_any (putsN l k) (some ⟨w.heap.size,0,none⟩) k k wr (SR.o.strs SR.o.lt) (by rw[putsN_length l k (by omega)];exact HN.o) (by omega) (by rw[hlk,putsN_all];have:=HLE.o;omega)
    rw[hlk,putsN_all]at this;rw[hlk];exact this
   go_wp2_with fail
   refine HJ.o.mono ?_;rintro e w2 ⟨rfl,hb2⟩;have B2:=hideP (BW.o.trans (hb2.mono hzr));clear hb2
   go_wp2_with fail
   go_ret;exact⟨rfl,B2.o⟩
end Pk
namespace Bi
open Sh
def good (t:ByteArray):Bool:=decide (∀ j,j<t.size->bt t j=48∨bt t j=49)
theorem good_yes {t:ByteArray} (h:good t=true):∀ j,j<t.size->bt t j=48∨bt t j=49:=of_decide_eq_true h
theorem good_of {t:ByteArray} (h:∀ j,j<t.size->bt t j=48∨bt t j=49):good t=true:=decide_eq_true h
theorem good_not {t:ByteArray} {j:Nat} (h:j<t.size) (h1:bt t j≠48) (h2:bt t j≠49):good t=false:=decide_eq_false fun g=>by
 rcases g j h with e|e
 ·exact h1 e
 ·exact h2 e
def one (t:ByteArray) (i:Nat):Nat:=if i<t.size/\bt t i=49 then 1 else 0
def pk (t:ByteArray) (q:Nat):Nat->Nat
 |0=>0
 |r+1=>pk t q r+one t (8*q+r)*2 ^ (7-r)
theorem one_le (t:ByteArray) (i:Nat):one t i<=1:=by unfold one;split<;>omega
theorem pk_mul (t:ByteArray) (q:Nat):∀ r,r<=8->∃ n,pk t q r=n*2 ^ (8-r)/\n<2 ^ r:=by
 intro r
 induction r with
 |zero=>intro _;exact⟨0,by simp[pk],by decide⟩
 |succ r ih =>
  intro hr;obtain⟨n,h1,h2⟩:=ih (by omega);have h3:=one_le t (8*q+r);refine⟨2*n+one t (8*q+r),?_,by rw[Nat.pow_succ];omega⟩
  have e:8-r=7-r+1:=by omega
  have e2:8-(r+1)=7-r:=by omega
  simp only[pk];rw[h1,e,Nat.pow_succ,e2,Nat.add_mul,Nat.mul_comm (2 ^ (7-r)) 2,<-Nat.mul_assoc,Nat.mul_comm n 2]
theorem pk_lt (t:ByteArray) (q r:Nat) (hr:r<=8):pk t q r<256:=by
 obtain⟨n,h1,h2⟩:=pk_mul t q r hr;rw[h1];have h3:n*2 ^ (8-r)<2 ^ r*2 ^ (8-r):=Nat.mul_lt_mul_of_pos_right h2 (Nat.pow_pos (by decide));rw[<-Nat.pow_add,show r+(8-r)=8 by omega]at h3;omega
def packV (t:ByteArray):ByteArray:=strF ((t.size+7)/8) (fun q=>pk t q 8)
def packR (t:ByteArray):ByteArray:=if 8000<t.size∨good t=false then ⟨#[]⟩ else packV t
theorem packR_no (t:ByteArray) (h:8000<t.size∨good t=false):packR t=⟨#[]⟩:=if_pos h
theorem packR_yes (t:ByteArray) (h:¬8000<t.size) (h2:good t=true):packR t=packV t:=if_neg (by rw[h2];simp;omega)
def pkK (t:ByteArray) (k q:Nat):Nat:=pk t q (min 8 (k-8*q))
theorem pkK_lt (t:ByteArray) (k q:Nat):pkK t k q<256:=pk_lt t q _ (Nat.min_le_left _ _)
theorem pkK_zero (t:ByteArray) (q:Nat):pkK t 0 q=0:=by simp[pkK,pk]
theorem pkK_other (t:ByteArray) (k q:Nat) (h:q≠k/8):pkK t (k+1) q=pkK t k q:=by
 unfold pkK
 congr 1
 omega
theorem pkK_here (t:ByteArray) (k:Nat):pkK t k (k/8)=pk t (k/8) (k%8):=by
 unfold pkK
 congr 1
 omega
theorem pkK_next (t:ByteArray) (k:Nat):pkK t (k+1) (k/8)=pk t (k/8) (k%8)+one t k*2 ^ (7-k%8):=by
 have e:min 8 (k+1-8*(k/8))=k%8+1:=by omega
 unfold pkK;rw[e];simp only[pk];rw[show 8*(k/8)+k%8=k by omega]
theorem pkK_set (t:ByteArray) (k q:Nat) (v:Int) (h:one t k=1) (hv:v=((pk t (k/8) (k%8)+2 ^ (7-k%8):Nat):Int)):upd (fun j=>((pkK t k j:Nat):Int)) (k/8) v q=(pkK t (k+1) q:Nat):=by
 subst hv;unfold upd;by_cases e:q=k/8
 ·subst e
  rw[if_pos rfl,pkK_next,h,Nat.one_mul]
 ·rw[if_neg e,pkK_other t k q e]
theorem pkK_skip (t:ByteArray) (k q:Nat) (h:one t k=0):((pkK t k q:Nat):Int)=(pkK t (k+1) q:Nat):=by
 by_cases e:q=k/8
 ·subst e
  rw[pkK_next,h,Nat.zero_mul,pkK_here];rfl
 ·rw[pkK_other t k q e]
theorem one_behind (t:ByteArray) (i:Nat) (h:t.size<=i):one t i=0:=by unfold one;rw[if_neg (by omega)]
theorem pk_behind (t:ByteArray) (q r:Nat) (h:t.size<=8*q+r):∀ d,pk t q (r+d)=pk t q r:=by
 intro d
 induction d with
 |zero=>rfl
 |succ d ih =>
  rw[<-Nat.add_assoc];simp only[pk];rw[one_behind t _ (by omega),ih];omega
theorem pkK_all (t:ByteArray) (q:Nat):pkK t t.size q=pk t q 8:=by
 unfold pkK;by_cases e:8<=t.size-8*q
 ·rw[Nat.min_eq_left e]
 ·have e2:min 8 (t.size-8*q)=t.size-8*q:=Nat.min_eq_right (by omega)
  rw[e2]
  have:=pk_behind t q (t.size-8*q) (by omega) (8-(t.size-8*q))
  rw[show t.size-8*q+(8-(t.size-8*q))=8 by omega]at this;exact this.symm
theorem pack_all (t:ByteArray):strF ((t.size+7)/8) (fun q=>pkK t t.size q)=packV t:=strF_congr _ _ _ fun q _=>pkK_all t q
theorem pk_or (t:ByteArray) (q r:Nat) (h:r<8):bits BinOp.or IntKind.u8 ((pk t q r:Nat):Int) ((2 ^ (7-r):Nat):Int)=((pk t q r+2 ^ (7-r):Nat):Int):=by
 obtain⟨n,h1,h2⟩:=pk_mul t q r (by omega);have h3:=pk_lt t q r (by omega)
 have h4:2 ^ (7-r)<256:=by
  have:=Nat.pow_le_pow_right (n:=2) (by decide) (show 7-r<=7 by omega)
  omega
 rw[u8_or_nat _ _ h3 h4]
 rw[nat_join (8-r) (pk t q r) (2 ^ (7-r)) (by rw[h1];exact Nat.mul_mod_left _ _) (by
  have e:8-r=7-r+1:=by omega
  rw[e,Nat.pow_succ]
  have:=Nat.pow_pos (n:=7-r) (a:=2) (by decide)
  omega)]
def hd (t:ByteArray) (q:Nat):Nat->Nat
 |0=>0
 |r+1=>2*hd t q r+one t (8*q+r)
theorem hd_pk (t:ByteArray) (q:Nat):∀ r,r<=8->pk t q r=hd t q r*2 ^ (8-r):=by
 intro r
 induction r with
 |zero=>intro _;simp[pk,hd]
 |succ r ih =>
  intro hr;simp only[pk,hd];rw[ih (by omega),show 8-r=7-r+1 by omega,Nat.pow_succ,show 8-(r+1)=7-r by omega,Nat.add_mul,Nat.mul_comm (2 ^ (7-r)) 2,<-Nat.mul_assoc,Nat.mul_comm (hd t q r) 2]
theorem hd_all (t:ByteArray) (q:Nat):hd t q 8=pk t q 8:=by
 have:=hd_pk t q 8 nl
 simpa using this.symm
theorem hd_lt (t:ByteArray) (q:Nat):∀ r,hd t q r<2 ^ r:=by
 intro r
 induction r with
 |zero=>exact Nat.lt_succ_self 0
 |succ r ih =>
  have:=one_le t (8*q+r)
  simp only[hd];rw[Nat.pow_succ];omega
theorem hd_le (t:ByteArray) (q r:Nat) (h:r<=8):hd t q r<256:=by
 have h1:=hd_lt t q r;have h2:=Nat.pow_le_pow_right (n:=2) (by decide) h;omega
def openV (t:ByteArray) (m:Nat):ByteArray:=strF m (fun i=>bitB (bt t (i/8)) (7-i%8))
def openR (t:ByteArray) (m:Int):ByteArray:=if 8000<t.size∨m<0∨8*(t.size:Int)<m then ⟨#[]⟩ else openV t m.toNat
theorem openR_no (t:ByteArray) (m:Int) (h:8000<t.size∨m<0∨8*(t.size:Int)<m):openR t m=⟨#[]⟩:=if_pos h
theorem openR_yes (t:ByteArray) (m:Nat) (h:¬8000<t.size) (h2:m<=8*t.size):openR t m=openV t m:=by
 unfold openR;rw[if_neg (by omega)];rfl
def opK (t:ByteArray) (k i:Nat):Nat:=if i<k then bitB (bt t (i/8)) (7-i%8) else 0
theorem opK_zero (t:ByteArray) (j:Nat):opK t 0 j=0:=by simp[opK]
theorem opK_next (t:ByteArray) (k j:Nat) (v:Int) (hv:v=(bitB (bt t (k/8)) (7-k%8):Nat)):upd (fun j=>((opK t k j:Nat):Int)) k v j=(opK t (k+1) j:Nat):=by
 subst hv;unfold upd opK;by_cases e:j=k
 ·subst e;simp
 ·have:(j<k+1)=(j<k):=propext ⟨fun h=>by omega,fun h=>by omega⟩
  simp only[e,this,if_false]
theorem opK_all (t:ByteArray) (m:Nat):strF m (fun j=>opK t m j)=openV t m:=strF_congr _ _ _ fun j hj=>by simp[opK,hj]
theorem opK_lt (t:ByteArray) (k j:Nat):opK t k j<256:=by
 unfold opK
 have:=bitB_lt (bt t (j/8)) (7-j%8)
 split<;>omega
end Bi
namespace Cr
theorem ret_int {k:IntKind} {a b:Int} (h:a=b):Ending.returned (.int k a)=.returned (.int k b):=by rw[h]
theorem byte_any (r c:Nat) (w:World) (hr:r<4294967296) (hc:c<256) :
  Calls prog 180 #[.int .u32 r,.int .u8 c] w fun e w'=>e=.returned (.int .u32 (crc8 r c:Nat))/\w'=w:=by
 go_enter func180,ntmps180
 go_wp2
 go_loop [0,5,6,7] (fun a _ _ i=>∃ k x:Nat,k<=8/\i=.int .i64 k/\x<4294967296/\a=.int .u32 x/\x ^^^ c/2 ^ k=stepN k (r ^^^ c)) (fun _ _ _ i=>8-(intOf i).toNat)
 case atStart=>exact⟨0,r,by omega,rfl,hr,rfl,by simp[stepN]⟩
 case round =>
  obtain⟨k,x,hk,rfl,hx,rfl,hinv⟩:=hrel;have HI:Hid (x ^^^ c/2 ^ k=stepN k (r ^^^ c)):=hinv;clear hinv;by_cases hlt:k<8
  ·have ht:=turned_eq x c k hx hc
   by_cases hb:(x ^^^ c/2 ^ k)%2=1
   ·have hB:(bits BinOp.and IntKind.u32 (bits BinOp.xor IntKind.u32 (x:Int) ((c:Int)/2 ^ k%4294967296)) 1==1)=true:=by rw[ht,hb];rfl
    have HS:Hid (implS x c k=(x/2) ^^^ 3988292384):=by unfold Hid implS;rw[if_pos hb]
    clear ht hb
    go_wp2
    go_round
    case rel=>exact⟨k+1,implS x c k,by omega,by go_num,implS_lt c k hx,by rw[HS.o,half_xor x hx],by rw[inv_step,HI.o];rfl⟩
    case measure=>simp[intOf];omega
   ·have hB:(bits BinOp.and IntKind.u32 (bits BinOp.xor IntKind.u32 (x:Int) ((c:Int)/2 ^ k%4294967296)) 1==1)=false:=by rw[ht];simp;omega
    have HS:Hid (implS x c k=x/2):=by unfold Hid implS;rw[if_neg hb]
    clear ht hb
    go_wp2
    go_round
    case rel=>exact⟨k+1,implS x c k,by omega,by go_num,implS_lt c k hx,by rw[HS.o];go_num,by rw[inv_step,HI.o];rfl⟩
    case measure=>simp[intOf];omega
  ·have HX:Hid (x=crc8 r c):=by
    have h:=HI.o;have e8:k=8:=(by omega);rw[e8,Nat.div_eq_of_lt (by omega),Nat.xor_zero]at h;exact h
   go_wp2
   go_ret;exact⟨ret_int (by rw[HX.o]),rfl⟩
theorem more_any (n:Nat) (s:ByteArray) (w:World) (hs:s.size<=8000) (hn:n<4294967296) :
  Calls prog 149 #[.int .i64 n,.string s] w fun e w'=>e=.returned (.int .i64 (fin (crcL (fin n) s.data.toList):Nat))/\w'=w:=by
 have hn1:¬(4294967295:Int)<n:=by omega
 have HN:Hid (bits BinOp.xor IntKind.u32 IntKind.u32.max (n:Int)=((fin n:Nat):Int)):=not_eq' n hn;have HF:Hid (fin n<4294967296):=fin_lt hn;go_enter func149,ntmps149
 go_wp2
 go_loop [5,6,23] (fun a _ i=>∃ k x:Nat,k<=s.size/\i=.int .i64 k/\x<4294967296/\a=.int .u32 x/\x=crcL (fin n) (s.data.toList.take k)) (fun _ _ i=>s.size-(intOf i).toNat)
 case atStart=>exact⟨0,fin n,Nat.zero_le _,rfl,HF.o,by rw[HN.o],rfl⟩
 case round =>
  obtain⟨k,x,hk,rfl,hx,rfl,hinv⟩:=hrel;have HI:Hid (x=crcL (fin n) (s.data.toList.take k)):=hinv;clear hinv;by_cases hlt:k<s.size
  ·have hb:s[k].toNat<256:=s[k].toNat_lt
   have HT:Hid (crc8 x s[k].toNat=crcL (fin n) (s.data.toList.take (k+1))):=by
    unfold Hid;rw[crcL_take _ _ _ hlt,<-HI.o]
   have HL:Hid (crc8 x s[k].toNat<4294967296):=crc8_lt hx hb
   go_wp2_with (go_at_call 180;refine(byte_any _ _ _ hx hb).mono ?_;rintro e w' ⟨rfl,rfl⟩)
   go_round
   case rel=>exact⟨k+1,crc8 x s[k].toNat,by omega,by go_num,HL.o,rfl,HT.o⟩
   case measure=>simp[intOf];omega
  ·have HX:Hid (x=crcL (fin n) s.data.toList):=by
    have h:=HI.o;rw[List.take_of_length_le (by simp;omega)]at h;exact h
   have HE:Hid (bits BinOp.xor IntKind.u32 IntKind.u32.max (x:Int)=((fin x:Nat):Int)):=not_eq' x hx;have HG:Hid (fin x<4294967296):=fin_lt hx
   go_wp2
   go_ret;have e1:=HE.o;have e2:=HX.o;have e3:=HG.o;rw[e2]at e3;exact⟨ret_int (by rw[e1,e2];simp[wrap64];omega),rfl⟩
theorem crc_spec (n:Nat) (s:ByteArray) (w:World) (hs:s.size<=8000) (hn:n<4294967296) :
  Calls prog 104 #[.int .i64 n,.string s] w fun e w'=>e=.returned (.int .i64 (fin (crcL (fin n) s.data.toList):Nat))/\w'=w:=by
 have HN:Hid (bits BinOp.xor IntKind.u32 (n:Int) 4294967295=((fin n:Nat):Int)):=not_eq n hn;have HF:Hid (fin n<4294967296):=fin_lt hn;go_enter func104,ntmps104
 go_wp2
 go_loop [5,6,7] (fun a i _=>∃ k x:Nat,k<=s.size/\i=.int .i64 k/\x<4294967296/\a=.int .u32 x/\x=crcL (fin n) (s.data.toList.take k)) (fun _ i _=>s.size-(intOf i).toNat)
 case atStart=>exact⟨0,fin n,Nat.zero_le _,rfl,HF.o,by rw[HN.o],rfl⟩
 case round =>
  obtain⟨k,x,hk,rfl,hx,rfl,hinv⟩:=hrel;have HI:Hid (x=crcL (fin n) (s.data.toList.take k)):=hinv;clear hinv;by_cases hlt:k<s.size
  ·have hb:s[k].toNat<256:=s[k].toNat_lt
   have HT:Hid (crc8 x s[k].toNat=crcL (fin n) (s.data.toList.take (k+1))):=by
    unfold Hid;rw[crcL_take _ _ _ hlt,<-HI.o]
   have HL:Hid (crc8 x s[k].toNat<4294967296):=crc8_lt hx hb;have HXL:Hid (x ^^^ s[k].toNat<4294967296):=xor_lt hx (by omega);have HXE:Hid (bits BinOp.xor IntKind.u32 (x:Int) (s[k].toNat:Int)=((x ^^^ s[k].toNat:Nat):Int)):=u32_xor_nat _ _ hx (by omega)
   go_wp2
   go_loop [5,7] (fun a i=>∃ j y:Nat,j<=8/\i=.int .i64 j/\y<4294967296/\a=.int .u32 y/\y=stepN j (x ^^^ s[k].toNat)) (fun _ i=>8-(intOf i).toNat)
   case atStart=>exact⟨0,x ^^^ s[k].toNat,Nat.zero_le _,rfl,HXL.o,by rw[HXE.o],rfl⟩
   case round =>
    obtain⟨j,y,hj,rfl,hy,rfl,hinv⟩:=hrel;have HJ:Hid (y=stepN j (x ^^^ s[k].toNat)):=hinv;clear hinv;by_cases hjl:j<8
    ·have ht:=low_eq y hy
     by_cases hb:y%2=1
     ·have hB:(bits BinOp.and IntKind.u32 (y:Int) 1==1)=true:=by rw[ht,hb];rfl
      have HS:Hid (step y=(y/2) ^^^ 3988292384):=by unfold Hid step;rw[if_pos hb]
      clear ht hb
      go_wp2
      go_round
      case rel=>exact⟨j+1,step y,by omega,by go_num,step_lt hy,by rw[HS.o,half_xor y hy],by rw[HJ.o];rfl⟩
      case measure=>simp[intOf];omega
     ·have hB:(bits BinOp.and IntKind.u32 (y:Int) 1==1)=false:=by rw[ht];simp;omega
      have HS:Hid (step y=y/2):=by unfold Hid step;rw[if_neg hb]
      clear ht hb
      go_wp2
      go_round
      case rel=>exact⟨j+1,step y,by omega,by go_num,step_lt hy,by rw[HS.o];go_num,by rw[HJ.o];rfl⟩
      case measure=>simp[intOf];omega
    ·have HY:Hid (y=crcL (fin n) (s.data.toList.take (k+1))):=by
      have h:=HJ.o;have e8:j=8:=(by omega);rw[e8]at h;exact h.trans HT.o
     go_wp2
     go_round
     case rel=>exact⟨k+1,y,by omega,by go_num,hy,rfl,HY.o⟩
     case measure=>simp[intOf];omega
  ·have HX:Hid (x=crcL (fin n) s.data.toList):=by
    have h:=HI.o;rw[List.take_of_length_le (by simp;omega)]at h;exact h
   have HE:Hid (bits BinOp.xor IntKind.u32 (x:Int) 4294967295=((fin x:Nat):Int)):=not_eq x hx;have HG:Hid (fin x<4294967296):=fin_lt hx
   go_wp2
   go_ret;have e1:=HE.o;have e2:=HX.o;have e3:=HG.o;rw[e2]at e3;exact⟨ret_int (by rw[e1,e2];simp[wrap64];omega),rfl⟩
def moreV (c:Int) (s:ByteArray):Int:=if s.size<=8000/\0<=c/\c<=4294967295 then (fin (crcL (fin c.toNat) s.data.toList):Nat) else 0
theorem moreV_yes (n:Nat) (s:ByteArray) (hs:s.size<=8000) (hn:n<4294967296):moreV n s=(fin (crcL (fin n) s.data.toList):Nat):=by
 unfold moreV;rw[if_pos ⟨hs,by omega,by omega⟩,Int.toNat_natCast]
theorem moreV_no (c:Int) (s:ByteArray) (h:¬(s.size<=8000/\0<=c/\c<=4294967295)):moreV c s=0:=by
 unfold moreV;rw[if_neg h]
theorem more_impl (c:Int) (s:ByteArray) (w:World) (hs:s.size<=maxLen) :
  Calls prog 149 #[.int .i64 c,.string s] w fun e w'=>e=.returned (.int .i64 (moreV c s))/\w'=w:=by
 unfold maxLen at hs;by_cases h1:8000<s.size
 ·go_enter func149,ntmps149
  go_wp2
  go_ret;exact⟨ret_int (moreV_no c s (by omega)).symm,rfl⟩
 ·by_cases h2:c<0
  ·go_enter func149,ntmps149
   go_wp2
   go_ret;exact⟨ret_int (moreV_no c s (by omega)).symm,rfl⟩
  ·by_cases h3:4294967295<c
   ·go_enter func149,ntmps149
    go_wp2
    go_ret;exact⟨ret_int (moreV_no c s (by omega)).symm,rfl⟩
   ·obtain⟨n,rfl⟩:=Int.eq_ofNat_of_zero_le (show 0<=c from by omega)
    rw[moreV_yes n s (by omega) (by omega)];exact more_any n s w (by omega) (by omega)
theorem crc_impl0 (s:ByteArray) (w:World) (hs:s.size<=maxLen) :
  Calls prog 112 #[.string s] w fun e w'=>e=.returned (.int .i64 (moreV 0 s))/\w'=w:=by
 go_enter func112,ntmps112
 go_wp2_with fail
 refine(more_impl 0 s _ hs).mono ?_;rintro e w' ⟨rfl,rfl⟩
 go_wp2
 go_ret;exact⟨rfl,rfl⟩
end Cr
namespace Bi
open Sh
open Nu (ret_strJ bv own_string app_below)
theorem byte_at (t:ByteArray) (j:Nat) (h:j<t.size):∃ y:UInt8,t[j]=y/\y.toNat=bt t j:=⟨t[j],rfl,bt_get t j h⟩
theorem all_more (t:ByteArray) (k:Nat) (h:∀ j,j<k->bt t j=48∨bt t j=49) (hk:bt t k=48∨bt t k=49):∀ j,j<k+1->bt t j=48∨bt t j=49:=by
 intro j hj;by_cases e:j=k
 ·rw[e];exact hk
 ·exact h j (by omega)
theorem good_impl (t:ByteArray) (w:World) (ht:t.size<=1048576) :
  Calls prog 131 #[.string t] w fun e w'=>e=.returned (.bool (good t))/\w'=w:=by
 go_enter func131,ntmps131
 go_wp2_with fail
 go_loopw [6] (fun i wr=>∃ k:Nat,i=.int .i64 k/\k<=t.size/\(∀ j,j<k->bt t j=48∨bt t j=49)/\wr=w) (fun i _=>t.size-(intOf i).toNat)
 case atStart=>exact⟨0,rfl,Nat.zero_le _,fun j hj=>absurd hj (Nat.not_lt_zero j),rfl⟩
 case round =>
  obtain⟨k,rfl,hk,hall,hw⟩:=hrel;subst hw;have HA:=hideB hall;clear hall;by_cases hlt:k<t.size
  ·obtain⟨y,b0,hy⟩:=byte_at t k hlt
   have HY:=hideB hy;by_cases e8:(y.toNat:Int)=48
   ·have n8:((y.toNat:Int) != 48)=false:=by rw[e8];rfl
    have HM:Hid (∀ j,j<k+1->bt t j=48∨bt t j=49):=all_more t k HA.o (by rw[<-HY.o];omega);clear hy e8;(go_wp2_with fail)
    go_roundw
    case rel=>exact⟨k+1,by go_num,by omega,HM.o,trivial⟩
    case measure=>simp[intOf];omega
   ·have n8:((y.toNat:Int) != 48)=true:=by rw[bne_iff_ne];exact e8
    by_cases e9:(y.toNat:Int)=49
    ·have n9:((y.toNat:Int) != 49)=false:=by rw[e9];rfl
     have HM:Hid (∀ j,j<k+1->bt t j=48∨bt t j=49):=all_more t k HA.o (by rw[<-HY.o];omega);clear hy e8 e9;(go_wp2_with fail)
     go_roundw
     case rel=>exact⟨k+1,by go_num,by omega,HM.o,trivial⟩
     case measure=>simp[intOf];omega
    ·have n9:((y.toNat:Int) != 49)=true:=by rw[bne_iff_ne];exact e9
     have HN:=hideB (good_not hlt (by rw[<-HY.o];omega) (by rw[<-HY.o];omega));clear hy e8 e9;(go_wp2_with fail);go_ret;exact⟨ret_boolB HN.o.symm,rfl⟩
  ·have HG:=hideB (good_of (t:=t) (fun j hj=>HA.o j (by omega)))
   go_wp2_with fail
   go_ret;exact⟨ret_boolB HG.o.symm,rfl⟩
theorem good_spec (t:ByteArray) (w:World) (ht:t.size<=1048576) :
  Calls prog 142 #[.string t] w fun e w'=>e=.returned (.bool (good t))/\w'=w:=by
 go_enter func142,ntmps142
 go_wp2_with fail
 go_loopw [3] (fun i wr=>∃ k:Nat,i=.int .i64 k/\k<=t.size/\(∀ j,j<k->bt t j=48∨bt t j=49)/\wr=w) (fun i _=>t.size-(intOf i).toNat)
 case atStart=>exact⟨0,rfl,Nat.zero_le _,fun j hj=>absurd hj (Nat.not_lt_zero j),rfl⟩
 case round =>
  obtain⟨k,rfl,hk,hall,hw⟩:=hrel;subst hw;have HA:=hideB hall;clear hall;by_cases hlt:k<t.size
  ·obtain⟨y,b0,hy⟩:=byte_at t k hlt
   have HY:=hideB hy;by_cases e8:(y.toNat:Int)=48
   ·have n8:((y.toNat:Int) != 48)=false:=by rw[e8];rfl
    have HM:Hid (∀ j,j<k+1->bt t j=48∨bt t j=49):=all_more t k HA.o (by rw[<-HY.o];omega);clear hy e8;(go_wp2_with fail)
    go_roundw
    case rel=>exact⟨k+1,by go_num,by omega,HM.o,trivial⟩
    case measure=>simp[intOf];omega
   ·have n8:((y.toNat:Int) != 48)=true:=by rw[bne_iff_ne];exact e8
    by_cases e9:(y.toNat:Int)=49
    ·have n9:((y.toNat:Int) != 49)=false:=by rw[e9];rfl
     have HM:Hid (∀ j,j<k+1->bt t j=48∨bt t j=49):=all_more t k HA.o (by rw[<-HY.o];omega);clear hy e8 e9;(go_wp2_with fail)
     go_roundw
     case rel=>exact⟨k+1,by go_num,by omega,HM.o,trivial⟩
     case measure=>simp[intOf];omega
    ·have n9:((y.toNat:Int) != 49)=true:=by rw[bne_iff_ne];exact e9
     have HN:=hideB (good_not hlt (by rw[<-HY.o];omega) (by rw[<-HY.o];omega));clear hy e8 e9;(go_wp2_with fail);go_ret;exact⟨ret_boolB HN.o.symm,rfl⟩
  ·have HG:=hideB (good_of (t:=t) (fun j hj=>HA.o j (by omega)))
   go_wp2_with fail
   go_ret;exact⟨ret_boolB HG.o.symm,rfl⟩
theorem pack_yes (t:ByteArray) (w:World) (ht:¬8000<t.size) (hg:good t=true) :
  Calls prog 92 #[.string t] w fun e w'=>e=.returned (.string (packV t))/\Below w.heap.size w w':=by
 obtain⟨i0,hi,hz0,hz1,hz2⟩:=info_parts Nu.Tryz.infoJ5;obtain⟨m,hm⟩:∃ m,m=(t.size+7)/8:=⟨_,rfl⟩
 have hmi:((t.size:Int)+8-1)/8=(m:Int):=by omega
 have HMM:=hideB hm;have HMI:=hideB hmi;have hd8:decide (8000<(t.size:Int))=false:=decide_eq_false (by omega);clear hmi;have HG:=hideB (good_impl t w (by omega));rw[hg]at HG;have HA:=hideB (good_yes hg);clear hm hg
 have hm2:m<=1001:=by have:=HMM.o;omega
 go_enter func92,ntmps92
 go_wp2_with fail
 refine HG.o.mono ?_;rintro e w' ⟨rfl,hw⟩;subst w'
 go_wp2_with (at_make;refine wpList_make_full _ rfl (.tmp 17) (.tmp 17) 22 rfl w.heap.size 5 i0 (.int .u8 0) 1 underlying22 hi hz0 hz1 .i64 .i64 _ _ m rfl rfl HMI.o HMI.o (by rw[hz2];omega) (by unfold maxLen;omega) nl ?_;intro w1 hown1 hgrow1;have HR:=hideB (made_row hown1);have HB:=hideB ((Below.refl w.heap.size w).grown hgrow1 nl (by simp));clear hown1 hgrow1)
 go_loopw [21] (fun i wr=>∃ k:Nat,i=.int .i64 k/\k<=t.size/\IsB wr w.heap.size 5 .u8 m (fun j=>(pkK t k j:Nat))/\Below w.heap.size w wr) (fun i _=>t.size-(intOf i).toNat)
 case atStart=>exact⟨0,rfl,by omega,IsB.congr HR.o (fun j hj=>by rw[pkK_zero];rfl),HB.o⟩
 case round =>
  obtain⟨k,rfl,hk,hr,hbel⟩:=hrel;have HR2:=hideB hr;by_cases hlt:k<t.size
  ·obtain⟨y,b0,hy⟩:=byte_at t k hlt
   have h01:=HA.o k hlt;rw[<-hy]at h01;have HY:=hideB hy;clear hy;by_cases e9:(y.toNat:Int)=49
   ·have n9:((y.toNat:Int)==49)=true:=by rw[e9];rfl
    have HO:Hid (one t k=1):=by
     unfold Hid one;rw[if_pos ⟨hlt,by rw[<-HY.o];omega⟩]
    obtain⟨q,hq⟩:∃ q:Nat,q=k/8:=⟨_,rfl⟩;obtain⟨r,hrr⟩:∃ r:Nat,r=k%8:=⟨_,rfl⟩;have hqi:(k:Int)/8=q:=(by omega);have hri:(k:Int)%8=r:=(by omega);have hqm:q<m:=(by have:=HMM.o;omega);have hr8:r<8:=(by omega);have ce:=hr.cell (j:=q) hqm;have cf:=hr.frozen q;obtain⟨s,hs⟩:∃ s:Nat,s=7-r:=⟨_,rfl⟩;have hsi:(7:Int)-r=s:=(by omega)
    have HV:Hid (bits BinOp.or IntKind.u8 ((pkK t k q:Nat):Int) ((2:Int) ^ s)=((pk t (k/8) (k%8)+2 ^ (7-k%8):Nat):Int)):=by
     unfold Hid;rw[hq,pkK_here,<-hrr,<-hs]
     have:=pk_or t (k/8) r hr8
     rw[<-hs]at this;rw[<-this];simp
    have hpw:(2:Int) ^ s<256:=by
     have:=Nat.pow_le_pow_right (n:=2) (by decide) (show s<=7 by omega)
     have hcast:((2 ^ s:Nat):Int)=(2:Int) ^ s:=by simp
     omega
    have hpw0:(0:Int)<(2:Int) ^ s:=by
     have:=Nat.pow_pos (n:=s) (a:=2) (by decide)
     have hcast:((2 ^ s:Nat):Int)=(2:Int) ^ s:=by simp
     omega
    have HQ:=hideB hq;clear hr e9 h01 hq hrr hs;generalize pkK t k q=pv at ce HV;(go_wp2_with fail)
    go_region
    all_goals (try go_wp2_with fail)
    all_goals go_roundw
    case rel=>exact⟨k+1,by go_num,by omega,IsB.congr (HR2.o.set q _) (fun j hj=>by rw[HQ.o];exact pkK_set t k j _ HO.o HV.o),Below.drew (hbel.setCell nl _)⟩
    case measure=>simp[intOf];omega
   ·have n9:((y.toNat:Int)==49)=false:=by rw[beq_eq_false_iff_ne];exact e9
    have HO:Hid (one t k=0):=by
     unfold Hid one;rw[if_neg (by rw[<-HY.o];omega)]
    clear hr e9 h01;(go_wp2_with fail)
    go_roundw
    case rel=>exact⟨k+1,by go_num,by omega,IsB.congr HR2.o (fun j hj=>pkK_skip t k j HO.o),hbel⟩
    case measure=>simp[intOf];omega
  ·obtain rfl:k=t.size:=by omega
   have hcv:=hr.str (P:=prog) (src:=22) (dst:=9) m m nl (fun j _=>pkK_lt t t.size j) underlying22 underlying5 underlying9;rw[HMM.o,pack_all,<-HMM.o]at hcv;clear hr
   go_wp2_with fail
   go_ret;exact⟨rfl,hbel⟩
theorem pack_impl (t:ByteArray) (w:World) (ht:t.size<=1048576) :
  Calls prog 92 #[.string t] w fun e w'=>e=.returned (.string (packR t))/\Below w.heap.size w w':=by
 by_cases h:8000<t.size
 ·have HE:=hideB (packR_no t (Or.inl h))
  go_enter func92,ntmps92
  go_wp2_with fail
  go_ret;exact⟨ret_strJ HE.o.symm,Below.refl _ _⟩
 ·cases hg:good t with
  |false =>
   have HE:=hideB (packR_no t (Or.inr hg));have HG:=hideB (good_impl t w (by omega));rw[hg]at HG;go_enter func92,ntmps92
   go_wp2_with fail
   refine HG.o.mono ?_;rintro e w' ⟨rfl,hw⟩;subst w'
   go_wp2_with fail
   go_ret;exact⟨ret_strJ HE.o.symm,Below.refl _ _⟩
  |true =>
   rw[packR_yes t h hg];exact pack_yes t w h hg
end Bi
namespace Sh
theorem made_zerosK (k:IntKind) (n:Nat):(madeCells (Value.int k 0).cells (n*1)).toList=(rowF k n (fun _=>0)).toList:=by
 apply List.ext_getElem?
 intro i;by_cases hi:i<n
 ·simp[madeCells,rowF,hi,Value.cells,Nat.mod_one]
 ·simp[madeCells,rowF,hi,Value.cells]
theorem made_rowK {k:IntKind} {w:World} {base e g n:Nat} (h:w.ownsRow base e 1 (.slice (some ⟨g,0,none⟩) n n) n (madeCells (Value.int k 0).cells (n*1)).toList):IsB w g e k n (fun _=>0):=by
 obtain⟨_,h⟩:=h
 rcases h with⟨h,_⟩|⟨g',cap,cur,hv,_,hb,_,_,hsz,htk⟩
 ·simp at h
 ·simp at hv
  obtain⟨rfl,rfl⟩:=hv;rw[made_zerosK,List.take_of_length_le (by simp[hsz])]at htk
  have:cur=rowF k n (fun _=>0):=by simpa using htk
  rw[this]at hb;exact hb
theorem own_cells {w:World} {base e n:Nat} {v:Value} {k:IntKind} {f:Nat->Int} (hn:0<n) (h:w.ownsRow base e 1 v n (rowF k n f).toList) :
  ∃ g c,v=.slice (some ⟨g,0,none⟩) n c/\base<=g/\g<w.heap.size/\∀ j,j<n->w.cell? ⟨g,j,none⟩=some (.int k (f j)):=by
 obtain⟨_,h⟩:=h
 rcases h with⟨_,h⟩|⟨g,cap,cur,hv,hg,hb,hnc,_,hsz,htk⟩
 ·omega
 ·refine⟨g,cap,hv,hg,(Array.getElem?_eq_some_iff.1 hb).1,fun j hj=>?_⟩
  rw[cell_of_row w g j cur e (0,0) hb]
  have h1:cur.toList[j]? = (cur.toList.take (n*1))[j]?:=by rw[List.getElem?_take_of_lt (by omega)]
  rw[<-Array.getElem?_toList,h1,htk,Array.getElem?_toList];exact rowF_get k n f j hj
theorem rowF_snoc (k:IntKind) (n:Nat) (f:Nat->Int):(rowF k n f).toList++[.int k (f n)]=(rowF k (n+1) f).toList:=by
 simp[rowF,List.range_succ]
theorem byte_at (t:ByteArray) (j:Nat) (h:j<t.size):∃ y:UInt8,t[j]=y/\y.toNat=bt t j:=⟨t[j],rfl,bt_get t j h⟩
theorem word_spec (B:Nat->Nat) (k:Nat) (y0 y1 y2 y3:Nat) (h0:y0=B (4*k)) (h1:y1=B (4*k+1)) (h2:y2=B (4*k+2)) (h3:y3=B (4*k+3)) (hB:∀ j,B j<256) :
  bits BinOp.or IntKind.u32 (bits BinOp.or IntKind.u32 (bits BinOp.or IntKind.u32 ((y0:Int)*16777216) ((y1:Int)*65536))
   ((y2:Int)*256)) (y3:Int)=((word B k:Nat):Int):=by
 have b0:=hB (4*k);have b1:=hB (4*k+1);have b2:=hB (4*k+2);have b3:=hB (4*k+3);rw[<-h0]at b0;rw[<-h1]at b1;rw[<-h2]at b2;rw[<-h3]at b3;rw[show (y0:Int)*16777216=((y0*16777216:Nat):Int) by simp,show (y1:Int)*65536=((y1*65536:Nat):Int) by simp,show (y2:Int)*256=((y2*256:Nat):Int) by simp]
 rw[u32_or_nat _ _ (by omega) (by omega),nat_join 24 (y0*16777216) (y1*65536) (by omega) (by omega),
  u32_or_nat _ _ (by omega) (by omega),nat_join 16 (y0*16777216+y1*65536) (y2*256) (by omega) (by omega),
  u32_or_nat _ _ (by omega) (by omega),nat_join 8 (y0*16777216+y1*65536+y2*256) y3 (by omega) (by omega)]
 simp only[word,part,Nat.add_zero,<-h0,<-h1,<-h2,<-h3];omega
theorem keys_any (w:World):Calls prog 151 #[] w fun e w'=>e=.returned (.slice (some ⟨w.heap.size,0,none⟩) 64 64)/\w'=w.alloc (.cells (rowF .u32 64 keyF) 144):=by
 go_enter func151,ntmps151
 go_wp2
 go_ret;exact⟨rfl,rfl⟩
theorem start_any (w:World):Calls prog 113 #[] w fun e w'=>e=.returned (.slice (some ⟨w.heap.size,0,none⟩) 8 8)/\w'=w.alloc (.cells (rowF .i64 8 firstF) 2):=by
 go_enter func113,ntmps113
 go_wp2
 go_ret;exact⟨rfl,rfl⟩
theorem step_append_own {P:Program} {ops:Array Oper} {o:Oper} {a:Act} {w:World} {K:Act->World->Prop} {Q:Exit->Act->World->Prop} {E:Prop}
  (hg:o.guard=none) (s x:Operand) (t:TypeId) (ho:o.op=.call { callee:=.builtin .append,args:=#[s,x],argTypes:=#[t,t] })
  (base:Nat) (e:TypeId) (i:TypeInfo) (z:Value) (size bytes:Nat) (ht:P.underlying t=some (.slice e)) (hi:P.info? e=some i) (hz:i.zero=some z)
  (hsize:i.size=size) (hby:i.bytes=bytes) (hzs:z.cells.size=size) (hsz:0<size)
  (v:Value) (n:Nat) (xs:List Value) (hs:a.eval s=v) (hown:w.ownsRow base e size v n xs)
  (ad:Addr) (m c:Nat) (news:List Value) (hx:a.eval x=.slice (some ad) m c) (hl:news.length=m*size) (hnews:∀ j u,news[j]? = some u->w.cell? (ad.add j)=some u) (h1:∀ u∈news,u.oneCell'=true)
  (h63:n+m<=maxLen) (hbytes:(n+m)*bytes<=140737488355328) (hbase:base<=w.heap.size)
  (h:∀ v' w',w'.ownsRow base e size v' (n+m) (xs++news)->w.grownBy w' v.ownBlock->K (a.put o.dst v') w') :
  if Region.wanted o (yielded ops a.tmps)=true then Oper.wp P o a w K Q else E:=by
 have hw:Region.wanted o (yielded ops a.tmps)=true:=by simp[Region.wanted,hg]
 rw[if_pos hw];exact wp_append_own w s x t ho base e i z size bytes ht hi hz hsize hby hzs hsz v n xs hs hown ad m c news hx hl hnews h1 h63 hbytes hbase fun v' w' h2 h3 _=>h v' w' h2 h3
theorem one_new (W:World) (x:Value) (t:TypeId):∀ (j:Nat) (u:Value),[x][j]? = some u->(W.alloc (.cells #[x] t)).cell? ((⟨W.heap.size,0,none⟩:Addr).add j)=some u:=by
 intro j u hj
 match j,hj with
 |0,hj=>simp at hj;subst hj;simp[Addr.add]
theorem one_cell (k:IntKind) (x:Int):∀ u∈[Value.int k x],u.oneCell'=true:=by
 intro u hu;simp at hu;subst hu;rfl
theorem own_empty (W:World) (base t:Nat) (h:base<=W.heap.size):(W.alloc (.cells #[] t)).ownsRow base t 1 (.slice (some ⟨W.heap.size,0,none⟩) 0 0) 0 [] :=
 ⟨rfl,Or.inr ⟨W.heap.size,0,#[],rfl,h,heap_alloc_last W _,nl,by decide,rfl,rfl⟩⟩
theorem app_low {B:Nat} {e:TypeId} {w wr w1:World} {v:Value} {n size:Nat} {xs:List Value} {o:Obj} (hbel:Below B w wr) (hB:B<=wr.heap.size)
  (hown:wr.ownsRow B e size v n xs) (hgrow:(wr.drew.alloc o).grownBy w1 v.ownBlock):Below B w w1:=by
 refine(hbel.drew.alloc hB o).grown hgrow (by simp;omega) ?_;intro k hk;exact(hown.lt k hk).1
def OwnB (w:World) (base:Nat) (v:Value) (n:Nat) (f:Nat->Nat):Prop :=
 ∃ g cap,v=.slice (some ⟨g,0,none⟩) n cap/\base<=g/\g<w.heap.size/\n<=cap/\cap<=maxLen/\(∀ j,j<n->w.cell? ⟨g,j,none⟩=some (.int .u8 (f j:Nat))) /\
  ∀ j,n<=j->j<cap->(w.cell? ⟨g,j,none⟩).isSome=true/\w.frozen? ⟨g,j,none⟩=false
theorem OwnB.congr {w:World} {base:Nat} {v:Value} {n:Nat} {f f':Nat->Nat} (h:OwnB w base v n f) (e:∀ j,j<n->f j=f' j):OwnB w base v n f':=by
 obtain⟨g,cap,h1,h2,h3,h4,h5,h6,h7⟩:=h;exact⟨g,cap,h1,h2,h3,h4,h5,fun j hj=>by rw[h6 j hj,e j hj],h7⟩
theorem OwnB.alloc {w:World} {base:Nat} {v:Value} {n:Nat} {f:Nat->Nat} (h:OwnB w base v n f) (o:Obj):OwnB (w.alloc o) base v n f:=by
 obtain⟨g,cap,h1,h2,h3,h4,h5,h6,h7⟩:=h;refine⟨g,cap,h1,h2,by simp;omega,h4,h5,fun j hj=>?_,fun j hj1 hj2=>?_⟩
 ·rw[World.cell?_alloc_past o g j h3];exact h6 j hj
 ·rw[World.cell?_alloc_past o g j h3,World.frozen?_alloc_past o g j h3];exact h7 j hj1 hj2
theorem OwnB.below {w w':World} {base B:Nat} {v:Value} {n:Nat} {f:Nat->Nat} (h:OwnB w base v n f) (b:Below B w w') (hB:w.heap.size<=B):OwnB w' base v n f:=by
 obtain⟨g,cap,h1,h2,h3,h4,h5,h6,h7⟩:=h;refine⟨g,cap,h1,h2,Nat.lt_of_lt_of_le h3 b.size,h4,h5,fun j hj=>?_,fun j hj1 hj2=>?_⟩
 ·rw[b.cell (p:=⟨g,j,none⟩) (show g<B by omega)];exact h6 j hj
 ·rw[b.cell (p:=⟨g,j,none⟩) (show g<B by omega),b.frozen (p:=⟨g,j,none⟩) (show g<B by omega)];exact h7 j hj1 hj2
theorem OwnB.slice {w:World} {base:Nat} {v:Value} {n:Nat} {f:Nat->Nat} (h:OwnB w base v n f):∃ g cap,v=.slice (some ⟨g,0,none⟩) n cap/\n<=cap:=by
 obtain⟨g,cap,h1,_,_,h4,_⟩:=h;exact⟨g,cap,h1,h4⟩
theorem own_of_string (w:World) (base:Nat) (s:ByteArray) (e:TypeId) (hs:s.size<=maxLen) (hb:base<=w.heap.size) :
  OwnB (w.drew.alloc (.cells (bytesRow s (grownCap w s.size 0 e)) e ((bytesRow s (grownCap w s.size 0 e)).size,(bytesRow s (grownCap w s.size 0 e)).size+1))) base
   (.slice (some ⟨w.heap.size,0,none⟩) s.size (grownCap w s.size 0 e)) s.size (bt s):=by
 have hge:=grownCap_ge w s.size 0 e;have hcm:=grownCap_le_maxLen w s.size 0 e hs;generalize grownCap w s.size 0 e=cap at hge hcm
 have hsz:(bytesRow s cap).size=cap:=by
  have:s.data.size=s.size:=rfl
  simp[bytesRow];omega
 have hc:∀ j,(w.drew.alloc (.cells (bytesRow s cap) e ((bytesRow s cap).size,(bytesRow s cap).size+1))).cell? ⟨w.heap.size,j,none⟩=(bytesRow s cap)[j]?:=fun j =>
  cell_of_row _ w.heap.size j _ e _ (heap_alloc_last w.drew _)
 refine⟨w.heap.size,cap,rfl,hb,by simp,hge,hcm,fun j hj=>?_,fun j hj1 hj2=>?_⟩
 ·rw[hc,bytesRow_at s cap j (show j<s.data.size from hj)]
  have:=bt_get s j hj
  simp only[<-this];rfl
 ·rw[hc]
  refine⟨by rw[Array.getElem?_eq_getElem (by omega)];rfl,?_⟩;unfold World.frozen?;rw[show (w.drew.alloc (.cells (bytesRow s cap) e ((bytesRow s cap).size,(bytesRow s cap).size+1))).heap[(⟨w.heap.size,j,none⟩:Addr).block]? = some (.cells (bytesRow s cap) e ((bytesRow s cap).size,(bytesRow s cap).size+1)) from heap_alloc_last w.drew _];simp[hsz];omega
theorem run_append_b {P:Program} (w:World) (base:Nat) (t ty e:TypeId) (i:TypeInfo) (ht:P.underlying t=some (.slice e)) (hi:P.info? e=some i) (hz:i.zero=some (.int .u8 0))
  (hsize:i.size=1) (hby:i.bytes=1) (v:Value) (n:Nat) (f:Nat->Nat) (hown:OwnB w base v n f) (ad:Addr) (c x:Nat) (hx:w.cell? (ad.add 0)=some (.int .u8 (x:Nat))) (hn:n+1<=140737488355328) (hbase:base<=w.heap.size) :
  ∃ v' w',(Builtin.append_ #[t,t] ty #[v,.slice (some ad) 1 c]).run P w=.ok v' w'/\OwnB w' base v' (n+1) (fun j=>if j=n then x else f j)/\w.grownBy w' v.ownBlock:=by
 obtain⟨g,cap,rfl,hg1,hg2,hnc,hcm,hcl,hsp⟩:=hown
 have hnews:∀ (j:Nat) (u:Value),[Value.int .u8 (x:Nat)][j]? = some u->w.cell? (ad.add j)=some u:=by
  intro j u hj
  match j,hj with
  |0,hj=>simp at hj;subst hj;exact hx
 have hone:∀ u∈[Value.int .u8 (x:Nat)],u.oneCell'=true:=by
  intro u hu;simp at hu;subst hu;rfl
 by_cases hroom:n+1<=cap
 ·obtain⟨sp1,sp2⟩:=hsp n nl hroom
  have hr:=run_append_room_cells (P:=P) w t ty e i ht hi g 0 n cap ad 1 c [.int .u8 (x:Nat)] (by simp[hsize]) hnews hone hroom
   (fun j hj=>by simp at hj;subst hj;simpa [hsize] using sp1) (fun j hj=>by simp at hj;subst hj;simpa [hsize] using sp2)
  refine⟨_,_,hr,?_,⟨rfl,rfl,rfl,?_,?_⟩⟩
  ·obtain⟨y,hy⟩:=Option.isSome_iff_exists.1 sp1
   simp only[hsize,Nat.mul_one,Nat.zero_add,World.setCells];refine⟨g,cap,rfl,hg1,by simpa using hg2,hroom,hcm,fun j hj=>?_,fun j hj1 hj2=>?_⟩
   ·by_cases e':j=n
    ·subst e'
     rw[World.cell?_setCell_same w _ _ hy];simp
    ·rw[World.cell?_setCell_other w _ _ _ (by simp<;>omega),hcl j (by omega)]
     simp[e']
   ·rw[World.cell?_setCell_other w _ _ _ (by simp<;>omega),World.frozen?_setCell]
    exact hsp j (by omega) hj2
  ·simp[hsize,World.setCells]
  ·intro k _ hk
   simp only[hsize,World.setCells];exact heap_setCell_other w _ k _ (by intro e';exact hk (by simp[Value.ownBlock,e']))
 ·have hcap:cap=n:=by omega
  have hr:=run_append_grow (P:=P) w t ty e i (.int .u8 0) ht hi hz ⟨g,0,none⟩ n cap ((List.range n).map fun j=>Value.int .u8 (f j:Nat)) (by simp[hsize])
   (fun j u hj=>by
    have hadd:(⟨g,0,none⟩:Addr).add j=⟨g,j,none⟩:=by unfold Addr.add;split<;>simp_all
    rw[hadd];by_cases hjn:j<n
    ·simp[hjn]at hj
     rw[hcl j hjn,hj]
    ·simp[hjn]at hj)
   ad 1 c [.int .u8 (x:Nat)] (by simp[hsize]) hnews (by omega) (by omega) (by rw[hby];exact growslice_fits (by omega) (by omega))
  have hge:=grownCap_ge w (n+1) cap e;have hcm2:=grownCap_le_maxLen w (n+1) cap e (by unfold maxLen;omega);refine⟨_,_,hr,?_,⟨rfl,rfl,rfl,by simp,fun k hk _=>Below.heap_alloc w.drew _ k hk⟩⟩;generalize grownCap w (n+1) cap e=cap' at hge hcm2;have hcc:∀ (cs:Array Value) (j:Nat),(w.drew.alloc (.cells cs e)).cell? ⟨w.heap.size,j,none⟩=cs[j]?:=fun cs j=>World.cell?_alloc_new w.drew cs e j;have hff:∀ (cs:Array Value) (j:Nat),(w.drew.alloc (.cells cs e)).frozen? ⟨w.heap.size,j,none⟩=false:=fun cs j=>World.frozen?_alloc_new w.drew cs e j;refine⟨w.heap.size,cap',rfl,hbase,by simp,hge,hcm2,fun j hj=>?_,fun j hj1 hj2=>⟨?_,hff _ j⟩⟩
  ·rw[hcc]
   by_cases e':j=n
   ·subst e'
    simp[Array.getElem?_append]
   ·have hjn:j<n:=by omega
    simp[Array.getElem?_append,hjn,hj,e']
  ·rw[hcc,Array.getElem?_eq_getElem]
   ·rfl
   ·simp[size_zeroCells,Value.cells]
    omega
theorem wpList_append_b {P:Program} {w:World} {ops:Array Oper} {rest:List Oper} {o:Oper} {a:Act} {Q:Exit->Act->World->Prop} (hgd:o.guard=none) (s y:Operand) (t:TypeId)
  (ho:o.op=.call { callee:=.builtin .append,args:=#[s,y],argTypes:=#[t,t] })
  (base:Nat) (e:TypeId) (i:TypeInfo) (ht:P.underlying t=some (.slice e)) (hi:P.info? e=some i) (hz:i.zero=some (.int .u8 0)) (hsize:i.size=1) (hby:i.bytes=1)
  (v:Value) (n:Nat) (f:Nat->Nat) (hs:a.eval s=v) (hown:OwnB w base v n f) (ad:Addr) (c x:Nat) (hy:a.eval y=.slice (some ad) 1 c) (hx:w.cell? (ad.add 0)=some (.int .u8 (x:Nat)))
  (hn:n+1<=140737488355328) (hbase:base<=w.heap.size)
  (h:∀ v' w',OwnB w' base v' (n+1) (fun j=>if j=n then x else f j)->w.grownBy w' v.ownBlock->wpList P ops Q rest (a.put o.dst v') w'):wpList P ops Q (o :: rest) a w:=by
 refine wpList_plain hgd fun K hK=>?_;obtain⟨v',w',hr,h2,h3⟩:=run_append_b (P:=P) w base t o.type e i ht hi hz hsize hby v n f hown ad c x hx hn hbase;unfold Oper.wp execOp;simp only[ho,resolve,invoke,builtin,Sem.run_bind,Sem.run_pure,Result.andThen_ok,List.map_toArray,List.map_cons,List.map_nil,hs,hy,hr];exact hK _ _ (h v' w' h2 h3)
end Sh
end Go.Proofs.YtbdcffjcogglbaaGreatDoor
