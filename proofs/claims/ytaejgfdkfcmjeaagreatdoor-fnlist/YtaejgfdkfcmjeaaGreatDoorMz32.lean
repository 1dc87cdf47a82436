import Derived.Test.YtaejgfdkfcmjeaaGreatDoorMz15
import Derived.Test.YtaejgfdkfcmjeaaGreatDoorMz20
import Derived.Test.YtaejgfdkfcmjeaaGreatDoorMz28
set_option maxRecDepth 100000
set_option maxHeartbeats 8000000
namespace Go.Proofs.YtaejgfdkfcmjeaaGreatDoor
open Go.RowKit
open Go.Proofs.Tryz
namespace Ls
open Bk (cnt cnt_le count_any)
open Bi (is_yes is_no)
theorem hideL {p:Prop} (h:p):Hid p:=h
def rightB (z b:Int) (r:ByteArray):Bool:=decide (0<=z/\z<=1000/\1<=b/\b<=48/\r.size=32/\z<=b*64)
def lV (z b:Int) (r:ByteArray):Value:=.agg #[.int .i64 z,.int .i64 b,.string r]
def countN (z b:Int) (r:ByteArray):Nat:=if rightB z b r=true then cnt z.toNat b.toNat else 0
theorem rightB_yes {z b:Int} {r:ByteArray} (h:rightB z b r=true):0<=z/\z<=1000/\1<=b/\b<=48/\r.size=32/\z<=b*64:=of_decide_eq_true h
theorem countN_yes {p k:Nat} {r:ByteArray} (h:rightB p k r=true):countN p k r=cnt p k/\cnt p k<=64:=by
 have h1:=rightB_yes h;unfold countN;rw[if_pos h];refine⟨rfl,(cnt_le (by omega)).2 (by omega)⟩
theorem countN_no {z b:Int} {r:ByteArray} (h:rightB z b r=false):countN z b r=0:=by
 unfold countN;rw[h];rfl
theorem countN_le (z b:Int) (r:ByteArray):countN z b r<=64:=by
 cases h:rightB z b r with
 |false=>rw[countN_no h];omega
 |true =>
  have h1:=rightB_yes h;obtain⟨p,rfl⟩:=Int.eq_ofNat_of_zero_le h1.1;obtain⟨k,rfl⟩:=Int.eq_ofNat_of_zero_le (show 0<=b by omega)
  have:=countN_yes h
  omega
theorem right_impl (z b:Int) (r:ByteArray) (w:World) :
  Calls prog 19 #[lV z b r] w fun e w'=>e=.returned (.bool (rightB z b r))/\Below w.heap.size w w':=by
 unfold lV;by_cases h1:z<0
 ·have HF:Hid (rightB z b r=false):=by unfold Hid rightB;simp;omega
  rw[HF.o];go_enter func19,ntmps19
  go_wp2_with fail
  go_ret;exact⟨rfl,(Below.refl _ _).alloc nl _⟩
 ·by_cases h2:1000<z
  ·have HF:Hid (rightB z b r=false):=by unfold Hid rightB;simp;omega
   rw[HF.o];go_enter func19,ntmps19
   go_wp2_with fail
   go_ret;exact⟨rfl,(Below.refl _ _).alloc nl _⟩
  ·by_cases h3:b<1
   ·have HF:Hid (rightB z b r=false):=by unfold Hid rightB;simp;omega
    rw[HF.o];go_enter func19,ntmps19;(go_wp2_with fail);go_ret;exact⟨rfl,(Below.refl _ _).alloc nl _⟩
   ·by_cases h4:48<b
    ·have HF:Hid (rightB z b r=false):=by unfold Hid rightB;simp;omega
     rw[HF.o];go_enter func19,ntmps19;(go_wp2_with fail);go_ret;exact⟨rfl,(Below.refl _ _).alloc nl _⟩
    ·by_cases h5:r.size=32
     ·have HF:Hid (rightB z b r=decide (z<=b*64)):=by unfold Hid rightB;rw[decide_eq_decide];omega
      rw[HF.o];have h5':((r.size:Int)==32)=true:=(by rw[h5];rfl);have H5:=hideL h5;clear h5;have hw:IntKind.i64.wrap (b*64)=b*64:=(by rw[IntKind.wrap_i64];omega);go_enter func19,ntmps19;(go_wp2_with fail);go_ret;exact⟨rfl,(Below.refl _ _).alloc nl _⟩
     ·have HF:Hid (rightB z b r=false):=by unfold Hid rightB;simp;omega
      rw[HF.o];have h5':((r.size:Int)==32)=false:=beq_eq_false_iff_ne.2 (by omega);go_enter func19,ntmps19;(go_wp2_with fail);go_ret;exact⟨rfl,(Below.refl _ _).alloc nl _⟩
theorem right_spec (z b:Int) (r:ByteArray) (w:World) :
  Calls prog 20 #[lV z b r] w fun e w'=>e=.returned (.bool (rightB z b r))/\Below w.heap.size w w':=by
 unfold lV;have hbl:∀ o,Below w.heap.size w (w.alloc o):=fun o=>(Below.refl _ _).alloc nl _;by_cases h1:0<=z/\z<=1000
 ·have H1:=hideL (fun W=>is_yes z 0 1000 W h1.1 h1.2)
  obtain⟨p,rfl⟩:=Int.eq_ofNat_of_zero_le h1.1;by_cases h2:1<=b/\b<=48
  ·have H2:=hideL (fun W=>is_yes b 1 48 W h2.1 h2.2)
   obtain⟨k,rfl⟩:=Int.eq_ofNat_of_zero_le (show 0<=b by omega);by_cases h5:r.size=32
   ·have h5':((r.size:Int)==32)=true:=by rw[h5];rfl
    have HC:=hideL (fun W=>count_any p k W (by omega) (by omega) (by omega));have HE:=hideL (cnt_le (p:=p) (k:=k) (by omega));have H12:=hideL (And.intro h1 h2);have H5:=hideL h5;clear h1 h2 h5;by_cases h6:cnt p k<=64
    ·have HF:Hid (rightB p k r=true):=by unfold Hid rightB;have:=HE.o.1 h6;have:=H12.o;have:=H5.o;simp;omega
     have h6':((cnt p k:Nat):Int)<=64:=by omega
     rw[HF.o];generalize cnt p k=c at HC h6';clear h6 HE HF H12 H5;go_enter func20,ntmps20;(go_wp2_with fail);refine(H1.o _).mono ?_;rintro e w1 ⟨rfl,hw⟩;subst w1;(go_wp2_with fail);refine(H2.o _).mono ?_;rintro e w1 ⟨rfl,hw⟩;subst w1;(go_wp2_with fail);refine(HC.o _).mono ?_;rintro e w1 ⟨rfl,hw⟩;subst w1;(go_wp2_with fail);go_ret;exact⟨rfl,hbl _⟩
    ·have HF:Hid (rightB p k r=false):=by unfold Hid rightB;have:=HE.o.2;have:=H12.o;have:=H5.o;simp;omega
     have h6':decide (((cnt p k:Nat):Int)<=64)=false:=by simp;omega
     rw[HF.o];generalize cnt p k=c at HC h6';clear h6 HE HF H12 H5;go_enter func20,ntmps20;(go_wp2_with fail);refine(H1.o _).mono ?_;rintro e w1 ⟨rfl,hw⟩;subst w1;(go_wp2_with fail);refine(H2.o _).mono ?_;rintro e w1 ⟨rfl,hw⟩;subst w1;(go_wp2_with fail);refine(HC.o _).mono ?_;rintro e w1 ⟨rfl,hw⟩;subst w1;(go_wp2_with fail);go_ret;exact⟨rfl,hbl _⟩
   ·have HF:Hid (rightB p k r=false):=by unfold Hid rightB;simp;omega
    rw[HF.o];have h5':((r.size:Int)==32)=false:=beq_eq_false_iff_ne.2 (by omega);clear HF;go_enter func20,ntmps20;(go_wp2_with fail);refine(H1.o _).mono ?_;rintro e w1 ⟨rfl,hw⟩;subst w1;(go_wp2_with fail);refine(H2.o _).mono ?_;rintro e w1 ⟨rfl,hw⟩;subst w1;(go_wp2_with fail);go_ret;exact⟨rfl,hbl _⟩
  ·have H2:=hideL (fun W=>is_no b 1 48 W (by omega))
   have HF:Hid (rightB p b r=false):=by unfold Hid rightB;simp;omega
   rw[HF.o];clear HF h2;go_enter func20,ntmps20
   go_wp2_with fail
   refine(H1.o _).mono ?_;rintro e w1 ⟨rfl,hw⟩;subst w1
   go_wp2_with fail
   refine(H2.o _).mono ?_;rintro e w1 ⟨rfl,hw⟩;subst w1
   go_wp2_with fail
   go_ret;exact⟨rfl,hbl _⟩
 ·have H1:=hideL (fun W=>is_no z 0 1000 W (by omega))
  have HF:Hid (rightB z b r=false):=by unfold Hid rightB;simp;omega
  rw[HF.o];clear HF h1;go_enter func20,ntmps20
  go_wp2_with fail
  refine(H1.o _).mono ?_;rintro e w1 ⟨rfl,hw⟩;subst w1
  go_wp2_with fail
  go_ret;exact⟨rfl,hbl _⟩
theorem count_impl (z b:Int) (r:ByteArray) (w:World) :
  Calls prog 21 #[lV z b r] w fun e w'=>e=.returned (.int .i64 (countN z b r:Nat))/\Below w.heap.size w w':=by
 have HR:=hideL (fun W=>right_impl z b r W)
 cases hc:rightB z b r with
 |false =>
  have HF:=hideL (countN_no hc);rw[hc]at HR;rw[HF.o];clear HF hc;unfold lV at HR ⊢;go_enter func21,ntmps21
  go_wp2_with fail
  refine(HR.o _).mono ?_;rintro e w1 ⟨rfl,hb1⟩;have HB1:=hideL (((Below.refl w.heap.size w).alloc nl _).trans (hb1.mono (by simp)));clear hb1
  go_wp2_with fail
  go_ret;exact⟨rfl,HB1.o⟩
 |true =>
  have h1:=rightB_yes hc;obtain⟨p,rfl⟩:=Int.eq_ofNat_of_zero_le h1.1;obtain⟨k,rfl⟩:=Int.eq_ofNat_of_zero_le (show 0<=b by omega);obtain⟨HF,hcb⟩:=countN_yes hc;have HF:=hideL HF;rw[HF.o]
  have hq:((p:Int)+k-1).tdiv k=((cnt p k:Nat):Int):=by
   unfold cnt;rw[Int.tdiv_eq_ediv_of_nonneg (by omega),Int.natCast_ediv]
   congr 1
   omega
  have hk0:((k:Int)==0)=false:=by simp;omega
  rw[hc]at HR;clear HF hc;generalize cnt p k=c at hq hcb ⊢;obtain⟨v,hv⟩:∃ v,v=lV p k r:=⟨_,rfl⟩;unfold lV at HR ⊢;go_enter func21,ntmps21
  go_wp2_with fail
  have HX:Hid ((w.alloc (.cells #[.int .i64 p,.int .i64 k,.string r] 26)).heap[w.heap.size]? = some (.cells #[.int .i64 p,.int .i64 k,.string r] 26 (0,0))):=heap_alloc_new w _;refine(HR.o _).mono ?_;rintro e w1 ⟨rfl,hb1⟩;have HB1:=hideL (((Below.refl w.heap.size w).alloc nl _).trans (hb1.mono (by simp)));have HX1:=hideL ((hb1.block _ (by simp)).trans HX.o);clear hb1 HX;have c0:w1.cell? ⟨w.heap.size,0,none⟩=some (.int .i64 p):=cell_of_row w1 _ 0 _ _ _ HX1.o;have c1:w1.cell? ⟨w.heap.size,1,none⟩=some (.int .i64 k):=cell_of_row w1 _ 1 _ _ _ HX1.o
  go_wp2_with fail
  go_ret;exact⟨rfl,HB1.o⟩
theorem count_spec (z b:Int) (r:ByteArray) (w:World) :
  Calls prog 22 #[lV z b r] w fun e w'=>e=.returned (.int .i64 (countN z b r:Nat))/\Below w.heap.size w w':=by
 have HR:=hideL (fun W=>right_spec z b r W)
 cases hc:rightB z b r with
 |false =>
  have HF:=hideL (countN_no hc);rw[hc]at HR;rw[HF.o];clear HF hc;unfold lV at HR ⊢;go_enter func22,ntmps22
  go_wp2_with fail
  refine(HR.o _).mono ?_;rintro e w1 ⟨rfl,hb1⟩;have HB1:=hideL (((Below.refl w.heap.size w).alloc nl _).trans (hb1.mono (by simp)));clear hb1
  go_wp2_with fail
  go_ret;exact⟨rfl,HB1.o⟩
 |true =>
  have h1:=rightB_yes hc;obtain⟨p,rfl⟩:=Int.eq_ofNat_of_zero_le h1.1;obtain⟨k,rfl⟩:=Int.eq_ofNat_of_zero_le (show 0<=b by omega);obtain⟨HF,hcb⟩:=countN_yes hc;have HF:=hideL HF;rw[HF.o];have HC:=hideL (fun W=>count_any p k W (by omega) (by omega) (by omega));rw[hc]at HR;clear HF hc;generalize cnt p k=c at hcb HC ⊢;unfold lV at HR ⊢;go_enter func22,ntmps22
  go_wp2_with fail
  have HX:Hid ((w.alloc (.cells #[.int .i64 p,.int .i64 k,.string r] 26)).heap[w.heap.size]? = some (.cells #[.int .i64 p,.int .i64 k,.string r] 26 (0,0))):=heap_alloc_new w _;refine(HR.o _).mono ?_;rintro e w1 ⟨rfl,hb1⟩;have HB1:=hideL (((Below.refl w.heap.size w).alloc nl _).trans (hb1.mono (by simp)));have HX1:=hideL ((hb1.block _ (by simp)).trans HX.o);clear hb1 HX;have c0:w1.cell? ⟨w.heap.size,0,none⟩=some (.int .i64 p):=cell_of_row w1 _ 0 _ _ _ HX1.o;have c1:w1.cell? ⟨w.heap.size,1,none⟩=some (.int .i64 k):=cell_of_row w1 _ 1 _ _ _ HX1.o
  go_wp2_with fail
  refine(HC.o _).mono ?_;rintro e w2 ⟨rfl,hw⟩;subst w2
  go_wp2_with fail
  go_ret;exact⟨rfl,HB1.o⟩
end Ls
namespace Fr
open Sh (upd)
open Ze (numsR hideZ)
def front (f:Nat->Int) (k:Nat):Nat->Int:=fun j=>if j=0 then f k else if j<=k then f (j-1) else f j
def row0:Nat->Int:=fun j=>(j:Int)
def look (f:Nat->Int) (c:Int):Nat:=(List.range 256).findIdx fun k=>f k==c
def Full (f:Nat->Int):Prop:=(∀ c:Nat,c<256->∃ k,k<256/\f k=c)/\∀ k,k<256->0<=f k/\f k<256
theorem full0:Full row0:=⟨fun c h=>⟨c,h,rfl⟩,fun k h=>by unfold row0;omega⟩
theorem front_zero (f:Nat->Int) (k:Nat):front f k 0=f k:=if_pos rfl
theorem front_low (f:Nat->Int) (k j:Nat) (h0:j≠0) (h:j<=k):front f k j=f (j-1):=by
 unfold front;rw[if_neg h0,if_pos h]
theorem front_high (f:Nat->Int) (k j:Nat) (h:k<j):front f k j=f j:=by
 unfold front;rw[if_neg (by omega),if_neg (by omega)]
theorem Full.front {f:Nat->Int} (h:Full f) (k:Nat) (hk:k<256):Full (front f k):=by
 refine⟨fun c hc=>?_,fun j hj=>?_⟩
 ·obtain⟨i,hi,e⟩:=h.1 c hc
  rcases Nat.lt_trichotomy i k with hl|hl|hl
  ·exact⟨i+1,by omega,by rw[front_low f k (i+1) (by omega) (by omega)];exact e⟩
  ·exact⟨0,by omega,by rw[front_zero,<-hl];exact e⟩
  ·exact⟨i,hi,by rw[front_high f k i hl];exact e⟩
 ·by_cases h0:j=0
  ·subst h0;rw[front_zero];exact h.2 k hk
  ·by_cases h1:j<=k
   ·rw[front_low f k j h0 h1];exact h.2 (j-1) (by omega)
   ·rw[front_high f k j (by omega)];exact h.2 j hj
theorem find_get (N:Nat) (p:Nat->Bool) (h:(List.range N).findIdx p<(List.range N).length):p ((List.range N).findIdx p)=true:=by
 have h1:=List.findIdx_getElem (xs:=List.range N) (p:=p) (w:=h);have h2:(List.range N)[(List.range N).findIdx p]=(List.range N).findIdx p:=List.getElem_range h;rw[h2]at h1;exact h1
theorem look_some {f:Nat->Int} (hf:Full f) {c:Nat} (hc:c<256):look f c<256/\f (look f c)=c/\∀ i,i<look f c->f i≠c:=by
 obtain⟨k,hk,e⟩:=hf.1 c hc
 have hlt:look f c<(List.range 256).length:=by
  unfold look;rw[List.findIdx_lt_length];exact⟨k,by simpa using hk,by simpa using e⟩
 have h1:look f c<256:=by simpa using hlt
 refine⟨h1,?_,fun i hi=>?_⟩
 ·exact beq_iff_eq.1 (find_get 256 (fun k=>f k==(c:Int)) hlt)
 ·have h2:i<(List.range 256).findIdx fun k=>f k==(c:Int):=hi
  have:=List.not_of_lt_findIdx h2
  simpa using this
def fstep (s:List Int × (Nat->Int)) (c:UInt8):List Int × (Nat->Int):=(s.1++[(look s.2 c.toNat:Int)],front s.2 (look s.2 c.toNat))
def fst' (l:List UInt8):List Int × (Nat->Int):=l.foldl fstep ([],row0)
theorem takeB {α:Type} {l:List α} {k:Nat} (h:k<l.length):l.take (k+1)=l.take k++[l[k]]:=List.take_succ_eq_append_getElem h
theorem fst_more {l:List UInt8} {k:Nat} (h:k<l.length):fst' (l.take (k+1))=((fst' (l.take k)).1++[(look (fst' (l.take k)).2 l[k].toNat:Int)],front (fst' (l.take k)).2 (look (fst' (l.take k)).2 l[k].toNat)):=by
 unfold fst';rw[takeB h,List.foldl_append];rfl
theorem fst_full (l:List UInt8):∀ k,k<=l.length->Full (fst' (l.take k)).2/\(fst' (l.take k)).1.length=k:=by
 intro k
 induction k with
 |zero=>intro _;exact⟨full0,rfl⟩
 |succ k ih =>
  intro hk;obtain⟨h1,h2⟩:=ih (by omega);rw[fst_more hk];refine⟨h1.front _ (look_some h1 (c:=l[k].toNat) (UInt8.toNat_lt _)).1,?_⟩;simp[h2]
def frontR (l:List UInt8):List Int:=if l.length<=400 then (fst' l).1 else []
theorem frontR_yes {l:List UInt8} (h:l.length<=400):frontR l=(fst' l).1:=if_pos h
theorem frontR_no {l:List UInt8} (h:400<l.length):frontR l=[]:=if_neg (by omega)
theorem frontR_len (l:List UInt8):(frontR l).length<=400:=by
 by_cases h:l.length<=400
 ·rw[frontR_yes h]
  have:=(fst_full l l.length nl).2
  rw[List.take_length]at this;omega
 ·rw[frontR_no (by omega)]
  exact Nat.zero_le _
def kstep (s:List UInt8 × (Nat->Int)) (n:Int):List UInt8 × (Nat->Int):=(s.1++[UInt8.ofNat (s.2 n.toNat).toNat],front s.2 n.toNat)
def kst (l:List Int):List UInt8 × (Nat->Int):=l.foldl kstep ([],row0)
theorem kst_more {l:List Int} {k:Nat} (h:k<l.length):kst (l.take (k+1))=((kst (l.take k)).1++[UInt8.ofNat ((kst (l.take k)).2 l[k].toNat).toNat],front (kst (l.take k)).2 l[k].toNat):=by
 unfold kst;rw[takeB h,List.foldl_append];rfl
theorem kst_full (l:List Int) (hl:∀ x∈l,0<=x/\x<=255):∀ k,k<=l.length->Full (kst (l.take k)).2/\(kst (l.take k)).1.length=k:=by
 intro k
 induction k with
 |zero=>intro _;exact⟨full0,rfl⟩
 |succ k ih =>
  intro hk;obtain⟨h1,h2⟩:=ih (by omega)
  have:=hl _ (List.getElem_mem (l:=l) (n:=k) hk)
  rw[kst_more hk];refine⟨h1.front _ (by omega),?_⟩;simp[h2]
def fbackR (l:List Int):List UInt8:=if numsR l 255=true then (kst l).1 else []
theorem fbackR_yes {l:List Int} (h:numsR l 255=true):fbackR l=(kst l).1:=if_pos h
theorem fbackR_no {l:List Int} (h:numsR l 255=false):fbackR l=[]:=if_neg (by rw[h];decide)
theorem kst_fst (l:List UInt8):∀ k,k<=l.length->kst (fst' (l.take k)).1=(l.take k,(fst' (l.take k)).2):=by
 intro k
 induction k with
 |zero=>intro _;rfl
 |succ k ih =>
  intro hk;have hf:=(fst_full l k (by omega)).1;obtain⟨h1,h2,_⟩:=look_some hf (c:=l[k].toNat) (UInt8.toNat_lt _);rw[fst_more hk]
  simp only
  rw[kst,List.foldl_append];have e:=ih (by omega);unfold kst at e;rw[e];simp only[List.foldl_cons,List.foldl_nil,kstep];rw[takeB hk]
  congr 1
  ·congr 1
   rw[Int.toNat_natCast,h2];simp
theorem front_back (l:List UInt8) (h:l.length<=400):fbackR (frontR l)=l:=by
 have h0:=fst_full l l.length nl;have hk:=kst_fst l l.length nl;rw[List.take_length]at h0 hk;rw[frontR_yes h,fbackR_yes,hk]
 have hall:∀ k,k<=l.length->∀ x∈(fst' (l.take k)).1,0<=x/\x<=255:=by
  intro k
  induction k with
  |zero=>intro _ x hx;cases hx
  |succ k ih =>
   intro hk x hx;have hf:=(fst_full l k (by omega)).1;obtain⟨h1,_,_⟩:=look_some hf (c:=l[k].toNat) (UInt8.toNat_lt _);rw[fst_more hk]at hx
   rcases List.mem_append.1 hx with hx|hx
   ·exact ih (by omega) x hx
   ·rw[List.mem_singleton.1 hx]
    omega
 have:=hall l.length nl
 rw[List.take_length]at this;unfold numsR;rw[decide_eq_true (by omega),Ze.upTo_of this];rfl
end Fr
namespace Bi
open Sh
open Nu (ret_strJ bv own_string app_below)
theorem byte_at (t:ByteArray) (j:Nat) (h:j<t.size):∃ y:UInt8,t[j]=y/\y.toNat=bt t j:=⟨t[j],rfl,bt_get t j h⟩
theorem all_more (t:ByteArray) (k:Nat) (h:∀ j,j<k->bt t j=48∨bt t j=49) (hk:bt t k=48∨bt t k=49):∀ j,j<k+1->bt t j=48∨bt t j=49:=by
 intro j hj;by_cases e:j=k
 ·rw[e];exact hk
 ·exact h j (by omega)
theorem good_impl (t:ByteArray) (w:World) (ht:t.size<=1048576) :
  Calls prog 164 #[.string t] w fun e w'=>e=.returned (.bool (good t))/\w'=w:=by
 go_enter func164,ntmps164
 go_wp2_with fail
 go_loopw [6] (fun i wr=>∃ k:Nat,i=.int .i64 k/\k<=t.size/\(∀ j,j<k->bt t j=48∨bt t j=49)/\wr=w) (fun i _=>t.size-(intOf i).toNat)
 case atStart=>exact⟨0,rfl,Nat.zero_le _,fun j hj=>absurd hj (Nat.not_lt_zero j),rfl⟩
 case round =>
  obtain⟨k,rfl,hk,hall,hw⟩:=hrel;subst hw;have HA:=hideB hall;clear hall;by_cases hlt:k<t.size
  ·obtain⟨y,b0,hy⟩:=byte_at t k hlt
   have HY:=hideB hy;by_cases e8:(y.toNat:Int)=48
   ·have n8:((y.toNat:Int) != 48)=false:=by rw[e8];rfl
    have HM:Hid (∀ j,j<k+1->bt t j=48∨bt t j=49):=all_more t k HA.o (by rw[<-HY.o];omega);clear hy e8;(go_wp2_with fail)
    go_roundw
    case rel=>exact⟨k+1,by go_num,by omega,HM.o,trivial⟩
    case measure=>simp[intOf];omega
   ·have n8:((y.toNat:Int) != 48)=true:=by rw[bne_iff_ne];exact e8
    by_cases e9:(y.toNat:Int)=49
    ·have n9:((y.toNat:Int) != 49)=false:=by rw[e9];rfl
     have HM:Hid (∀ j,j<k+1->bt t j=48∨bt t j=49):=all_more t k HA.o (by rw[<-HY.o];omega);clear hy e8 e9;(go_wp2_with fail)
     go_roundw
     case rel=>exact⟨k+1,by go_num,by omega,HM.o,trivial⟩
     case measure=>simp[intOf];omega
    ·have n9:((y.toNat:Int) != 49)=true:=by rw[bne_iff_ne];exact e9
     have HN:=hideB (good_not hlt (by rw[<-HY.o];omega) (by rw[<-HY.o];omega));clear hy e8 e9;(go_wp2_with fail);go_ret;exact⟨ret_boolB HN.o.symm,rfl⟩
  ·have HG:=hideB (good_of (t:=t) (fun j hj=>HA.o j (by omega)))
   go_wp2_with fail
   go_ret;exact⟨ret_boolB HG.o.symm,rfl⟩
theorem good_spec (t:ByteArray) (w:World) (ht:t.size<=1048576) :
  Calls prog 179 #[.string t] w fun e w'=>e=.returned (.bool (good t))/\w'=w:=by
 go_enter func179,ntmps179
 go_wp2_with fail
 go_loopw [3] (fun i wr=>∃ k:Nat,i=.int .i64 k/\k<=t.size/\(∀ j,j<k->bt t j=48∨bt t j=49)/\wr=w) (fun i _=>t.size-(intOf i).toNat)
 case atStart=>exact⟨0,rfl,Nat.zero_le _,fun j hj=>absurd hj (Nat.not_lt_zero j),rfl⟩
 case round =>
  obtain⟨k,rfl,hk,hall,hw⟩:=hrel;subst hw;have HA:=hideB hall;clear hall;by_cases hlt:k<t.size
  ·obtain⟨y,b0,hy⟩:=byte_at t k hlt
   have HY:=hideB hy;by_cases e8:(y.toNat:Int)=48
   ·have n8:((y.toNat:Int) != 48)=false:=by rw[e8];rfl
    have HM:Hid (∀ j,j<k+1->bt t j=48∨bt t j=49):=all_more t k HA.o (by rw[<-HY.o];omega);clear hy e8;(go_wp2_with fail)
    go_roundw
    case rel=>exact⟨k+1,by go_num,by omega,HM.o,trivial⟩
    case measure=>simp[intOf];omega
   ·have n8:((y.toNat:Int) != 48)=true:=by rw[bne_iff_ne];exact e8
    by_cases e9:(y.toNat:Int)=49
    ·have n9:((y.toNat:Int) != 49)=false:=by rw[e9];rfl
     have HM:Hid (∀ j,j<k+1->bt t j=48∨bt t j=49):=all_more t k HA.o (by rw[<-HY.o];omega);clear hy e8 e9;(go_wp2_with fail)
     go_roundw
     case rel=>exact⟨k+1,by go_num,by omega,HM.o,trivial⟩
     case measure=>simp[intOf];omega
    ·have n9:((y.toNat:Int) != 49)=true:=by rw[bne_iff_ne];exact e9
     have HN:=hideB (good_not hlt (by rw[<-HY.o];omega) (by rw[<-HY.o];omega));clear hy e8 e9;(go_wp2_with fail);go_ret;exact⟨ret_boolB HN.o.symm,rfl⟩
  ·have HG:=hideB (good_of (t:=t) (fun j hj=>HA.o j (by omega)))
   go_wp2_with fail
   go_ret;exact⟨ret_boolB HG.o.symm,rfl⟩
theorem pack_yes (t:ByteArray) (w:World) (ht:¬8000<t.size) (hg:good t=true) :
  Calls prog 123 #[.string t] w fun e w'=>e=.returned (.string (packV t))/\Below w.heap.size w w':=by
 obtain⟨i0,hi,hz0,hz1,hz2⟩:=info_parts Nu.Tryz.infoJ5;obtain⟨m,hm⟩:∃ m,m=(t.size+7)/8:=⟨_,rfl⟩
 have hmi:((t.size:Int)+8-1)/8=(m:Int):=by omega
 have HMM:=hideB hm;have HMI:=hideB hmi;have hd8:decide (8000<(t.size:Int))=false:=decide_eq_false (by omega);clear hmi;have HG:=hideB (good_impl t w (by omega));rw[hg]at HG;have HA:=hideB (good_yes hg);clear hm hg
 have hm2:m<=1001:=by have:=HMM.o;omega
 go_enter func123,ntmps123
 go_wp2_with fail
 refine HG.o.mono ?_;rintro e w' ⟨rfl,hw⟩;subst w'
 go_wp2_with (at_make;refine wpList_make_full _ rfl (.tmp 17) (.tmp 17) 22 rfl w.heap.size 5 i0 (.int .u8 0) 1 underlying22 hi hz0 hz1 .i64 .i64 _ _ m rfl rfl HMI.o HMI.o (by rw[hz2];omega) (by unfold maxLen;omega) nl ?_;intro w1 hown1 hgrow1;have HR:=hideB (made_row hown1);have HB:=hideB ((Below.refl w.heap.size w).grown hgrow1 nl (by simp));clear hown1 hgrow1)
 go_loopw [21] (fun i wr=>∃ k:Nat,i=.int .i64 k/\k<=t.size/\IsB wr w.heap.size 5 .u8 m (fun j=>(pkK t k j:Nat))/\Below w.heap.size w wr) (fun i _=>t.size-(intOf i).toNat)
 case atStart=>exact⟨0,rfl,by omega,IsB.congr HR.o (fun j hj=>by rw[pkK_zero];rfl),HB.o⟩
 case round =>
  obtain⟨k,rfl,hk,hr,hbel⟩:=hrel;have HR2:=hideB hr;by_cases hlt:k<t.size
  ·obtain⟨y,b0,hy⟩:=byte_at t k hlt
   have h01:=HA.o k hlt;rw[<-hy]at h01;have HY:=hideB hy;clear hy;by_cases e9:(y.toNat:Int)=49
   ·have n9:((y.toNat:Int)==49)=true:=by rw[e9];rfl
    have HO:Hid (one t k=1):=by
     unfold Hid one;rw[if_pos ⟨hlt,by rw[<-HY.o];omega⟩]
    obtain⟨q,hq⟩:∃ q:Nat,q=k/8:=⟨_,rfl⟩;obtain⟨r,hrr⟩:∃ r:Nat,r=k%8:=⟨_,rfl⟩;have hqi:(k:Int)/8=q:=(by omega);have hri:(k:Int)%8=r:=(by omega);have hqm:q<m:=(by have:=HMM.o;omega);have hr8:r<8:=(by omega);have ce:=hr.cell (j:=q) hqm;have cf:=hr.frozen q;obtain⟨s,hs⟩:∃ s:Nat,s=7-r:=⟨_,rfl⟩;have hsi:(7:Int)-r=s:=(by omega)
    have HV:Hid (bits BinOp.or IntKind.u8 ((pkK t k q:Nat):Int) ((2:Int) ^ s)=((pk t (k/8) (k%8)+2 ^ (7-k%8):Nat):Int)):=by
     unfold Hid;rw[hq,pkK_here,<-hrr,<-hs]
     have:=pk_or t (k/8) r hr8
     rw[<-hs]at this;rw[<-this];simp
    have hpw:(2:Int) ^ s<256:=by
     have:=Nat.pow_le_pow_right (n:=2) (by decide) (show s<=7 by omega)
     have hcast:((2 ^ s:Nat):Int)=(2:Int) ^ s:=by simp
     omega
    have hpw0:(0:Int)<(2:Int) ^ s:=by
     have:=Nat.pow_pos (n:=s) (a:=2) (by decide)
     have hcast:((2 ^ s:Nat):Int)=(2:Int) ^ s:=by simp
     omega
    have HQ:=hideB hq;clear hr e9 h01 hq hrr hs;generalize pkK t k q=pv at ce HV;(go_wp2_with fail)
    go_region
    all_goals (try go_wp2_with fail)
    all_goals go_roundw
    case rel=>exact⟨k+1,by go_num,by omega,IsB.congr (HR2.o.set q _) (fun j hj=>by rw[HQ.o];exact pkK_set t k j _ HO.o HV.o),Below.drew (hbel.setCell nl _)⟩
    case measure=>simp[intOf];omega
   ·have n9:((y.toNat:Int)==49)=false:=by rw[beq_eq_false_iff_ne];exact e9
    have HO:Hid (one t k=0):=by
     unfold Hid one;rw[if_neg (by rw[<-HY.o];omega)]
    clear hr e9 h01;(go_wp2_with fail)
    go_roundw
    case rel=>exact⟨k+1,by go_num,by omega,IsB.congr HR2.o (fun j hj=>pkK_skip t k j HO.o),hbel⟩
    case measure=>simp[intOf];omega
  ·obtain rfl:k=t.size:=by omega
   have hcv:=hr.str (P:=prog) (src:=22) (dst:=9) m m nl (fun j _=>pkK_lt t t.size j) underlying22 underlying5 underlying9;rw[HMM.o,pack_all,<-HMM.o]at hcv;clear hr
   go_wp2_with fail
   go_ret;exact⟨rfl,hbel⟩
theorem pack_impl (t:ByteArray) (w:World) (ht:t.size<=1048576) :
  Calls prog 123 #[.string t] w fun e w'=>e=.returned (.string (packR t))/\Below w.heap.size w w':=by
 by_cases h:8000<t.size
 ·have HE:=hideB (packR_no t (Or.inl h))
  go_enter func123,ntmps123
  go_wp2_with fail
  go_ret;exact⟨ret_strJ HE.o.symm,Below.refl _ _⟩
 ·cases hg:good t with
  |false =>
   have HE:=hideB (packR_no t (Or.inr hg));have HG:=hideB (good_impl t w (by omega));rw[hg]at HG;go_enter func123,ntmps123
   go_wp2_with fail
   refine HG.o.mono ?_;rintro e w' ⟨rfl,hw⟩;subst w'
   go_wp2_with fail
   go_ret;exact⟨ret_strJ HE.o.symm,Below.refl _ _⟩
  |true =>
   rw[packR_yes t h hg];exact pack_yes t w h hg
end Bi
namespace So
open Go.RowKit Go.Sort Go.Proofs
theorem mergeB_T (T:Nat->ByteArray) (blk cap a m:Nat) (d:Array Nat) (w:World) (hH:HoldsK (encT T) 2 w blk 0 d) (hblk:blk<w.heap.size) (ham:a+1<m) (hb:m+1<=d.size) (hsz:d.size<=1048576)
  (hr1:Ris (clT T) a m (dF d)) (hsep:Sep a m (m+1) (dF d)) :
  Calls prog 231 #[.slice (some ⟨blk,0,none⟩) d.size cap,.int .i64 a,.int .i64 m,.int .i64 (m+1:Nat),.func (.func 194) #[] #[]] w fun e w' =>
   e=.returned (.tuple #[])/\∃ n d' os,w'=sortWorldK (encT T) 2 w blk 0 n d' os/\d'.size=d.size/\PermF a (m+1) (dF d) (dF d')/\Ris (clT T) a (m+1) (dF d'):=by
 have mixed:=mixed;have HST:=hideO (world_self hH);have HH:=hideO hH;have HR1:=hideO hr1;have HSP:=hideO hsep;clear hH hr1 hsep;obtain⟨z,hz⟩:∃ z,z=d.size:=⟨_,rfl⟩;have HZ:=hideO hz;rw[<-hz]at hb hsz ⊢;clear hz;obtain⟨f,hf⟩:∃ f,f=dF d:=⟨_,rfl⟩;have HFD:=hideO hf;rw[<-hf]at HR1 HSP ⊢;clear hf;obtain⟨b,hm⟩:∃ b,b=m+1:=⟨_,rfl⟩
 have hbm:(b:Int)-(m:Int)=1:=by omega
 have hma:((m:Int)-(a:Int)==1)=false:=beq_eq_false_iff_ne.2 (by omega);rw[<-hm]at hb HSP ⊢;have HM:=hideO hm
 have hmb:m<b:=by omega
 clear hm;go_enter func231,ntmps231
 go_wp2_with fail
 clear hbm hma
 go_loopw [14,15] (fun u v wr=>∃ (i j n:Nat) (os:Array Obj),u=.int .i64 i/\v=.int .i64 j/\a<=i/\i<=j/\j<=m/\(a<i->lx (clT T) (f (i-1)) (f m))/\(j<m->lx (clT T) (f m) (f j))/\wr=sortWorldK (encT T) 2 w blk 0 n d os) (fun u v _=>(intOf v).toNat-(intOf u).toNat)
 case atStart=>exact⟨a,m,0,#[],rfl,rfl,nl,by omega,nl,fun h=>absurd h (by omega),fun h=>absurd h (by omega),HST.o⟩
 case round =>
  obtain⟨i,j,n,os,rfl,rfl,hai,hij,hjm,hlo,hhi,hwr⟩:=hrel;have HLO:=hideO hlo;have HHI:=hideO hhi;have HW:=hideO hwr;clear hlo hhi;by_cases hlt:i<j
  ·obtain⟨h,hh⟩:∃ h,h=(i+j)/2:=⟨_,rfl⟩
   have e1:((i:Int)+(j:Int))/2=(h:Int):=by omega
   have hhb:h<z:=by omega
   have hih:i<=h:=by omega
   have hhj:h<j:=by omega
   have hHj:HoldsK (encT T) 2 wr blk 0 d:=by rw[hwr];exact world_holds HH.o hblk n d os rfl
   have hbw:blk<wr.heap.size:=by rw[hwr];exact Nat.lt_of_lt_of_le hblk (world_size n d os)
   obtain⟨x0c,x0f,x1c,x1f⟩:=cells_T hHj (i:=m) (by have:=HZ.o;omega);obtain⟨y0c,y0f,y1c,y1f⟩:=cells_T hHj (i:=h) (by have:=HZ.o;omega);obtain⟨x,hx⟩:∃ x,x=d[m]!:=⟨_,rfl⟩;obtain⟨y,hy⟩:∃ y,y=d[h]!:=⟨_,rfl⟩;have HXY:Hid (x=f m/\y=f h):=⟨by rw[hx,HFD.o];rfl,by rw[hy,HFD.o];rfl⟩;rw[<-hx]at x0c x1c;rw[<-hy]at y0c y1c;have g0:=fun n' os'=>cell_grown (a:=⟨blk,m*2,none⟩) hbw x0c n' os';have g1:=fun n' os'=>cell_grown (a:=⟨blk,m*2+1,none⟩) hbw x1c n' os';have g2:=fun n' os'=>cell_grown (a:=⟨blk,h*2,none⟩) hbw y0c n' os';have g3:=fun n' os'=>cell_grown (a:=⟨blk,h*2+1,none⟩) hbw y1c n' os';have HCM:Hid (∀ W,Calls prog 194 #[.agg #[.int .i64 x,.string (T x)],.agg #[.int .i64 y,.string (T y)]] W fun e w'=>e=.returned (.int .i64 (cfT T x y))/\∃ q os',w'=grow (W.drewN q) os'):=fun W=>cmp_T T x y W;have hneg:=cfT_neg T x y;obtain⟨r,hr⟩:∃ r,r=cfT T x y:=⟨_,rfl⟩;rw[<-hr]at hneg HCM
   have hz1:(h:Int)<(z:Int):=by omega
   have hz2:(m:Int)<(z:Int):=by omega
   have HCLS:=hideO (fun n' os'=>sortWorldK_grown_c (encT T) 2 w blk 0 n n' d os os');rw[<-hwr]at HCLS;clear hr hx hy hwr hh x0c x0f x1c x1f y0c y0f y1c y1f hHj hbw
   cases hcb:clT T x y with
   |false =>
    rw[hcb]at hneg;have hlv:¬r<0:=of_decide_eq_false hneg;have hlv':decide (r<0)=false:=hneg
    have HL2:Hid (lx (clT T) (f h) (f m)):=by
     unfold Hid;have hpl:=HSP.o h m (by omega) (by omega) nl hmb;rw[<-HXY.o.1,<-HXY.o.2]at hpl ⊢;exact lx_no hcb hpl
    clear hneg;(go_wp2_with fail)
    go_quiet_grown (first|(go_at_call 194;refine Calls.grown_of (HCM.o _)))
    have HW2:Hid (grow (wr.drewN nq) osq=sortWorldK (encT T) 2 w blk 0 (n+nq) d (os++osq)):=HCLS.o nq osq;dsimp only;clear g0 g1 g2 g3;(go_wp2_with fail)
    go_roundw
    case rel=>exact⟨h+1,j,n+nq,os++osq,by go_num,rfl,by omega,by omega,hjm,fun _=>HL2.o,HHI.o,HW2.o⟩
    case measure=>simp[intOf];omega
   |true =>
    rw[hcb]at hneg;have hlv:r<0:=of_decide_eq_true hneg;have hlv':decide (r<0)=true:=hneg
    have HL2:Hid (lx (clT T) (f m) (f h)):=by
     unfold Hid;rw[<-HXY.o.1,<-HXY.o.2];exact lx_yes hcb
    clear hneg;(go_wp2_with fail)
    go_quiet_grown (first|(go_at_call 194;refine Calls.grown_of (HCM.o _)))
    have HW2:Hid (grow (wr.drewN nq) osq=sortWorldK (encT T) 2 w blk 0 (n+nq) d (os++osq)):=HCLS.o nq osq;dsimp only;clear g0 g1 g2 g3;(go_wp2_with fail)
    go_roundw
    case rel=>exact⟨i,h,n+nq,os++osq,rfl,rfl,hai,by omega,by omega,HLO.o,fun _=>HL2.o,HW2.o⟩
    case measure=>simp[intOf];omega
  ·obtain rfl:i=j:=by omega
   have HRR:Hid (Ris (clT T) a b (rotF i m b f)):=by
    unfold Hid;have hmm:=HM.o;rw[hmm]
    exact down_ris (clT_weak T) HR1.o hai hjm
     (fun k h1 h2=>HR1.o.le h1 (show k<=i-1 by omega) (by omega) (clT_weak T) (HLO.o (by omega)))
     (fun k h1 h2=>HR1.o.ge hai h1 h2 (clT_weak T) (HHI.o (by omega)))
   have HPP:Hid (PermF a b f (rotF i m b f)):=(rot_perm f hjm (by omega)).mono hai (by omega) nl;clear hwr
   go_wp2_with fail
   go_loopw [17] (fun u wr2=>∃ (k n:Nat) (dk:Array Nat) (os:Array Obj),u=.int .i64 k/\i<=k/\k<=m/\dk.size=z/\dF dk=rotF k m b f/\wr2=sortWorldK (encT T) 2 w blk 0 n dk os) (fun u _=>(intOf u).toNat)
   case atStart=>exact⟨m,n,d,os,rfl,hjm,nl,HZ.o.symm,by rw[HM.o,rot_down0];exact HFD.o.symm,HW.o⟩
   case round =>
    obtain⟨k,n2,dk,os2,rfl,hik,hkm,hsk,hfk,hwr⟩:=hrel;have HSK:=hideO hsk;have HFK:=hideO hfk;by_cases hlt2:i<k
    ·obtain⟨q,hq⟩:∃ q,k=q+1:=⟨k-1,by omega⟩
     have eq1:(k:Int)-1=(q:Int):=by omega
     have hH2:HoldsK (encT T) 2 wr blk 0 dk:=by rw[hwr];exact world_holds HH.o hblk n2 dk os2 (hsk.trans HZ.o)
     obtain⟨x0c,x0f,x1c,x1f⟩:=cells_T hH2 (i:=k) (by omega);obtain⟨y0c,y0f,y1c,y1f⟩:=cells_T hH2 (i:=q) (by omega);obtain⟨x,hx⟩:∃ x,x=dk[k]!:=⟨_,rfl⟩;obtain⟨y,hy⟩:∃ y,y=dk[q]!:=⟨_,rfl⟩;have hsw:=sortWorldK_swp_c (encT T) 2 w blk 0 (encT_len T) n2 dk os2 hblk k q (by omega) (by omega);rw[<-hx,<-hy,<-hwr,Nat.zero_add,Nat.zero_add]at hsw;rw[<-hx]at x0c x1c;rw[<-hy]at y0c y1c;have HSW:=hideO hsw;have hkz:(k:Int)<(z:Int):=(by omega);have hqz:(q:Int)<(z:Int):=(by omega);have hqw:IntKind.i64.wrap (q:Int)=(q:Int):=(by rw[IntKind.wrap_i64];omega);have hik2:(i:Int)<(k:Int):=(by omega);have hqk:q<k:=(by omega);have HQ:=hideO hq
     have HROT:Hid (So.swp (rotF k m b f) k q=rotF q m b f):=by
      unfold Hid;rw[HM.o,hq];exact rot_down q m f (by omega)
     clear hwr hH2 hx hy hsw hsk hfk hq;(go_wp2_with fail)
     go_region
     all_goals (try go_wp2_with fail)
     all_goals go_roundw
     case rel =>
      refine⟨q,n2+1,Go.Sort.swp dk k q,os2,rfl,by have:=HQ.o;omega,by omega,by rw[Go.Sort.size_swp];exact HSK.o,?_,HSW.o⟩;rw[dF_swp dk k q (by have:=HSK.o;omega) (by have:=HSK.o;omega),HFK.o,HROT.o]
     case measure=>simp[intOf];omega
    ·have hik2:¬(i:Int)<(k:Int):=by omega
     have HWW:=hideO hwr
     have HE:Hid (dF dk=rotF i m b f):=by
      unfold Hid;rw[hfk,show k=i by omega]
     clear hwr hsk hfk;(go_wp2_with fail);refine bodyPost_ret (v:=.tuple #[]) (by simp[results,results231,go_sem]) rfl ⟨rfl,n2,dk,⟨os2,HWW.o⟩,HSK.o,by rw[HE.o];exact HPP.o,by rw[HE.o];exact HRR.o⟩
end So
namespace Fr
open Sh (IsB rowF upd rowF_size rowF_get rowF_one rowF_congr results_row below_row row_size upd_same upd_other)
open Ze (hideZ)
open St (Aft)
theorem Tryz.zeroA175:(prog.info? 175).bind (·.zero)=some (.agg (rowF .u8 256 fun _=>0)):=by kernel_rfl
theorem Tryz.sizeA175:(prog.info? 175).map (·.size)=some 256:=by kernel_rfl
theorem Tryz.sizeB5:(prog.info? 5).map (·.size)=some 1:=by kernel_rfl
theorem wpList_alloc_row {P:Program} {w:World} {ops:Array Oper} {rest:List Oper} {a:Act} {Q:Exit->Act->World->Prop} {d:Tmp} {ty tt:TypeId} {pos:String} {af:Array Edge}
  {k:IntKind} {n:Nat} (hz:(P.info? ty).bind (·.zero)=some (.agg (rowF k n fun _=>0)))
  (h:∀ w',IsB w' w.heap.size ty k n (fun _=>0)->(∀ B,B<=w.heap.size->Below B w w')->w'.heap.size=w.heap.size+1->(∀ j,j<w.heap.size->w'.heap[j]? = w.heap[j]?)->wpList P ops Q rest (a.put (some d) (.pointer (some ⟨w.heap.size,0,none⟩))) w') :
  wpList P ops Q (⟨some d,.alloc ty,tt,pos,af,none⟩ :: rest) a w:=by
 refine wpList_plain rfl fun K hK=>?_
 obtain⟨i,hi,hzi⟩:∃ i,P.info? ty=some i/\i.zero=some (.agg (rowF k n fun _=>0)):=by
  cases hi:P.info? ty with
  |none=>rw[hi]at hz;cases hz
  |some i=>exact⟨i,rfl,by rw[hi]at hz;exact hz⟩
 have hl:(Instr.alloc ty true (.tuple #[])).run P w=.ok (.pointer (some ⟨w.heap.size,0,none⟩)) (w.alloc (.cells (rowF k n fun _=>0) ty)):=by
  simp[Instr.alloc,zeroValue,typeInfo,hi,hzi,newVar,newRow,Value.cells]
 unfold Oper.wp;simp[execOp,hl,Result.andThen];exact hK _ _ (h _ (IsB.new w ty k n _) (fun B hB=>(Below.refl B w).alloc hB _) (by simp) (fun j hj=>Below.heap_alloc w _ j hj))
def copyF (f:Nat->Int) (p:Nat):Nat->Int:=fun j=>if j=0 then f 0 else if j<=p then f (j-1) else f j
theorem copy_front (f:Nat->Int) (p j:Nat):upd (copyF f p) 0 (f p) j=front f p j:=by
 unfold upd copyF front;by_cases h:j=0
 ·rw[if_pos h,if_pos h]
 ·rw[if_neg h,if_neg h,if_neg h]
theorem copy_row (f:Nat->Int) (p:Nat) (hp:p<256) :
  ((rowF .u8 256 f).toList.take 1++(List.range p).map (fun j=>Value.int .u8 (f j))++(rowF .u8 256 f).toList.drop (1+((List.range p).map (fun j=>Value.int .u8 (f j))).length)).toArray=rowF .u8 256 (copyF f p):=by
 rw[List.append_assoc]
 apply Array.ext'
 apply List.ext_getElem?
 intro j;simp only[rowF,List.length_map,List.length_range];by_cases h0:j=0
 ·subst h0
  rw[List.getElem?_append_left (by simp)];simp[copyF]
 ·rw[List.getElem?_append_right (by simp;omega)]
  simp only[List.length_take,List.length_map,List.length_range];rw[show j-min 1 256=j-1 by omega];by_cases h1:j<=p
  ·rw[List.getElem?_append_left (by simp;omega)]
   have:j<256:=by omega
   have h2:j-1<p:=by omega
   simp[copyF,h0,h1,h2,this]
  ·rw[List.getElem?_append_right (by simp;omega),List.getElem?_drop]
   simp only[List.length_map,List.length_range];rw[show 1+p+(j-1-p)=j by omega];by_cases h2:j<256
   ·simp[copyF,h0,h1,h2]
   ·simp[h2]
theorem run_copy_up {P:Program} (w:World) (dT sT ty elem:TypeId) (hu:P.underlying dT=some (.slice elem)) (hsz:(P.info? elem).map (·.size)=some 1)
  (g p dCap sCap:Nat) (t:TypeId) (f:Nat->Int) (hp:p<256) (hb:IsB w g t .u8 256 f) :
  ∃ w',(Builtin.copy_ #[dT,sT] ty #[.slice (some ⟨g,1,none⟩) 255 dCap,.slice (some ⟨g,0,none⟩) p sCap]).run P w=.ok (goInt p) w'/\IsB w' g t .u8 256 (copyF f p)/\Aft g w w':=by
 have hrun:=run_copy_row (P:=P) w dT sT ty elem g 1 255 dCap ⟨g,0,none⟩ p sCap (rowF .u8 256 f) t ((List.range p).map (fun j=>Value.int .u8 (f j))) hu hsz hb (by simp[Nat.min_def];omega)
  (fun j v hv=>by
   have hadd:(⟨g,0,none⟩:Addr).add j=⟨g,j,none⟩:=by unfold Addr.add;split<;>simp_all
   rw[hadd];rw[List.getElem?_map]at hv;by_cases hj:j<p
   ·rw[List.getElem?_range hj]at hv
    rw[hb.cell (by omega)];exact hv
   ·rw[List.getElem?_eq_none (by simpa using hj)]at hv
    cases hv)
  (by rw[rowF_size];simp;omega) (fun v hv=>by
   obtain⟨j,_,rfl⟩:=List.mem_map.1 hv
   rfl)
 rw[copy_row f p hp,List.length_map,List.length_range]at hrun;exact⟨_,hrun,hb.row _,rfl,rfl,rfl,by simp[World.setRow],fun k hk hg=>setRow_other w g k _ hg⟩
theorem bring_impl (g p:Nat) (t:TypeId) (f:Nat->Int) (w:World) (hb:IsB w g t .u8 256 f) (hp:p<256) :
  Calls prog 160 #[.pointer (some ⟨g,0,none⟩),.int .i64 p] w fun e w'=>e=.returned (.tuple #[])/\IsB w' g t .u8 256 (front f p)/\Aft g w w':=by
 have c0:=hb.cell hp;have HB:=hideZ hb;have HA:=hideZ (Aft.refl g w);obtain⟨x,hx⟩:∃ x,x=f p:=⟨_,rfl⟩;have HX:=hideZ hx;rw[<-hx]at c0;clear hx hb;go_enter func160,ntmps160
 go_wp2_with fail
 have hp1:(p:Int)<=256:=by omega
 have hp2:¬(p:Int)<0:=by omega
 have hp3:¬(256:Int)<(p:Int):=by omega
 obtain⟨W4,hcp,hb4,ha4⟩:=run_copy_up (P:=prog) w.drew 22 22 3 5 underlying22 Tryz.sizeB5 g p 255 256 t f hp (HB.o.of_heap rfl);have HB4:=hideZ hb4;have HA4:Hid (Aft g w W4):=⟨ha4.1,ha4.2.1,ha4.2.2.1,ha4.2.2.2.1,ha4.2.2.2.2⟩;clear hb4 ha4;have c1:=HB4.o.cell (j:=0) (by omega);have f1:=HB4.o.frozen 0;have HF:=hideZ (HB4.o.set 0 x)
 go_region
 go_wp2_with fail
 refine bodyPost_end (v:=.tuple #[]) (by simp[results,results160,go_sem]) rfl ⟨rfl,HF.o.congr (fun j _=>?_),HA4.o.set 0 _⟩;rw[HX.o];exact copy_front f p j
def rise (k:Nat):Nat->Int:=fun j=>if j<k then (j:Int) else 0
theorem rise_next (k j:Nat):upd (rise k) k (k:Int) j=rise (k+1) j:=by
 unfold upd rise;by_cases e:j=k
 ·subst e;rw[if_pos rfl,if_pos (by omega)]
 ·rw[if_neg e]
  by_cases h:j<k
  ·rw[if_pos h,if_pos (by omega)]
  ·rw[if_neg h,if_neg (by omega)]
theorem rise_all (j:Nat) (h:j<256):rise 256 j=row0 j:=if_pos h
theorem rising_impl (w:World) :
  Calls prog 159 #[] w fun e w'=>e=.returned (.agg (rowF .u8 256 row0))/\Below w.heap.size w w':=by
 go_enter func159,ntmps159
 go_wp2_with ((with_reducible refine wpList_alloc_row Tryz.zeroA175 ?_);intro w1 hb1 hbel1 hs1 ho1)
 rename_i w0 hb0 hbel0 hs0 ho0 K0 a0
 have HB1:=hideZ hb1;have HB0:=hideZ (hb0.of_heap (ho1 w.heap.size (by omega)));have HBel:=hideZ ((hbel0 w.heap.size nl).trans (hbel1 w.heap.size (by omega)));rw[hs0]at HB1 hs1;clear hb1 hbel1 ho1 hb0 hbel0 ho0
 go_loopw [3] (fun i wr=>∃ k:Nat,i=.int .i64 k/\k<=256/\IsB wr (w.heap.size+1) 175 .u8 256 (rise k)/\IsB wr w.heap.size 175 .u8 256 (fun _=>0)/\Below w.heap.size w wr) (fun i _=>256-(intOf i).toNat)
 case atStart=>exact⟨0,rfl,by omega,HB1.o.congr (fun j _=>by unfold rise;rw[if_neg (by omega)]),HB0.o,HBel.o⟩
 case round =>
  obtain⟨k,rfl,hk,h1,h0,hbel⟩:=hrel;have G1:=hideZ h1;have G0:=hideZ h0;have GB:=hideZ hbel;by_cases hlt:k<256
  ·have ck:=h1.cell (j:=k) hlt
   have fk:=h1.frozen k
   have hwr:((k:Int))%256=(k:Int):=by omega
   have HN:=hideZ (h1.set k (k:Int));clear h1 h0 hbel
   go_wp2_with fail
   go_roundw
   case rel=>exact⟨k+1,by go_num,by omega,HN.o.congr (fun j _=>rise_next k j),G0.o.set_other _ _ (by simp),GB.o.setCell (by simp) _⟩
   case measure=>simp[intOf];omega
  ·obtain rfl:k=256:=by omega
   have G2:=hideZ (h1.congr (fun j hj=>rise_all j hj));clear h1 h0 hbel
   go_wp2_with (first|((with_reducible refine Sh.wpList_load_row G2.o underlying175 Tryz.sizeA175 ?_ ?_);(· rfl))|((with_reducible refine Sh.wpList_store_row G0.o Tryz.sizeA175 row0 ?_ ?_ ?_);(· rfl);(· rfl)))
   exact bodyPost_ret (v:=.agg (rowF .u8 256 row0)) (results_row rfl _ rfl (G0.o.row _) underlying175 Tryz.sizeA175) rfl ⟨rfl,below_row GB.o nl _⟩
end Fr
namespace Fr
open Sh (IsB rowF upd made_row upd_same upd_other)
open Ze (hideZ)
open St (Aft)
theorem row_spec (w:World) :
  Calls prog 175 #[] w fun e w'=>e=.returned (.slice (some ⟨w.heap.size,0,none⟩) 256 256)/\IsB w' w.heap.size 5 .u8 256 row0/\Below w.heap.size w w':=by
 obtain⟨i0,hi,hz0,hz1,hz2⟩:=info_parts Nu.Tryz.infoJ5;go_enter func175,ntmps175
 go_wp2_with (at_make;refine wpList_make_full _ rfl (.const (.int .i64 256)) (.const (.int .i64 256)) 22 rfl w.heap.size 5 i0 (.int .u8 0) 1 underlying22 hi hz0 hz1 .i64 .i64 _ _ 256 rfl rfl (by simp) (by simp) (by rw[hz2];omega) (by unfold maxLen;omega) nl ?_;intro w1 hown1 hgrow1;have HR:=hideZ (made_row hown1);have HB:=hideZ ((Below.refl w.heap.size w).grown hgrow1 nl (by simp));clear hown1 hgrow1)
 go_loopw [2] (fun i wr=>∃ k:Nat,i=.int .i64 k/\k<=256/\IsB wr w.heap.size 5 .u8 256 (rise k)/\Below w.heap.size w wr) (fun i _=>256-(intOf i).toNat)
 case atStart=>exact⟨0,rfl,by omega,HR.o.congr (fun j _=>by unfold rise;rw[if_neg (by omega)]),HB.o⟩
 case round =>
  obtain⟨k,rfl,hk,h1,hbel⟩:=hrel;have G1:=hideZ h1;have GB:=hideZ hbel;by_cases hlt:k<256
  ·have ck:=h1.cell (j:=k) hlt
   have fk:=h1.frozen k
   have hwr:((k:Int))%256=(k:Int):=by omega
   have HN:=hideZ (h1.set k (k:Int));clear h1 hbel
   go_wp2_with fail
   go_roundw
   case rel=>exact⟨k+1,by go_num,by omega,HN.o.congr (fun j _=>rise_next k j),GB.o.setCell (by simp) _⟩
   case measure=>simp[intOf];omega
  ·obtain rfl:k=256:=by omega
   have G2:=hideZ (h1.congr (fun j hj=>rise_all j hj));clear h1 hbel
   go_wp2_with fail
   go_ret;exact⟨rfl,G2.o,GB.o⟩
def downF (f:Nat->Int) (p k:Nat):Nat->Int:=fun j=>if k<j/\j<=p then f (j-1) else f j
theorem down_start (f:Nat->Int) (p j:Nat):downF f p p j=f j:=by
 unfold downF;rw[if_neg (by omega)]
theorem down_next (f:Nat->Int) (p k j:Nat) (h:k+1<=p):upd (downF f p (k+1)) (k+1) (f k) j=downF f p k j:=by
 unfold upd downF;by_cases e:j=k+1
 ·subst e
  rw[if_pos rfl,if_pos (by omega)];rfl
 ·rw[if_neg e]
  by_cases h2:k+1<j/\j<=p
  ·rw[if_pos h2,if_pos (by omega)]
  ·rw[if_neg h2,if_neg (by omega)]
theorem down_at (f:Nat->Int) (p k:Nat):downF f p (k+1) k=f k:=by
 unfold downF;rw[if_neg (by omega)]
theorem down_front (f:Nat->Int) (p j:Nat):upd (downF f p 0) 0 (f p) j=front f p j:=by
 unfold upd downF front;by_cases h:j=0
 ·rw[if_pos h,if_pos h]
 ·rw[if_neg h,if_neg h]
  by_cases h2:j<=p
  ·rw[if_pos (by omega),if_pos h2]
  ·rw[if_neg (by omega),if_neg h2]
theorem front_spec (g p c:Nat) (t:TypeId) (f:Nat->Int) (w:World) (hb:IsB w g t .u8 256 f) (hp:p<256) :
  Calls prog 176 #[.slice (some ⟨g,0,none⟩) 256 c,.int .i64 p] w fun e w'=>e=.returned (.tuple #[])/\IsB w' g t .u8 256 (front f p)/\Aft g w w':=by
 have c0:=hb.cell hp;have HB:=hideZ hb;have HA:=hideZ (Aft.refl g w);obtain⟨x,hx⟩:∃ x,x=f p:=⟨_,rfl⟩;have HX:=hideZ hx;rw[<-hx]at c0;clear hx hb;go_enter func176,ntmps176
 go_wp2_with fail
 go_loopw [1] (fun i wr=>∃ k:Nat,i=.int .i64 k/\k<=p/\IsB wr g t .u8 256 (downF f p k)/\Aft g w wr) (fun i _=>(intOf i).toNat)
 case atStart=>exact⟨p,rfl,nl,HB.o.congr (fun j _=>(down_start f p j).symm),HA.o⟩
 case round =>
  obtain⟨k,rfl,hk,h1,ha⟩:=hrel;have G1:=hideZ h1;have GA:=hideZ ha
  cases k with
  |zero =>
   have c1:=h1.cell (j:=0) (by omega);have f1:=h1.frozen 0;have HF:=hideZ (h1.set 0 x);clear h1 ha
   go_wp2_with fail
   refine bodyPost_end (v:=.tuple #[]) (by simp[results,results176,go_sem]) rfl ⟨rfl,HF.o.congr (fun j _=>?_),GA.o.set 0 _⟩;rw[HX.o];exact down_front f p j
  |succ k =>
   have c1:=h1.cell (j:=k) (by omega);have c2:=h1.cell (j:=k+1) (by omega);have f1:=h1.frozen (k+1);obtain⟨y,hy⟩:∃ y,y=f k:=⟨_,rfl⟩;rw[down_at,<-hy]at c1
   have HF:Hid (IsB (wr.setCell ⟨g,k+1,none⟩ (.int .u8 y)) g t .u8 256 (downF f p k)):=by
    have:=(h1.set (k+1) y).congr (f':=downF f p k) (fun j _=>by rw[hy];exact down_next f p k j hk)
    exact this
   have e1:((k+1:Nat):Int)=(k:Int)+1:=by omega
   have e2:((k:Int)+1).toNat=k+1:=by omega
   rw[e1];clear h1 ha hy e1
   go_wp2_with fail
   go_roundw
   case rel=>exact⟨k,by go_num,by omega,HF.o,GA.o.set (k+1) _⟩
   case measure=>simp[intOf]
end Fr
end Go.Proofs.YtaejgfdkfcmjeaaGreatDoor
