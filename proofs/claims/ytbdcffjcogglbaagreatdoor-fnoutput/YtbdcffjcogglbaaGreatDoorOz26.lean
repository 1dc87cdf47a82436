import Derived.Test.YtbdcffjcogglbaaGreatDoorOz21
import Derived.Maps.RangeWalk
import Derived.Maps.OwnSet
import Derived.StringKeys
import Derived.Shelf.Strings.Prefix
import Derived.Test.YtbdcffjcogglbaaGreatDoorOz9
set_option maxRecDepth 100000
set_option maxHeartbeats 8000000
namespace Go.Proofs.YtbdcffjcogglbaaGreatDoor
open Go.RowKit
open Go.Proofs.Tryz
namespace Se
open Nu (bv arr_string ret_strJ hideJ)
def crcOf (s:ByteArray):Nat:=Cr.fin (Cr.crcL (Cr.fin 0) s.data.toList)
def fourL (n:Nat):List UInt8:=[UInt8.ofNat (n%256),UInt8.ofNat (n/256%256),UInt8.ofNat (n/65536%256),UInt8.ofNat (n/16777216)]
def fourS (n:Nat):ByteArray:=⟨(fourL n).toArray⟩
def sealV (t:ByteArray):ByteArray:=if t.size<=7996 then t++fourS (crcOf t) else ⟨#[]⟩
theorem crcOf_lt (s:ByteArray):crcOf s<4294967296:=Cr.fin_lt (Cr.crcL_lt _ _ (Cr.fin_lt (by decide)))
theorem fourS_size (n:Nat):(fourS n).size=4:=rfl
theorem moreV_crc (s:ByteArray) (h:s.size<=8000):Cr.moreV 0 s=(crcOf s:Nat):=Cr.moreV_yes 0 s h (by decide)
theorem bv_of (q:Nat) (x:Int) (hq:(q:Int)=x) (h:q<256):bv (UInt8.ofNat q)=.int .u8 x:=by
 unfold bv;rw[UInt8.toNat_ofNat',Nat.mod_eq_of_lt (by omega),hq]
theorem four_cells (n:Nat) (h:n<4294967296) :
  (#[.int .u8 ((n:Int)%256),.int .u8 ((n:Int)/256%256),.int .u8 ((n:Int)/65536%256),.int .u8 ((n:Int)/16777216)]:Array Value).toList=(fourL n).map bv:=by
 simp only[fourL,List.map_cons,List.map_nil]
 rw[bv_of (n%256) ((n:Int)%256) (by omega) (by omega),bv_of (n/256%256) ((n:Int)/256%256) (by omega) (by omega),
  bv_of (n/65536%256) ((n:Int)/65536%256) (by omega) (by omega),bv_of (n/16777216) ((n:Int)/16777216) (by omega) (by omega)]
theorem four_conv {P:Program} {src dst e:TypeId} (t:TypeId) (u:World) (n:Nat) (h:n<4294967296) (hs:P.underlying src=some (.slice e)) (he:P.underlying e=some (.int .u8)) (hd:P.underlying dst=some .string) :
  (convert src dst (.slice (some ⟨u.heap.size,0,none⟩) 4 4)).run P (u.alloc (.cells #[.int .u8 ((n:Int)%256),.int .u8 ((n:Int)/256%256),.int .u8 ((n:Int)/65536%256),.int .u8 ((n:Int)/16777216)] t)) =
   .ok (.string (fourS n)) (u.alloc (.cells #[.int .u8 ((n:Int)%256),.int .u8 ((n:Int)/256%256),.int .u8 ((n:Int)/65536%256),.int .u8 ((n:Int)/16777216)] t)) :=
 arr_string (P:=P) (fourL n) 4 (heap_alloc_new u _) (by rw[four_cells n h];rfl) hs he hd
theorem four_any (n:Nat) (w:World) (hn:n<4294967296) :
  Calls prog 103 #[.int .i64 n] w fun e w'=>e=.returned (.string (fourS n))/\Below w.heap.size w w':=by
 have hcv:=four_conv (P:=prog) 5 w n hn underlying22 underlying5 underlying9;go_enter func103,ntmps103
 go_wp2
 go_ret;exact⟨rfl,(Below.refl _ _).alloc nl _⟩
theorem sum_any (s:ByteArray) (w:World) (hs:s.size<=8000) :
  Calls prog 78 #[.string s] w fun e w'=>e=.returned (.string (fourS (crcOf s)))/\Below w.heap.size w w':=by
 have HV:=hideJ (moreV_crc s hs);have hn:=crcOf_lt s;generalize crcOf s=n at HV hn ⊢;have hcv:=four_conv (P:=prog) 134 w n hn underlying22 underlying5 underlying9;go_enter func78,ntmps78
 go_wp2_with fail
 refine(Cr.crc_impl0 s _ (by unfold maxLen;omega)).mono ?_;rw[HV.o];rintro e w' ⟨rfl,hw⟩;subst w'
 go_wp2
 refine wp_loop_rounds 5 ?_;rw[rounds_succ];go_wp2;rw[rounds_succ];go_wp2;rw[rounds_succ];go_wp2;rw[rounds_succ];go_wp2;rw[rounds_succ];go_wp2;go_ret;exact⟨rfl,(Below.refl _ _).alloc nl _⟩
theorem seal_spec (t:ByteArray) (w:World) (ht:t.size<=maxLen) :
  Calls prog 70 #[.string t] w fun e w'=>e=.returned (.string (sealV t))/\Below w.heap.size w w':=by
 unfold maxLen at ht;by_cases h:7996<t.size
 ·have HP:=hideJ (show sealV t=⟨#[]⟩ by unfold sealV;rw[if_neg (by omega)])
  go_enter func70,ntmps70
  go_wp2
  go_ret;exact⟨ret_strJ HP.o.symm,Below.refl _ _⟩
 ·have HP:=hideJ (show sealV t=t++fourS (crcOf t) by unfold sealV;rw[if_pos (by omega)])
  have hc:=crcOf_lt t;have hf:=fourS_size (crcOf t);have HF:=hideJ hf;clear hf
  have hf4:(fourS (crcOf t)).size<=4:=by rw[HF.o];omega
  go_enter func70,ntmps70
  go_wp2_with fail
  refine(Cr.crc_spec 0 t _ (by omega) (by omega)).mono ?_;rintro e w' ⟨rfl,hw⟩;subst w'
  go_wp2_with fail
  refine(four_any (crcOf t) _ hc).mono ?_;rintro e w1 ⟨rfl,hb1⟩
  go_wp2
  go_ret;exact⟨ret_strJ HP.o.symm,hb1⟩
theorem seal_impl (t:ByteArray) (w:World) (ht:t.size<=maxLen) :
  Calls prog 55 #[.string t] w fun e w'=>e=.returned (.string (sealV t))/\Below w.heap.size w w':=by
 unfold maxLen at ht;by_cases h:7996<t.size
 ·have HP:=hideJ (show sealV t=⟨#[]⟩ by unfold sealV;rw[if_neg (by omega)])
  go_enter func55,ntmps55
  go_wp2
  go_ret;exact⟨ret_strJ HP.o.symm,Below.refl _ _⟩
 ·have HP:=hideJ (show sealV t=t++fourS (crcOf t) by unfold sealV;rw[if_pos (by omega)])
  have HF:=hideJ (fourS_size (crcOf t));go_enter func55,ntmps55
  go_wp2_with fail
  refine(sum_any t _ (by omega)).mono ?_;rintro e w1 ⟨rfl,hb1⟩
  go_wp2_with fail
  refine(Nu.join_any _ _ _ (by rw[HF.o];omega)).mono ?_;rintro e w2 ⟨rfl,hb2⟩
  go_wp2
  go_ret;exact⟨ret_strJ HP.o.symm,hb1.trans (hb2.mono hb1.size)⟩
end Se
namespace So
open Sh (bt bt_get bt_lt strF strF_size)
def PlOk (t:ByteArray) (l:List Nat):Prop:=l.Perm (List.range t.size)/\l.Pairwise (lx (clI t))
theorem pl_unique {t:ByteArray} {l l':List Nat} (h:PlOk t l) (h':PlOk t l'):l=l' :=
 List.Perm.eq_of_pairwise (fun _ _ _ _ h1 h2=>(lx_asymm (clI_weak _) h1 h2).elim) h.2 h'.2 (h.1.trans h'.1.symm)
def plB (t:ByteArray) (b k:Nat):List Nat:=(List.range k).filter fun j=>bt t j==b
def plK (t:ByteArray) (b:Nat):List Nat:=(List.range b).flatMap fun c=>plB t c t.size
def pl (t:ByteArray):List Nat:=plK t 256
theorem pl_ok (t:ByteArray):PlOk t (pl t):=by
 have hpw:(pl t).Pairwise (lx (clI t)):=by
  unfold pl plK;rw[List.pairwise_flatMap];refine⟨fun b _=>?_,?_⟩
  ·unfold plB
   have h1:(List.range t.size).Pairwise (· < ·):=List.pairwise_lt_range;have h2:=h1.sublist (List.filter_sublist (p:=fun j=>bt t j==b));refine h2.imp_of_mem fun {x y} hx hy hlt=>?_
   have ex:bt t x=b:=by have:=(List.mem_filter.1 hx).2;simpa using this
   have ey:bt t y=b:=by have:=(List.mem_filter.1 hy).2;simpa using this
   exact lx_no (by simp[clI,ex,ey]) hlt
  ·refine(List.pairwise_lt_range (n:=256)).imp fun {b c} hbc x hx y hy=>?_
   have ex:bt t x=b:=by have:=(List.mem_filter.1 hx).2;simpa using this
   have ey:bt t y=c:=by have:=(List.mem_filter.1 hy).2;simpa using this
   exact lx_yes (by simp[clI,ex,ey,hbc])
 refine⟨?_,hpw⟩;refine(List.perm_ext_iff_of_nodup ?_ List.nodup_range).2 fun x=>?_
 ·exact hpw.imp fun {x y} h e=>by
   subst e;exact lx_asymm (clI_weak t) h h
 ·simp only[pl,plK,plB,List.mem_flatMap,List.mem_filter,List.mem_range]
  constructor
  ·rintro⟨b,_,h,_⟩
   exact h
  ·intro h
   exact⟨bt t x,bt_lt _ _,h,by simp⟩
theorem pl_len (t:ByteArray):(pl t).length=t.size:=by
 have:=(pl_ok t).1.length_eq
 simpa using this
def plF (t:ByteArray):Nat->Nat:=fun j=>(pl t).getD j 0
theorem plF_seg {t:ByteArray} {f:Nat->Nat} (hp:(seg f 0 t.size).Perm (List.range t.size)) (hr:Ris (clI t) 0 t.size f) (j:Nat) (hj:j<t.size):f j=plF t j:=by
 have h:seg f 0 t.size=pl t:=pl_unique ⟨hp,seg_pairwise hr⟩ (pl_ok t);unfold plF;rw[<-h,List.getD_eq_getElem?_getD,List.getElem?_eq_getElem (by rw[seg_len];omega)];simp[seg]
theorem plF_get (t:ByteArray) (j:Nat) (hj:j<(pl t).length):(pl t)[j]=plF t j:=by
 unfold plF;rw[List.getD_eq_getElem?_getD,List.getElem?_eq_getElem hj];rfl
theorem plF_lt (t:ByteArray) (j:Nat) (hj:j<t.size):plF t j<t.size:=by
 have hl:j<(pl t).length:=by rw[pl_len];exact hj
 rw[<-plF_get t j hl]
 have:=(pl_ok t).1.mem_iff.1 (List.getElem_mem hl)
 simpa using this
def itR (t:ByteArray) (a:Nat):Nat->Nat
 |0=>a
 |k+1=>plF t (itR t a k)
theorem itR_lt (t:ByteArray) (a k:Nat) (ha:a<t.size):itR t a k<t.size:=by
 induction k with
 |zero=>exact ha
 |succ k ih=>exact plF_lt t _ ih
def backT (t:ByteArray) (a:Nat):ByteArray:=strF t.size fun j=>bt t (itR t a (j+1))
theorem backT_size (t:ByteArray) (a:Nat):(backT t a).size=t.size:=strF_size _ _
def fillK (t:ByteArray) (a k:Nat):Nat->Nat:=fun j=>if j<k then bt t (itR t a (j+1)) else 0
theorem fillK_lt (t:ByteArray) (a k j:Nat):fillK t a k j<256:=by
 unfold fillK
 split
 ·exact bt_lt _ _
 ·omega
theorem fillK_next (t:ByteArray) (a k j:Nat):Sh.upd (fun j=>((fillK t a k j:Nat):Int)) k ((bt t (itR t a (k+1)):Nat):Int) j=((fillK t a (k+1) j:Nat):Int):=by
 unfold Sh.upd fillK;by_cases e:j=k
 ·subst e
  rw[if_pos rfl,if_pos (by omega)]
 ·rw[if_neg e]
  by_cases h:j<k
  ·have h':j<k+1:=by omega
   simp only[h,h',if_true]
  ·have h':¬j<k+1:=by omega
   simp only[h,h',if_false]
theorem fillK_all (t:ByteArray) (a:Nat):strF t.size (fillK t a t.size)=backT t a:=Sh.strF_congr _ _ _ fun j hj=>by
 unfold fillK;rw[if_pos hj]
def blK (t:ByteArray) (a k:Nat):List UInt8:=(List.range k).map fun j=>UInt8.ofNat (bt t (itR t a (j+1)))
def tOut (t:ByteArray) (a c:Int):Value:=.agg #[.string t,.int .i64 a,.int .i64 c]
theorem list_eq_iff (a b:ByteArray):(a.toList==b.toList)=decide (a=b):=by
 by_cases h:a=b
 ·rw[h];simp
 ·rw[decide_eq_false h,beq_eq_false_iff_ne]
  intro e
  apply h
  rw[ByteArray.toList_eq,ByteArray.toList_eq]at e
  have e2:a.data=b.data:=by rw[<-Array.toArray_toList (xs:=a.data),e,Array.toArray_toList]
  cases a;cases b;simpa using e2
open Classical in
noncomputable def unR (t:ByteArray) (a:Int):Value :=
 if 8000<t.size then tOut ⟨#[]⟩ 0 2 else if 48<t.size∨a<0∨((t.size:Int)<=a/\0<a) then tOut ⟨#[]⟩ 0 1
 else if bwtT (backT t a.toNat)=t/\(bwtA (backT t a.toNat):Int)=a then tOut (backT t a.toNat) 0 0 else tOut ⟨#[]⟩ 0 3
theorem unR_big {t:ByteArray} {a:Int} (h:8000<t.size):unR t a=tOut ⟨#[]⟩ 0 2:=by unfold unR;rw[if_pos h]
theorem unR_form {t:ByteArray} {a:Int} (h0:¬8000<t.size) (h:48<t.size∨a<0∨((t.size:Int)<=a/\0<a)):unR t a=tOut ⟨#[]⟩ 0 1:=by unfold unR;rw[if_neg h0,if_pos h]
theorem unR_yes {t:ByteArray} {a:Nat} (h0:t.size<=48) (ha:a<t.size∨a=0) (h:bwtT (backT t a)=t/\bwtA (backT t a)=a):unR t a=tOut (backT t a) 0 0:=by
 unfold unR;rw[if_neg (by omega),if_neg (by omega),Int.toNat_natCast,if_pos ⟨h.1,by rw[h.2]⟩]
theorem unR_no {t:ByteArray} {a:Nat} (h0:t.size<=48) (ha:a<t.size∨a=0) (h:¬(bwtT (backT t a)=t/\bwtA (backT t a)=a)):unR t a=tOut ⟨#[]⟩ 0 3:=by
 unfold unR;rw[if_neg (by omega),if_neg (by omega),Int.toNat_natCast,if_neg (fun q=>h ⟨q.1,by omega⟩)]
theorem unR_case (t:ByteArray) (a:Int):∃ b c,unR t a=.agg #[.string b,.int .i64 0,.int .i64 c]:=by
 unfold unR tOut
 split
 ·exact⟨_,_,rfl⟩
 ·split
  ·exact⟨_,_,rfl⟩
  ·split<;>exact⟨_,_,rfl⟩
end So
namespace So
open Sh (bt bt_get bt_lt strF strF_size bt_strF)
theorem put_at (cl:Nat->Nat->Bool) (l:List Nat) (k:Nat):∀ p,p<=l.length->(∀ j (h:j<l.length),p<=j->cl k l[j]=true) ->
  ∃ p',p'<=l.length/\(∀ j (h:j<l.length),p'<=j->cl k l[j]=true)/\(p'=0∨∃ h:p' - 1<l.length,cl k l[p' - 1]=false):=by
 intro p
 induction p with
 |zero=>intro hp h;exact⟨0,hp,h,.inl rfl⟩
 |succ p ih =>
  intro hp h
  cases e:cl k l[p] with
  |false=>exact⟨p+1,hp,h,.inr ⟨by simp;omega,e⟩⟩
  |true =>
   refine ih (by omega) fun j hj hpj=>?_
   rcases Nat.eq_or_lt_of_le hpj with e2|e2
   ·subst e2;exact e
   ·exact h j hj e2
theorem ord_ex (t:ByteArray):OrdOk t (ord t):=by
 have:∀ k,∃ l:List Nat,l.Perm (List.range k)/\l.Pairwise (lx (clT (turnV t))):=by
  intro k
  induction k with
  |zero=>exact⟨[],by simp,List.Pairwise.nil⟩
  |succ k ih =>
   obtain⟨l,hp,hs⟩:=ih;obtain⟨p,h1,h2,h3⟩:=put_at (clT (turnV t)) l k l.length nl (fun j hj h=>absurd hj (by omega));exact⟨_,ord_put (clT_weak _) hp hs h1 h2 h3⟩
 obtain⟨l,hl⟩:=this t.size;have hok:OrdOk t l:=hl;rw[ord_of hok];exact hok
def rl (l:List UInt8) (x:Nat):List UInt8:=l.drop x++l.take x
theorem rl_len (l:List UInt8) (x:Nat):(rl l x).length=l.length:=by
 unfold rl;rw[List.length_append,List.length_drop,List.length_take];omega
theorem rl_get (l:List UInt8) (x i:Nat) (hx:x<l.length) (hi:i<l.length):(rl l x)[i]'(by rw[rl_len];exact hi)=l[(x+i)%l.length]'(Nat.mod_lt _ (by omega)):=by
 unfold rl;by_cases h:x+i<l.length
 ·rw[List.getElem_append_left (by rw[List.length_drop];omega),List.getElem_drop]
  congr 1
  rw[Nat.mod_eq_of_lt h]
 ·rw[List.getElem_append_right (by rw[List.length_drop];omega),List.getElem_take]
  congr 1
  rw[List.length_drop,show x+i=(x+i-l.length)+l.length by omega,Nat.add_mod_right,Nat.mod_eq_of_lt (by omega)];omega
theorem rl_inj {l:List UInt8} {x y:Nat} (hx:x<l.length) (hy:y<l.length) (h:rl l x=rl l y) (i:Nat) (hi:i<l.length):l[(x+i)%l.length]'(Nat.mod_lt _ (by omega))=l[(y+i)%l.length]'(Nat.mod_lt _ (by omega)):=by
 rw[<-rl_get l x i hx hi,<-rl_get l y i hy hi]
 congr 1
def prv (n x:Nat):Nat:=(x+n-1)%n
theorem prv_lt {n x:Nat} (h:0<n):prv n x<n:=Nat.mod_lt _ h
theorem prv_zero {n:Nat} (h:0<n):prv n 0=n-1:=by unfold prv;rw[Nat.zero_add,Nat.mod_eq_of_lt (by omega)]
theorem prv_succ {n x:Nat} (h:x+1<n+1):prv n (x+1)=x%n:=by unfold prv;rw[show x+1+n-1=x+n by omega,Nat.add_mod_right]
theorem prv_next {n x:Nat} (hx:x<n):(prv n x+1)%n=x:=by
 cases x with
 |zero=>rw[prv_zero (by omega),show n-1+1=n by omega,Nat.mod_self]
 |succ x=>rw[prv_succ (by omega),Nat.mod_eq_of_lt (show x<n by omega),Nat.mod_eq_of_lt hx]
theorem rl_prv (l:List UInt8) (x:Nat) (hx:x<l.length):rl l (prv l.length x)=l[prv l.length x]'(prv_lt (by omega)) :: (rl l x).dropLast:=by
 apply List.ext_getElem
 ·rw[rl_len,List.length_cons,List.length_dropLast,rl_len];omega
 ·intro i h1 h2
  rw[rl_len]at h1;rw[rl_get l _ i (prv_lt (by omega)) h1]
  cases i with
  |zero =>
   simp only[List.getElem_cons_zero,Nat.add_zero]
   congr 1
   exact Nat.mod_eq_of_lt (prv_lt (by omega))
  |succ i =>
   rw[List.getElem_cons_succ,List.getElem_dropLast,rl_get l x i hx (by omega)]
   congr 1
   have:=prv_next hx
   rw[show prv l.length x+(i+1)=(prv l.length x+1)+i by omega,Nat.add_mod,this,Nat.mod_eq_of_lt (show i<l.length by omega)]
theorem lt_snoc:∀ (a b:List UInt8) (x y:UInt8),a.length=b.length->a<b->a++[x]<b++[y]
 |[],[],_,_,_,h=>absurd h (List.lt_irrefl _)
 |[],_ :: _,_,_,h,_=>by simp at h
 |_ :: _,[],_,_,h,_=>by simp at h
 |u :: a,v :: b,x,y,hl,h=>by
  rw[List.cons_lt_cons_iff]at h;rw[List.cons_append,List.cons_append,List.cons_lt_cons_iff]
  rcases h with h|⟨h1,h2⟩
  ·exact .inl h
  ·exact .inr ⟨h1,lt_snoc a b x y (by simpa using hl) h2⟩
theorem dropLast_le {a b:List UInt8} (hl:a.length=b.length) (h:¬b<a):¬b.dropLast<a.dropLast:=by
 intro h2;by_cases e:a=[]
 ·subst e
  simp at h2
 ·have e2:b≠[]:=by
   intro eb;subst eb;simp at hl;exact e hl
  apply h
  rw[<-List.dropLast_concat_getLast e,<-List.dropLast_concat_getLast e2];exact lt_snoc _ _ _ _ (by simp;omega) h2
end So
namespace So
open Sh (bt bt_get bt_lt strF strF_size bt_strF strF_congr)
def ch (t:ByteArray) (y:Nat):Nat:=bt t (y%t.size)
theorem bt_list (t:ByteArray) (j:Nat) (h:j<t.data.toList.length):bt t j=(t.data.toList[j]).toNat:=by
 unfold bt;rw[List.getD_eq_getElem?_getD,List.getElem?_eq_getElem h];rfl
theorem size_list (t:ByteArray):t.data.toList.length=t.size:=by simp
theorem ch_of {t:ByteArray} {x y:Nat} (hx:x<t.size) (hy:y<t.size) (h:rl t.data.toList x=rl t.data.toList y) (i:Nat):ch t (x+i)=ch t (y+i):=by
 have e:∀ z,ch t (z+i)=ch t (z+i%t.size):=fun z=>by
  unfold ch;rw[Nat.add_mod_mod]
 have hl:=size_list t;rw[e x,e y];have hi:i%t.size<t.size:=Nat.mod_lt _ (by omega);unfold ch;rw[bt_list t _ (by rw[hl];exact Nat.mod_lt _ (by omega)),bt_list t _ (by rw[hl];exact Nat.mod_lt _ (by omega))]
 have:=rl_inj (by rw[hl];exact hx) (by rw[hl];exact hy) h (i%t.size) (by rw[hl];exact hi)
 simp only[hl]at this;rw[this]
theorem ch_prv (t:ByteArray) (x i:Nat) (hx:x<t.size):ch t (prv t.size x+(i+1))=ch t (x+i):=by
 unfold ch;rw[show prv t.size x+(i+1)=(prv t.size x+1)+i by omega,Nat.add_mod,prv_next hx,Nat.add_mod x i,Nat.mod_eq_of_lt hx]
theorem clT_list (t:ByteArray) (x y:Nat):clT (turnV t) x y=decide (rl t.data.toList x<rl t.data.toList y):=by
 unfold clT;rw[bless_eq,ByteArray.toList_eq,ByteArray.toList_eq,turnV_list,turnV_list];rfl
theorem atK_hit (f:Nat->Nat):∀ n,(∃ k,k<n/\f k=0)->atK f n<n/\f (atK f n)=0:=by
 intro n
 induction n with
 |zero=>rintro⟨k,h,_⟩;omega
 |succ n ih =>
  rintro⟨k,h1,h2⟩;by_cases h0:f n=0
  ·rw[atK,if_pos h0]
   exact⟨by omega,h0⟩
  ·rw[atK,if_neg h0]
   have hk:k<n:=by
    rcases Nat.lt_or_ge k n with h|h
    ·exact h
    ·have:k=n:=by omega
     subst this;exact absurd h2 h0
   have:=ih ⟨k,hk,h2⟩
   exact⟨by omega,this.2⟩
theorem ord_len (t:ByteArray):(ord t).length=t.size:=by
 have:=(ord_ex t).1.length_eq
 simpa using this
theorem ord_map (t:ByteArray):(List.range t.size).map (ordF t)=ord t:=by
 apply List.ext_getElem
 ·simp[ord_len]
 ·intro i h1 h2
  rw[List.getElem_map,List.getElem_range,ordF_list (ord_ex t) i h2]
theorem ordF_lt (t:ByteArray) (j:Nat) (hj:j<t.size):ordF t j<t.size:=by
 have hl:j<(ord t).length:=by rw[ord_len];exact hj
 rw[ordF_list (ord_ex t) j hl]
 have:=(ord_ex t).1.mem_iff.1 (List.getElem_mem hl)
 simpa using this
theorem prv_perm (n:Nat):((List.range n).map (prv n)).Perm (List.range n):=by
 refine(List.perm_ext_iff_of_nodup ?_ List.nodup_range).2 fun y=>?_
 ·unfold List.Nodup
  rw[List.pairwise_map];refine List.nodup_range.imp_of_mem fun {x y} hx hy hne e=>hne ?_;have h1:=prv_next (List.mem_range.1 hx);have h2:=prv_next (List.mem_range.1 hy);rw[e]at h1;omega
 ·rw[List.mem_map,List.mem_range]
  constructor
  ·rintro⟨x,hx,rfl⟩
   exact prv_lt (by have:=List.mem_range.1 hx;omega)
  ·intro hy
   by_cases h:y+1<n
   ·exact⟨y+1,List.mem_range.2 h,by rw[prv_succ (by omega),Nat.mod_eq_of_lt hy]⟩
   ·exact⟨0,List.mem_range.2 (by omega),by rw[prv_zero (by omega)];omega⟩
theorem bwtT_size {t:ByteArray} (ht:t.size<=48):(bwtT t).size=t.size:=by
 unfold bwtT;rw[if_pos ht,strF_size]
theorem bwtT_bt {t:ByteArray} (ht:t.size<=48) (j:Nat) (hj:j<t.size):bt (bwtT t) j=bt t (prv t.size (ordF t j)):=by
 unfold bwtT;rw[if_pos ht,bt_strF t.size (fun j=>lastB t (ordF t j)) j hj (bt_lt _ _)];rfl
theorem lt_not {a b:List UInt8} (h:a<b):¬b<a:=fun h2=>List.lt_irrefl _ (List.lt_trans h h2)
theorem ord_le {t:ByteArray} {j j':Nat} (h:j<j') (hj:j' < t.size):¬rl t.data.toList (ordF t j')<rl t.data.toList (ordF t j):=by
 have h1:j<(ord t).length:=by rw[ord_len];omega
 have h2:j' < (ord t).length:=by rw[ord_len];omega
 have:=List.pairwise_iff_getElem.1 (ord_ex t).2 j j' h1 h2 h
 rw[<-ordF_list (ord_ex t) j h1,<-ordF_list (ord_ex t) j' h2]at this
 rcases this with e|⟨e,_⟩
 ·rw[clT_list]at e
  exact lt_not (of_decide_eq_true e)
 ·rw[clT_list]at e
  exact of_decide_eq_false e
theorem step {t:ByteArray} (ht:t.size<=48) (j:Nat) (hj:j<t.size):rl t.data.toList (prv t.size (ordF t (plF (bwtT t) j)))=rl t.data.toList (ordF t j):=by
 have hl:=size_list t;have hs:=bwtT_size ht
 have hn:0<t.size:=by omega
 have hb:∀ x,x<t.size->∀ (h:prv t.size (ordF t x)<t.data.toList.length),bt (bwtT t) x=(t.data.toList[prv t.size (ordF t x)]).toNat:=fun x hx h=>by
  rw[bwtT_bt ht x hx,bt_list t _ h]
 have hrp:∀ x,x<t.size->rl t.data.toList (prv t.size (ordF t x))=t.data.toList[prv t.size (ordF t x)]'(by rw[hl];exact prv_lt hn) :: (rl t.data.toList (ordF t x)).dropLast:=fun x hx=>by
  have:=rl_prv t.data.toList (ordF t x) (by rw[hl];exact ordF_lt t x hx)
  simp only[hl]at this;exact this
 have hA:((pl (bwtT t)).map fun j=>rl t.data.toList (prv t.size (ordF t j))).Pairwise (fun a b=>¬b<a):=by
  rw[List.pairwise_map];refine(pl_ok (bwtT t)).2.imp_of_mem fun {x y} hx hy hxy=>?_
  have hx':x<t.size:=by
   have:=(pl_ok (bwtT t)).1.mem_iff.1 hx
   rw[hs]at this
   simpa using this
  have hy':y<t.size:=by
   have:=(pl_ok (bwtT t)).1.mem_iff.1 hy
   rw[hs]at this
   simpa using this
  rw[hrp x hx',hrp y hy'];intro hlt;rw[List.cons_lt_cons_iff]at hlt;have bx:=hb x hx' (by rw[hl];exact prv_lt hn);have byy:=hb y hy' (by rw[hl];exact prv_lt hn)
  rcases hxy with e|⟨e,hlt2⟩
  ·have e2:bt (bwtT t) x<bt (bwtT t) y:=of_decide_eq_true e
   rw[bx,byy]at e2
   rcases hlt with h|⟨h,_⟩
   ·have:(t.data.toList[prv t.size (ordF t y)]'(by rw[hl];exact prv_lt hn)).toNat<(t.data.toList[prv t.size (ordF t x)]'(by rw[hl];exact prv_lt hn)).toNat:=h
    omega
   ·rw[h]at e2
    omega
  ·have e2:¬bt (bwtT t) y<bt (bwtT t) x:=of_decide_eq_false e
   rw[bx,byy]at e2
   rcases hlt with h|⟨_,h⟩
   ·exact e2 h
   ·exact dropLast_le (by rw[rl_len,rl_len]) (ord_le hlt2 hy') h
 have hB:((ord t).map (rl t.data.toList)).Pairwise (fun a b=>¬b<a):=by
  rw[List.pairwise_map];refine(ord_ex t).2.imp fun {x y} h=>?_
  rcases h with e|⟨e,_⟩
  ·rw[clT_list]at e
   exact lt_not (of_decide_eq_true e)
  ·rw[clT_list]at e
   exact of_decide_eq_false e
 have hP:((pl (bwtT t)).map fun j=>rl t.data.toList (prv t.size (ordF t j))).Perm ((ord t).map (rl t.data.toList)):=by
  have h1:((pl (bwtT t)).map fun j=>prv t.size (ordF t j)).Perm ((List.range t.size).map fun j=>prv t.size (ordF t j)):=by
   have:=(pl_ok (bwtT t)).1
   rw[hs]at this;exact this.map _
  have h2:((List.range t.size).map fun j=>prv t.size (ordF t j))=(ord t).map (prv t.size):=by
   rw[<-ord_map t,List.map_map];rfl
  rw[h2]at h1;have h3:=(h1.trans ((ord_ex t).1.map (prv t.size))).trans ((prv_perm t.size).trans (ord_ex t).1.symm);have h4:=h3.map (rl t.data.toList);rw[List.map_map]at h4;exact h4
 have hE:((pl (bwtT t)).map fun j=>rl t.data.toList (prv t.size (ordF t j)))=(ord t).map (rl t.data.toList):=by
  refine List.Perm.eq_of_pairwise ?_ hA hB hP;intro a b _ _ h1 h2;exact List.le_antisymm (show a<=b from h1) (show b<=a from h2)
 have hlp:j<(pl (bwtT t)).length:=by rw[pl_len,hs];exact hj
 have hlo:j<(ord t).length:=by rw[ord_len];exact hj
 have h5:((pl (bwtT t)).map fun j=>rl t.data.toList (prv t.size (ordF t j)))[j]'(by simpa using hlp)=((ord t).map (rl t.data.toList))[j]'(by simpa using hlo):=by
  simp only[hE]
 rw[List.getElem_map,List.getElem_map,plF_get _ j hlp,<-ordF_list (ord_ex t) j hlo]at h5;exact h5
theorem strF_bt (t:ByteArray):strF t.size (bt t)=t:=by
 have:((List.range t.size).map fun j=>UInt8.ofNat (bt t j))=t.data.toList:=by
  apply List.ext_getElem
  ·simp
  ·intro i h1 h2
   rw[List.getElem_map,List.getElem_range,bt_list t i h2];simp
 unfold strF;rw[this]
theorem back_bwt {t:ByteArray} (ht:t.size<=48):backT (bwtT t) (bwtA t)=t:=by
 have hs:=bwtT_size ht;unfold backT;rw[hs];refine Eq.trans (strF_congr _ _ _ fun k hk=>?_) (strF_bt t)
 have hn:0<t.size:=by omega
 have hat:bwtA t<t.size/\ordF t (bwtA t)=0:=by
  unfold bwtA;rw[if_pos ht]
  apply atK_hit
  have h0:0∈ord t:=(ord_ex t).1.mem_iff.2 (List.mem_range.2 hn);obtain⟨i,hi,e⟩:=List.getElem_of_mem h0;exact⟨i,by rw[<-ord_len];exact hi,by rw[ordF_list (ord_ex t) i hi];exact e⟩
 have hlt:∀ k,itR (bwtT t) (bwtA t) k<t.size:=fun k=>by
  have:=itR_lt (bwtT t) (bwtA t) k (by rw[hs];exact hat.1)
  rw[hs]at this;exact this
 have hst:∀ j,j<t.size->∀ i,ch t (prv t.size (ordF t (plF (bwtT t) j))+i)=ch t (ordF t j+i):=fun j hj i=>by
  have hq:plF (bwtT t) j<t.size:=by
   have:=plF_lt (bwtT t) j (by rw[hs];exact hj)
   rw[hs]at this;exact this
  exact ch_of (prv_lt hn) (ordF_lt t j hj) (step ht j hj) i
 have inv:∀ k,∀ i,ch t (ordF t (itR (bwtT t) (bwtA t) k)+i)=ch t (k+i):=by
  intro k
  induction k with
  |zero =>
   intro i
   show ch t (ordF t (bwtA t)+i)=_
   rw[hat.2]
  |succ k ih =>
   intro i;have h1:=hst (itR (bwtT t) (bwtA t) k) (hlt k) (i+1);rw[ch_prv t (ordF t (plF (bwtT t) (itR (bwtT t) (bwtA t) k))) i (ordF_lt t _ (hlt (k+1))),ih (i+1)]at h1;rw[show k+1+i=k+(i+1) by omega];exact h1
 rw[bwtT_bt ht _ (hlt (k+1))];have h1:=hst (itR (bwtT t) (bwtA t) k) (hlt k) 0;rw[inv k 0]at h1;simp only[Nat.add_zero]at h1;unfold ch at h1;rw[Nat.mod_eq_of_lt hk,Nat.mod_eq_of_lt (prv_lt hn)]at h1;exact h1
theorem unR_bwt {t:ByteArray} (ht:t.size<=48):unR (bwtT t) ((bwtA t:Nat):Int)=tOut t 0 0:=by
 have hb:=back_bwt ht;have hs:=bwtT_size ht
 have ha:bwtA t<=t.size:=by unfold bwtA;rw[if_pos ht];exact atK_le _ _
 have hlt:bwtA t<(bwtT t).size∨bwtA t=0:=by
  rw[hs];by_cases h0:t.size=0
  ·right;omega
  ·left
   unfold bwtA;rw[if_pos ht];refine(atK_hit _ _ ?_).1;have h0:0∈ord t:=(ord_ex t).1.mem_iff.2 (List.mem_range.2 (by omega));obtain⟨i,hi,e⟩:=List.getElem_of_mem h0;exact⟨i,by rw[<-ord_len];exact hi,by rw[ordF_list (ord_ex t) i hi];exact e⟩
 rw[unR_yes (by omega) hlt (by rw[hb];exact⟨rfl,rfl⟩),hb]
end So
namespace Bi
open In (Ints)
def sumR (l:List Int):Int × Int:=if right l=true then ((csum l:Nat),(above l:Nat)) else (-1,0)
theorem whole_yes1 {l:List Int} (h:right l=true) (h1:csum l=4096):whole l=true:=by unfold whole;rw[h,decide_eq_true h1];rfl
theorem whole_yes2 {l:List Int} (h:right l=true) (h1:above l=1) (h2:csum l=2048):whole l=true:=by unfold whole;rw[h,decide_eq_true h1,decide_eq_true h2];simp
theorem whole_no1 {l:List Int} (h1:¬csum l=4096) (h2:¬above l=1):whole l=false:=by unfold whole;rw[decide_eq_false h1,decide_eq_false h2];simp
theorem whole_no2 {l:List Int} (h1:¬csum l=4096) (h2:¬csum l=2048):whole l=false:=by unfold whole;rw[decide_eq_false h1,decide_eq_false h2];simp
theorem whole_impl (l:List Int) (a:Option Addr) (cap B:Nat) (w:World) (hi:Ints w B a l) (hn:l.length<=1048576) :
  Calls prog 132 #[.slice a l.length cap] w fun e w'=>e=.returned (.bool (whole l))/\w'=w:=by
 have HR:=hideB (right_impl l a cap B w hi hn);have HC:=hideB (count_impl l a cap B w hi hn);have HK:=hideB (contains_impl l 1 a cap B w hi hn)
 cases hr:right l with
 |false =>
  have HE:=hideB (whole_no hr);rw[hr]at HR;clear hi;generalize l.length=n at HR hn ⊢;generalize whole l=wl at HE ⊢;go_enter func132,ntmps132
  go_wp2_with fail
  refine HR.o.mono ?_;rintro e w' ⟨rfl,hw⟩;subst w'
  go_wp2_with fail
  go_ret;exact⟨ret_boolB HE.o.symm,rfl⟩
 |true =>
  have HS:=hideB (sum_impl l a cap B w hi (right_yes hr).1);rw[hr]at HR;clear hi;by_cases h2:above l=1
  ·rw[alone l h2]at HK
   rw[h2]at HC;by_cases h3:csum l=2048
   ·have HE:=hideB (whole_yes2 hr h2 h3)
    rw[decide_eq_true h3]at HK;generalize l.length=n at HR HC HK HS hn ⊢;generalize whole l=wl at HE ⊢;clear h2 h3 hr HS;go_enter func132,ntmps132;(go_wp2_with fail);refine HR.o.mono ?_;rintro e w' ⟨rfl,hw⟩;subst w';(go_wp2_with fail);refine HC.o.mono ?_;rintro e w' ⟨rfl,hw⟩;subst w';(go_wp2_with fail);refine HK.o.mono ?_;rintro e w' ⟨rfl,hw⟩;subst w';(go_wp2_with fail);go_ret;exact⟨ret_boolB HE.o.symm,rfl⟩
   ·have HE:Hid (whole l=decide (csum l=4096)):=by
     unfold Hid;by_cases h4:csum l=4096
     ·rw[whole_yes1 hr h4,decide_eq_true h4]
     ·rw[whole_no2 h4 h3,decide_eq_false h4]
    rw[decide_eq_false h3]at HK
    have HD:Hid (((((csum l:Nat):Int))==4096)=decide (csum l=4096)):=by
     unfold Hid;rw[Bool.eq_iff_iff];simp;omega
    generalize decide (csum l=4096)=dc at HE HD;generalize l.length=n at HR HC HK HS hn ⊢;generalize whole l=wl at HE ⊢;generalize csum l=cs at HS HD;clear h2 h3 hr;go_enter func132,ntmps132;(go_wp2_with fail);refine HR.o.mono ?_;rintro e w' ⟨rfl,hw⟩;subst w';(go_wp2_with fail);refine HC.o.mono ?_;rintro e w' ⟨rfl,hw⟩;subst w';(go_wp2_with fail);refine HK.o.mono ?_;rintro e w' ⟨rfl,hw⟩;subst w';(go_wp2_with fail);refine HS.o.mono ?_;rintro e w' ⟨rfl,hw⟩;subst w';(go_wp2_with fail);go_ret;exact⟨ret_boolB (HD.o.trans HE.o.symm),rfl⟩
  ·have HE:Hid (whole l=decide (csum l=4096)):=by
    unfold Hid;by_cases h4:csum l=4096
    ·rw[whole_yes1 hr h4,decide_eq_true h4]
    ·rw[whole_no1 h4 h2,decide_eq_false h4]
   have g2:(((above l:Nat):Int)==1)=false:=beq_eq_false_iff_ne.2 (by omega)
   have HD:Hid (((((csum l:Nat):Int))==4096)=decide (csum l=4096)):=by
    unfold Hid;rw[Bool.eq_iff_iff];simp;omega
   generalize decide (csum l=4096)=dc at HE HD;generalize l.length=n at HR HC HK HS hn ⊢;generalize whole l=wl at HE ⊢;generalize csum l=cs at HS HD;generalize above l=ab at HC g2;clear h2 hr HK;go_enter func132,ntmps132
   go_wp2_with fail
   refine HR.o.mono ?_;rintro e w' ⟨rfl,hw⟩;subst w'
   go_wp2_with fail
   refine HC.o.mono ?_;rintro e w' ⟨rfl,hw⟩;subst w'
   go_wp2_with fail
   refine HS.o.mono ?_;rintro e w' ⟨rfl,hw⟩;subst w'
   go_wp2_with fail
   go_ret;exact⟨ret_boolB (HD.o.trans HE.o.symm),rfl⟩
end Bi
namespace St
def OwnIn (w:World) (lo hi:Nat) (v:Value) (l:List ByteArray):Prop :=
 (v=.slice none 0 0/\l=[])∨∃ g cap,v=.slice (some ⟨g,0,none⟩) l.length cap/\lo<=g/\g<hi/\IsO w g 9 l
def Marked (w:World) (lo hi:Nat) (v:Value) (n:Nat):Prop:=OwnIn w lo hi v (marks 1 n)
end St
namespace Bi
open In (Ints)
open St (IsS made_strs OwnIn IsO)
open St.Tryz (infoS9)
theorem below2 {w w1 w2:World} (h:Below w.heap.size w w1) (h2:Below w1.heap.size w1 w2):Below w.heap.size w w2:=h.trans (h2.mono h.size)
theorem codes_spec (l:List Int) (a:Option Addr) (cap B:Nat) (w:World) (hi:Ints w B a l) (hB:B<=w.heap.size) (hr:right l=true) :
  Calls prog 141 #[.slice a l.length cap] w fun e w'=>e=.returned (.slice (some ⟨w.heap.size,0,none⟩) l.length l.length)/\IsS w' w.heap.size 9 (codesV l)/\Below w.heap.size w w':=by
 obtain⟨i0,hi0,hz0,hz1,hz2⟩:=info_parts infoS9;have HS:=hideB (hi.mono hB);have HCS:=hideB (right_yes hr).2;have hn:=(within_yes (right_yes hr).1).1;clear hi hr;obtain⟨n,hln⟩:∃ n,n=l.length:=⟨_,rfl⟩;have HLN:=hideB hln;rw[<-hln]at hn ⊢;clear hln;go_enter func141,ntmps141
 go_wp2_with (at_make;refine wpList_make_full _ rfl (.tmp 8) (.tmp 8) 31 rfl w.heap.size 9 i0 (.string ⟨#[]⟩) 1 underlying31 hi0 hz0 hz1 .i64 .i64 _ _ n rfl rfl (by simp) (by simp) (by rw[hz2];omega) (by unfold maxLen;omega) nl ?_;intro w1 hown1 hgrow1;have HR:=hideB (made_strs hown1);have HB:=hideB ((Below.refl w.heap.size w).grown hgrow1 nl (by simp));clear hown1 hgrow1)
 go_loopw [5,4] (fun i m wr=>∃ v:Nat,i=.int .i64 ((v:Int)+1)/\m=.int .i64 (outN l v:Nat)/\v<=12/\IsS wr w.heap.size 9 (outO l v)/\Below w.heap.size w wr) (fun i _ _=>13-(intOf i).toNat)
 case atStart=>exact⟨0,rfl,rfl,by omega,by simp only[outO];rw[<-HLN.o];exact HR.o,HB.o⟩
 case round =>
  obtain⟨v,rfl,rfl,hv,h1,hbel⟩:=hrel;have G1:=hideB h1;have GB:=hideB hbel;clear h1 hbel;have ho:=out_small HCS.o hv;have HOL:=hideB (outO_length l v);by_cases hv12:v<12
  ·have HN0:Hid (innN l (v+1) (2*outN l v) 0=2*outN l v):=innN_zero l (v+1) (2*outN l v)
   have HNA:=hideB (innN_all l v);have HNL:=hideB (innN_le l (v+1) (2*outN l v));have HNF:=hideB (fun (k:Nat) (hk:k<l.length) (e:l[k]=((v+1:Nat):Int))=>inn_fits HCS.o hv12 hk e);have HNY:=hideB (fun (k:Nat) (hk:k<l.length) (e:l[k]=((v+1:Nat):Int))=>innN_yes (n0:=2*outN l v) hk e);have HNN:=hideB (fun (k:Nat) (hk:k<l.length) (e:¬l[k]=((v+1:Nat):Int))=>innN_no (n0:=2*outN l v) hk e);have HOY:=hideB (fun (k:Nat) (hk:k<l.length) (e:l[k]=((v+1:Nat):Int))=>innO_yes (n0:=2*outN l v) (o:=outO l v) hk e);have HON:=hideB (fun (k:Nat) (hk:k<l.length) (e:¬l[k]=((v+1:Nat):Int))=>innO_no (n0:=2*outN l v) (o:=outO l v) hk e);have HOO:Hid (innO l (v+1) (2*outN l v) (outO l v) l.length=outO l (v+1)):=rfl;have HIL:=hideB (innO_length l (v+1) (2*outN l v) (outO l v))
   have hpw:2 ^ (v+1)<=4096:=by
    have:=Nat.pow_le_pow_right (n:=2) (by decide) (show v+1<=12 by omega)
    omega
   have HPW:Hid (∀ x:Nat,x<2 ^ (v+1)->x<4096):=fun x hx=>by omega
   clear hpw;generalize outN l v=no at ho HN0 HNA HNL HNF HNY HNN HOY HON HOO HIL
   have hv13:(v:Int)+1<=12:=by omega
   go_wp2_with fail
   go_loopw [6,4] (fun i m wr2=>∃ k q:Nat,i=.int .i64 k/\m=.int .i64 q/\q=innN l (v+1) (2*no) k/\k<=n/\IsS wr2 w.heap.size 9 (innO l (v+1) (2*no) (outO l v) k)/\Below w.heap.size w wr2) (fun i _ _=>n-(intOf i).toNat)
   case atStart=>exact⟨0,2*no,rfl,by go_num,HN0.o.symm,by omega,G1.o,GB.o⟩
   case round =>
    obtain⟨k,q,rfl,rfl,hq,hk,h2,hbel2⟩:=hrel;have G2:=hideB h2;have GB2:=hideB hbel2;have HQ:=hideB hq;clear h2 hbel2 hq;by_cases hlt:k<n
    ·have hkl:k<l.length:=by rw[<-HLN.o];exact hlt
     obtain⟨b,off,rfl,hb,hc⟩:=(HS.o.below GB2.o).some (by omega);have ci:=hc k hkl
     have hqb:q<=2*no+257:=by
      have:=HNL.o k
      rw[<-HQ.o,<-HLN.o]at this;omega
     obtain⟨x,hx⟩:∃ x,x=l[k]:=⟨_,rfl⟩;have HX:=hideB hx;rw[<-hx]at ci;clear hc hx;by_cases e:x=(v:Int)+1
     ·have hb1:(x==(v:Int)+1)=true:=beq_iff_eq.2 e
      have HXE:Hid (l[k]=((v+1:Nat):Int)):=by
       unfold Hid;rw[<-HX.o,e];rfl
      have HF:Hid (q<2 ^ (v+1)):=by
       unfold Hid;rw[HQ.o];exact HNF.o k hkl HXE.o
      have hq4:=HPW.o q HF.o
      have HNK:Hid (q+1=innN l (v+1) (2*no) (k+1)):=by
       unfold Hid;rw[HNY.o k hkl HXE.o,HQ.o]
      have HOK:Hid (innO l (v+1) (2*no) (outO l v) (k+1)=(innO l (v+1) (2*no) (outO l v) k).set k (bitsV q (v+1))):=by
       unfold Hid;rw[HOY.o k hkl HXE.o,HQ.o]
      have HBI:=hideB (fun W=>bits_spec q (v+1) W (by omega) (by omega) (by omega));clear e;(go_wp2_with fail);refine(HBI.o _).mono ?_;rintro e w2 ⟨rfl,hb2⟩;have G3:=hideB (G2.o.below hb2 G2.o.lt);have B3:=hideB (below2 GB2.o hb2);have cf:=G3.o.frozen k;obtain⟨v0,ce⟩:∃ v0,w2.cell? ⟨w.heap.size,k,none⟩=some (.string v0):=⟨_,G3.o.cell (j:=k) (by rw[HIL.o,HOL.o];exact hkl)⟩;clear hb2;(go_wp2_with fail)
      go_roundw
      case rel=>exact⟨k+1,q+1,by go_num,by go_num,HNK.o,by omega,by rw[HOK.o];exact G3.o.set k _,B3.o.setCell nl _⟩
      case measure=>simp[intOf];omega
     ·have hb1:(x==(v:Int)+1)=false:=beq_eq_false_iff_ne.2 e
      have HXE:Hid (¬l[k]=((v+1:Nat):Int)):=by
       unfold Hid;rw[<-HX.o];exact e
      have HNK:Hid (q=innN l (v+1) (2*no) (k+1)):=by
       unfold Hid;rw[HNN.o k hkl HXE.o,HQ.o]
      have HOK:Hid (innO l (v+1) (2*no) (outO l v) (k+1)=innO l (v+1) (2*no) (outO l v) k):=HON.o k hkl HXE.o;clear e;(go_wp2_with fail)
      go_roundw
      case rel=>exact⟨k+1,q,by go_num,rfl,HNK.o,by omega,by rw[HOK.o];exact G2.o,GB2.o⟩
      case measure=>simp[intOf];omega
    ·have hkn:k=l.length:=by have:=HLN.o;omega
     have HQE:Hid (q=outN l (v+1)):=by
      unfold Hid;rw[HQ.o,hkn];exact HNA.o
     have HOE:Hid (innO l (v+1) (2*no) (outO l v) k=outO l (v+1)):=by
      unfold Hid;rw[hkn];exact HOO.o
     have hqb:q<=4096:=by
      rw[HQE.o];exact out_small HCS.o (by omega)
     clear hkn;(go_wp2_with fail)
     go_roundw
     case rel=>exact⟨v+1,by go_num,by rw[<-HQE.o],by omega,by rw[<-HOE.o];exact G2.o,GB2.o⟩
     case measure=>simp[intOf];omega
  ·obtain rfl:v=12:=by omega
   go_wp2_with fail
   go_ret;exact⟨rfl,G1.o,GB.o⟩
theorem codes_yes (l:List Int) (a:Option Addr) (cap B:Nat) (w:World) (hi:Ints w B a l) (hB:B<=w.heap.size) (hr:right l=true) :
  Calls prog 133 #[.slice a l.length cap] w fun e w'=>e=.returned (.slice (some ⟨w.heap.size,0,none⟩) l.length l.length)/\IsS w' w.heap.size 9 (codesV l)/\Below w.heap.size w w':=by
 obtain⟨i0,hi0,hz0,hz1,hz2⟩:=info_parts infoS9;have HS:=hideB (hi.mono hB);have HRI:=hideB (right_impl l a cap B w hi (by have:=(within_yes (right_yes hr).1).1;omega));rw[hr]at HRI;have HCS:=hideB (right_yes hr).2;have hn:=(within_yes (right_yes hr).1).1;clear hi hr;obtain⟨n,hln⟩:∃ n,n=l.length:=⟨_,rfl⟩;have HLN:=hideB hln;rw[<-hln]at hn HRI ⊢;clear hln;go_enter func133,ntmps133
 go_wp2_with fail
 refine HRI.o.mono ?_;rintro e w' ⟨rfl,hw⟩;subst w'
 go_wp2_with (at_make;refine wpList_make_full _ rfl (.tmp 12) (.tmp 12) 31 rfl w.heap.size 9 i0 (.string ⟨#[]⟩) 1 underlying31 hi0 hz0 hz1 .i64 .i64 _ _ n rfl rfl (by simp) (by simp) (by rw[hz2];omega) (by unfold maxLen;omega) nl ?_;intro w1 hown1 hgrow1;have HR:=hideB (made_strs hown1);have HB:=hideB ((Below.refl w.heap.size w).grown hgrow1 nl (by simp));clear hown1 hgrow1)
 go_loopw [5,4] (fun i m wr=>∃ v:Nat,i=.int .i64 ((v:Int)+1)/\m=.int .i64 (outN l v:Nat)/\v<=12/\IsS wr w.heap.size 9 (outO l v)/\Below w.heap.size w wr) (fun i _ _=>13-(intOf i).toNat)
 case atStart=>exact⟨0,rfl,rfl,by omega,by simp only[outO];rw[<-HLN.o];exact HR.o,HB.o⟩
 case round =>
  obtain⟨v,rfl,rfl,hv,h1,hbel⟩:=hrel;have G1:=hideB h1;have GB:=hideB hbel;clear h1 hbel;have ho:=out_small HCS.o hv;have HOL:=hideB (outO_length l v);by_cases hv12:v<12
  ·have HN0:Hid (innN l (v+1) (2*outN l v) 0=2*outN l v):=innN_zero l (v+1) (2*outN l v)
   have HNA:=hideB (innN_all l v);have HNL:=hideB (innN_le l (v+1) (2*outN l v));have HNF:=hideB (fun (k:Nat) (hk:k<l.length) (e:l[k]=((v+1:Nat):Int))=>inn_fits HCS.o hv12 hk e);have HNY:=hideB (fun (k:Nat) (hk:k<l.length) (e:l[k]=((v+1:Nat):Int))=>innN_yes (n0:=2*outN l v) hk e);have HNN:=hideB (fun (k:Nat) (hk:k<l.length) (e:¬l[k]=((v+1:Nat):Int))=>innN_no (n0:=2*outN l v) hk e);have HOY:=hideB (fun (k:Nat) (hk:k<l.length) (e:l[k]=((v+1:Nat):Int))=>innO_yes (n0:=2*outN l v) (o:=outO l v) hk e);have HON:=hideB (fun (k:Nat) (hk:k<l.length) (e:¬l[k]=((v+1:Nat):Int))=>innO_no (n0:=2*outN l v) (o:=outO l v) hk e);have HOO:Hid (innO l (v+1) (2*outN l v) (outO l v) l.length=outO l (v+1)):=rfl;have HIL:=hideB (innO_length l (v+1) (2*outN l v) (outO l v))
   have hpw:2 ^ (v+1)<=4096:=by
    have:=Nat.pow_le_pow_right (n:=2) (by decide) (show v+1<=12 by omega)
    omega
   have HPW:Hid (∀ x:Nat,x<2 ^ (v+1)->x<4096):=fun x hx=>by omega
   clear hpw;generalize outN l v=no at ho HN0 HNA HNL HNF HNY HNN HOY HON HOO HIL
   have hv13:(v:Int)+1<=12:=by omega
   go_wp2_with fail
   go_loopw [22,4] (fun i m wr2=>∃ k q:Nat,i=.int .i64 k/\m=.int .i64 q/\q=innN l (v+1) (2*no) k/\k<=n/\IsS wr2 w.heap.size 9 (innO l (v+1) (2*no) (outO l v) k)/\Below w.heap.size w wr2) (fun i _ _=>n-(intOf i).toNat)
   case atStart=>exact⟨0,2*no,rfl,by go_num,HN0.o.symm,by omega,G1.o,GB.o⟩
   case round =>
    obtain⟨k,q,rfl,rfl,hq,hk,h2,hbel2⟩:=hrel;have G2:=hideB h2;have GB2:=hideB hbel2;have HQ:=hideB hq;clear h2 hbel2 hq;by_cases hlt:k<n
    ·have hkl:k<l.length:=by rw[<-HLN.o];exact hlt
     obtain⟨b,off,rfl,hb,hc⟩:=(HS.o.below GB2.o).some (by omega);have ci:=hc k hkl
     have hqb:q<=2*no+257:=by
      have:=HNL.o k
      rw[<-HQ.o,<-HLN.o]at this;omega
     obtain⟨x,hx⟩:∃ x,x=l[k]:=⟨_,rfl⟩;have HX:=hideB hx;rw[<-hx]at ci;clear hc hx;by_cases e:x=(v:Int)+1
     ·have hb1:(x==(v:Int)+1)=true:=beq_iff_eq.2 e
      have HXE:Hid (l[k]=((v+1:Nat):Int)):=by
       unfold Hid;rw[<-HX.o,e];rfl
      have HF:Hid (q<2 ^ (v+1)):=by
       unfold Hid;rw[HQ.o];exact HNF.o k hkl HXE.o
      have hq4:=HPW.o q HF.o
      have HNK:Hid (q+1=innN l (v+1) (2*no) (k+1)):=by
       unfold Hid;rw[HNY.o k hkl HXE.o,HQ.o]
      have HOK:Hid (innO l (v+1) (2*no) (outO l v) (k+1)=(innO l (v+1) (2*no) (outO l v) k).set k (bitsV q (v+1))):=by
       unfold Hid;rw[HOY.o k hkl HXE.o,HQ.o]
      have HBI:=hideB (fun W=>bitsOf_yes q (v+1) W (by omega) (by omega) HF.o);clear e;(go_wp2_with fail);refine(HBI.o _).mono ?_;rintro e w2 ⟨rfl,hb2⟩;have G3:=hideB (G2.o.below hb2 G2.o.lt);have B3:=hideB (below2 GB2.o hb2);have cf:=G3.o.frozen k;obtain⟨v0,ce⟩:∃ v0,w2.cell? ⟨w.heap.size,k,none⟩=some (.string v0):=⟨_,G3.o.cell (j:=k) (by rw[HIL.o,HOL.o];exact hkl)⟩;clear hb2;(go_wp2_with fail)
      go_roundw
      case rel=>exact⟨k+1,q+1,by go_num,by go_num,HNK.o,by omega,by rw[HOK.o];exact G3.o.set k _,B3.o.setCell nl _⟩
      case measure=>simp[intOf];omega
     ·have hb1:(x==(v:Int)+1)=false:=beq_eq_false_iff_ne.2 e
      have HXE:Hid (¬l[k]=((v+1:Nat):Int)):=by
       unfold Hid;rw[<-HX.o];exact e
      have HNK:Hid (q=innN l (v+1) (2*no) (k+1)):=by
       unfold Hid;rw[HNN.o k hkl HXE.o,HQ.o]
      have HOK:Hid (innO l (v+1) (2*no) (outO l v) (k+1)=innO l (v+1) (2*no) (outO l v) k):=HON.o k hkl HXE.o;clear e;(go_wp2_with fail)
      go_roundw
      case rel=>exact⟨k+1,q,by go_num,rfl,HNK.o,by omega,by rw[HOK.o];exact G2.o,GB2.o⟩
      case measure=>simp[intOf];omega
    ·have hkn:k=l.length:=by have:=HLN.o;omega
     have HQE:Hid (q=outN l (v+1)):=by
      unfold Hid;rw[HQ.o,hkn];exact HNA.o
     have HOE:Hid (innO l (v+1) (2*no) (outO l v) k=outO l (v+1)):=by
      unfold Hid;rw[hkn];exact HOO.o
     have hqb:q<=4096:=by
      rw[HQE.o];exact out_small HCS.o (by omega)
     clear hkn;(go_wp2_with fail)
     go_roundw
     case rel=>exact⟨v+1,by go_num,by rw[<-HQE.o],by omega,by rw[<-HOE.o];exact G2.o,GB2.o⟩
     case measure=>simp[intOf];omega
  ·obtain rfl:v=12:=by omega
   go_wp2_with fail
   go_ret;exact⟨rfl,G1.o,GB.o⟩
end Bi
namespace Bi
open In (Ints)
open St (IsS OwnIn IsO)
end Bi
namespace Bi
open In (Ints)
open St (IsS)
open Nu (ret_strJ own_string bv)
theorem nonempty (s:ByteArray) (h:1<=s.size):s.toList.isEmpty=false:=by
 rw[ByteArray.toList_eq]
 cases hd:s.data.toList with
 |nil=>exfalso;have:=congrArg List.length hd;rw[Array.length_toList]at this;exact absurd (show s.size=0 from this) (by omega)
 |cons _ _=>rfl
theorem okS_nat {l:List Int} {i:Nat} (h:i<l.length) (h0:0<l.getD i 0):okS l (i:Int):=⟨by omega,by omega,by simpa using h0⟩
theorem put_yes (l s:List Int) (a a':Option Addr) (cap cap':Nat) (w:World) (hl:Ints w w.heap.size a l) (hs:Ints w w.heap.size a' s) (hm:¬400<s.length) (hw:whole l=true) :
  Calls prog 93 #[.slice a l.length cap,.slice a' s.length cap'] w fun e w'=>e=.returned (.string (putR l s))/\Below w.heap.size w w':=by
 have HW:=hideB (whole_impl l a cap w.heap.size w hl (by have:=whole_len hw;omega));rw[hw]at HW;have HC:=hideB (codes_yes l a cap w.heap.size w hl nl (whole_right hw));have HS:=hideB hs;have HK:=hideB (whole_ok hw);have HWW:=hideB hw;have hn:=whole_len hw;have HCL:=hideB (codesV_length l);have HYES:=hideB (fun (h:∀ x∈s,okS l x)=>putR_yes hm hw h);have HBAD:=hideB (fun (j:Nat) (hj:j<s.length) (h:¬okS l s[j])=>putR_bad hj h);clear hl hs hw;obtain⟨n,hln⟩:∃ n,n=l.length:=⟨_,rfl⟩;obtain⟨m,hms⟩:∃ m,m=s.length:=⟨_,rfl⟩;obtain⟨r,hr⟩:∃ r,r=putR l s:=⟨_,rfl⟩;have HLN:=hideB hln;have HMS:=hideB hms;rw[<-hr]at HYES HBAD ⊢;rw[<-hln]at hn HW HC HCL ⊢;rw[<-hms]at hm ⊢;clear hln hms hr;have hd4:decide ((400:Int)<m)=false:=decide_eq_false (by omega);go_enter func93,ntmps93
 go_wp2_with fail
 refine HW.o.mono ?_;rintro e w' ⟨rfl,hw⟩;subst w'
 go_wp2_with fail
 refine HC.o.mono ?_;rintro e w1 ⟨rfl,hi1,hb1⟩;have X1:=hideB hi1;have B1:=hideB hb1;have z1:w.heap.size<w1.heap.size:=hi1.lt;clear hi1 hb1
 go_wp2_with fail
 go_loopw [21] (fun i wr=>∃ k:Nat,i=.int .i64 k/\k<=m/\(∀ j (hj:j<s.length),j<k->okS l s[j])/\Lib.IsBuilder 83 5 w1.heap.size w1.heap.size (Lib.byteCells (putL l (s.take k))) wr/\Below w1.heap.size w1 wr/\w1.heap.size<=wr.heap.size) (fun i _=>m-(intOf i).toNat)
 case atStart=>exact⟨0,rfl,Nat.zero_le _,fun j hj h0=>absurd h0 (Nat.not_lt_zero j),Lib.fresh_isBuilder _ _ w1,(Below.refl _ _).alloc nl _,by simp⟩
 case round =>
  obtain⟨k,rfl,hk,hall,hbu,hbel,hbz⟩:=hrel;have HA:=hideB hall;have HBU:=hideB hbu;have GB:=hideB hbel;clear hall hbu hbel;by_cases hlt:k<m
  ·have hkl:k<s.length:=by rw[<-HMS.o];exact hlt
   obtain⟨b,off,rfl,hb,hc⟩:=(HS.o.below (B1.o.trans (GB.o.mono (Nat.le_of_lt z1)))).some (by omega);have ci:=hc k hkl;have HM:=hideB (putL_more (l:=l) hkl);have HB1:=hideB (HBAD.o k hkl);obtain⟨x,hx⟩:∃ x,x=s[k]:=⟨_,rfl⟩;have HX:=hideB hx;rw[<-hx]at ci HM HB1;clear hc hx;by_cases h0:x<0
   ·have HE:=hideB (HB1.o (fun h=>by have:=h.1;omega))
    (go_wp2_with fail);go_ret;exact⟨ret_strJ HE.o.symm,B1.o.trans (GB.o.mono (Nat.le_of_lt z1))⟩
   ·have hd0:decide (x<0)=false:=decide_eq_false h0
    obtain⟨i,rfl⟩:∃ i:Nat,x=i:=⟨x.toNat,by omega⟩;by_cases h1:n<=i
    ·have HE:=hideB (HB1.o (fun h=>by have:=h.2.1;have:=HLN.o;omega))
     have hge:(n:Int)<=i:=by omega
     (go_wp2_with fail);go_ret;exact⟨ret_strJ HE.o.symm,B1.o.trans (GB.o.mono (Nat.le_of_lt z1))⟩
    ·have hd1:decide ((n:Int)<=i)=false:=decide_eq_false (by omega)
     have hil:i<l.length:=by rw[<-HLN.o];omega
     have hin:i<n:=by omega
     have hiv:i<(codesV l).length:=by rw[HCL.o];omega
     have cc:=(X1.o.below GB.o z1).cell hiv;rw[codes_get l HK.o i hiv]at cc;have HCO:=hideB (codeOf_none l i);have HOK:=hideB (okS_nat hil);have hcl:=codeOf_le l HK.o i;obtain⟨c,hcc⟩:∃ c,c=codeOf l i:=⟨_,rfl⟩;have HCC:=hideB hcc;rw[<-hcc]at cc HCO hcl;clear hcc;by_cases hp:0<l.getD i 0
     ·have hne:c.toList.isEmpty=false:=nonempty c (by rw[HCC.o,codeOf_size];omega)
      have HOK2:=hideB (HOK.o hp)
      have HLE:Hid ((Lib.byteCells (putL l (s.take k))).length+c.size<=140737488355328):=by
       unfold Hid;have h1:=putL_le l HK.o (s.take k);rw[List.length_take]at h1;rw[Lib.byteCells_length];omega
      have HNX:Hid (Lib.byteCells (putL l (s.take k))++Lib.strCells c=Lib.byteCells (putL l (s.take (k+1)))):=by
       unfold Hid;rw[HM.o,Lib.byteCells_append,Lib.strCells_eq,HCC.o];rfl
      have HWR:=hideB (Sb.write_any w1.heap.size w1.heap.size _ c wr HBU.o HLE.o hbz);clear hp hcl;(go_wp2_with fail);refine HWR.o.mono ?_;rintro e w2 ⟨rfl,hbt,hb2⟩;rw[HNX.o]at hbt;have HBT:=hideB hbt;have B2:=hideB (GB.o.trans hb2);have z2:=hb2.size;clear hbt hb2;(go_wp2_with fail)
      go_roundw
      case rel =>
       refine⟨k+1,by go_num,by omega,fun j hj hjk=>?_,Or.inr HBT.o,B2.o,by omega⟩;by_cases e:j=k
       ·subst e
        rw[<-HX.o];exact HOK2.o
       ·exact HA.o j hj (by omega)
      case measure=>simp[intOf];omega
     ·have hce:=HCO.o hp
      have HE:=hideB (HB1.o (fun h=>hp (by simpa using h.2.2)));subst hce;clear hp hcl;(go_wp2_with fail);go_ret;exact⟨ret_strJ HE.o.symm,B1.o.trans (GB.o.mono (Nat.le_of_lt z1))⟩
  ·have HE:Hid (r=⟨(putL l (s.take k)).toArray⟩):=by
    unfold Hid;rw[List.take_of_length_le (by have:=HMS.o;omega)]
    exact HYES.o (fun x hx=>by
     obtain⟨j,hj,rfl⟩:=List.getElem_of_mem hx
     exact HA.o j hj (by have:=HMS.o;omega))
   have HST:=hideB (Sb.string_any w1.heap.size w1.heap.size _ wr HBU.o hbz)
   go_wp2_with fail
   refine HST.o.mono ?_;rintro e w2 ⟨rfl,hb2⟩;have B2:=hideB (GB.o.trans hb2);clear hb2
   go_wp2_with fail
   go_ret;exact⟨ret_strJ HE.o.symm,B1.o.trans (B2.o.mono (Nat.le_of_lt z1))⟩
theorem put_impl (l s:List Int) (a a':Option Addr) (cap cap':Nat) (w:World) (hl:Ints w w.heap.size a l) (hs:Ints w w.heap.size a' s) (hn:l.length<=1048576) (hm:s.length<=1048576) :
  Calls prog 93 #[.slice a l.length cap,.slice a' s.length cap'] w fun e w'=>e=.returned (.string (putR l s))/\Below w.heap.size w w':=by
 by_cases h4:400<s.length
 ·have HE:=hideB (putR_no (l:=l) (Or.inl h4))
  generalize putR l s=r at HE ⊢;clear hl hs;generalize s.length=m at h4 hm ⊢;generalize l.length=n at hn ⊢;go_enter func93,ntmps93
  go_wp2_with fail
  go_ret;exact⟨ret_strJ HE.o.symm,Below.refl _ _⟩
 ·cases hw:whole l with
  |true=>exact put_yes l s a a' cap cap' w hl hs h4 hw
  |false =>
   have HE:=hideB (putR_no (s:=s) (Or.inr hw));have HW:=hideB (whole_impl l a cap w.heap.size w hl hn);rw[hw]at HW;have hd4:decide ((400:Int)<s.length)=false:=decide_eq_false (by omega);generalize putR l s=r at HE ⊢;clear hl hs hw;generalize s.length=m at h4 hm hd4 ⊢;generalize l.length=n at hn HW ⊢;go_enter func93,ntmps93
   go_wp2_with fail
   refine HW.o.mono ?_;rintro e w' ⟨rfl,hw⟩;subst w'
   go_wp2_with fail
   go_ret;exact⟨ret_strJ HE.o.symm,Below.refl _ _⟩
end Bi
namespace Bi
open Go.RowKit Go.Maps
open Go.WideMaps (keyOf_string_mk string_of_keyOf)
open In (Ints)
open St (IsS)
open Nu (ret_strJ)
abbrev DU:=DataW Unit
theorem _root_.Go.Proofs.YtbdcffjcogglbaaGreatDoor.St.IsS.of_heapS {w w':World} {g t:Nat} {l:List ByteArray} (h:IsS w g t l) (e:w'.heap[g]? = w.heap[g]?):IsS w' g t l:=by
 unfold IsS;rw[e];exact h
theorem lawS:Keyed prog 9:=string_keyed underlying9
theorem zeroI (w:World):(zeroValue 2).run prog w=.ok (.int .i64 0) w:=by kernel_rfl
def kl (c:ByteArray):Lit:=.string c.data.toList
theorem kl_inj {c d:ByteArray} (h:kl c=kl d):c=d:=by
 unfold kl at h
 have:c.data.toList=d.data.toList:=by simpa using h
 have h2:c.data=d.data:=Array.toList_inj.1 this
 cases c;cases d;simp at h2;rw[h2]
def CM (l:List Int) (D:DU) (k:Nat):Prop :=
 (∀ z,Maps.has D z=true↔∃ i,i<k/\i<l.length/\0<l.getD i 0/\z=kl (codeOf l i)) /\
 (∀ i,i<k->i<l.length->0<l.getD i 0->∀ z,D.atKey (kl (codeOf l i)) z=.lit (.int .i64 (i:Int)))
theorem CM.start (l:List Int):CM l (.map []) 0:=by
 refine⟨fun z=>⟨fun h=>?_,fun ⟨i,hi,_⟩=>absurd hi (Nat.not_lt_zero i)⟩,fun i hi=>absurd hi (Nat.not_lt_zero i)⟩;simp[Maps.has]at h
theorem CM.skip {l:List Int} {D:DU} {k:Nat} (h:CM l D k) (h0:¬0<l.getD k 0):CM l D (k+1):=by
 refine⟨fun z=>(h.1 z).trans ⟨fun ⟨i,a,b⟩=>⟨i,by omega,b⟩,fun ⟨i,a,b,c,d⟩=>⟨i,?_,b,c,d⟩⟩,fun i hi=>?_⟩
 ·by_cases e:i=k
  ·subst e;exact absurd c h0
  ·omega
 ·intro hl hp
  by_cases e:i=k
  ·subst e;exact absurd hp h0
  ·exact h.2 i (by omega) hl hp
theorem code_ne {l:List Int} (hr:csum l<=4096) (hok:∀ x∈l,0<=x/\x<=12) {i j:Nat} (hi:i<l.length) (hj:j<l.length) (h0:0<l.getD i 0) (h0':0<l.getD j 0) (h:codeOf l i=codeOf l j):i=j:=by
 have hs:(codeOf l i).size=wd l i:=codeOf_size l i;have hs':(codeOf l j).size=wd l j:=codeOf_size l j;have m1:mt l (codeOf l i) i:=⟨hi,h0,by omega,by rw[<-hs];exact ByteArray.extract_zero_size⟩;have m2:mt l (codeOf l i) j:=⟨hj,h0',by rw[h];omega,by rw[h,<-hs'];exact ByteArray.extract_zero_size⟩;exact mt_one hr hok m1 m2
theorem CM.put {l:List Int} {D:DU} {k:Nat} (h:CM l D k) (hD:IsMap D) (hr:csum l<=4096) (hok:∀ x∈l,0<=x/\x<=12) (hk:k<l.length) (h0:0<l.getD k 0):CM l (D.put (kl (codeOf l k)) (.lit (.int .i64 (k:Int)))) (k+1):=by
 have hK:WideAt.IsKeyLit (kl (codeOf l k)):=trivial;refine⟨fun z=>?_,fun i hi hl hp z=>?_⟩
 ·by_cases e:z=kl (codeOf l k)
  ·subst e
   rw[has_put_same hD hK];exact⟨fun _=>⟨k,by omega,hk,h0,rfl⟩,fun _=>rfl⟩
  ·rw[has_put_other e,h.1 z]
   refine⟨fun ⟨i,a,b⟩=>⟨i,by omega,b⟩,fun ⟨i,a,b,c,d⟩=>⟨i,?_,b,c,d⟩⟩;by_cases e2:i=k
   ·subst e2;exact absurd d e
   ·omega
 ·by_cases e:i=k
  ·subst e
   exact atKey_put_same hD hK _ _
  ·have hne:kl (codeOf l i)≠kl (codeOf l k):=fun x=>e (code_ne hr hok hl hk hp h0 (kl_inj x))
   rw[atKey_put_other hne];exact h.2 i (by omega) hl hp z
theorem symbols_any (l:List Int) (a:Option Addr) (cap:Nat) (w:World) (hl:Ints w w.heap.size a l) (hr:right l=true) :
  Calls prog 199 #[.slice a l.length cap] w fun e w'=>∃ D:DU,e=.returned (.map (some w.heap.size))/\w'.ownsMap prog 9 (plainElem prog 2) w.heap.size l.length D/\CM l D l.length/\Below w.heap.size w w':=by
 have hok:=(within_yes (right_yes hr).1).2;have hcs:=(right_yes hr).2;have hn:=(within_yes (right_yes hr).1).1;have HC:=hideB (codes_yes l a cap w.heap.size (w.alloc (.map #[] 0)) (hl.below ((Below.refl _ _).alloc nl _)) (by simp) hr);have HK:=hideB hok;have HS:=hideB hcs;have HCL:=hideB (codesV_length l);clear hl hr hok hcs;obtain⟨n,hln⟩:∃ n,n=l.length:=⟨_,rfl⟩;have HLN:=hideB hln;rw[<-hln]at hn HC HCL ⊢;clear hln;have hmm:=@run_makeMap prog;go_enter func199,ntmps199
 go_wp2_with fail
 refine HC.o.mono ?_;rintro e w1 ⟨rfl,hi1,hb1⟩
 have z0:(w.alloc (.map #[] 0)).heap.size=w.heap.size+1:=by simp
 rw[z0]at hi1 hb1;have X1:=hideB hi1;have M1:=hideB (show w1.ownsMap prog 9 (plainElem (H:=Unit) prog 2) w.heap.size 0 (.map []) from World.ownsMap.kept (World.ownsMap_made w _ _ _) (row:=none) ⟨hb1.os,hb1.tape,hb1.output,hb1.size,fun i hi _=>hb1.block i (by rw[z0]at hi;exact hi)⟩ (by simp));have B1:=hideB (Below.trans ((Below.refl w.heap.size w).alloc nl (.map #[] 0)) (hb1.mono (Nat.le_succ _)));have z1:w.heap.size+1<w1.heap.size:=hi1.lt;rw[z0];clear hi1 hb1 z0 hmm
 go_wp2_with fail
 go_loopw [10] (fun i wr=>∃ (k:Nat) (D:DU),i=.int .i64 k/\k<=n/\wr.ownsMap prog 9 (plainElem prog 2) w.heap.size k D/\CM l D k/\IsS wr (w.heap.size+1) 9 (codesV l)/\Below w.heap.size w wr) (fun i _=>n-(intOf i).toNat)
 case atStart=>exact⟨0,_,rfl,Nat.zero_le _,M1.o,CM.start l,X1.o,B1.o⟩
 case round =>
  obtain⟨k,D,rfl,hk,hown,hcm,hx,hbel⟩:=hrel;have HO:=hideB hown;have HM:=hideB hcm;have HX:=hideB hx;have GB:=hideB hbel;clear hown hcm hx hbel;by_cases hlt:k<n
  ·have hkl:k<l.length:=by rw[<-HLN.o];exact hlt
   have hkv:k<(codesV l).length:=by rw[HCL.o];exact hlt
   have ci:=HX.o.cell hkv;rw[codes_get l HK.o k hkv]at ci;have HNONE:=hideB (codeOf_none l k);have HSZ:=hideB (codeOf_size l k);have hcl:=codeOf_le l HK.o k;have HPUT:=hideB (fun h0=>CM.put HM.o HO.o.isMap HS.o HK.o hkl h0);have HSKIP:=hideB (fun h0=>CM.skip HM.o (k:=k) h0);obtain⟨c,hc⟩:∃ c,c=codeOf l k:=⟨_,rfl⟩;rw[<-hc]at ci HNONE HSZ hcl HPUT;clear hc;by_cases h0:0<l.getD k 0
   ·have hne:c.toList.isEmpty=false:=nonempty c (by rw[HSZ.o];omega)
    have hkey:keyOf prog 9 (.string c)=some (kl c):=keyOf_string_mk underlying9 (by unfold maxLen;omega);have HP2:=hideB (HPUT.o h0);have hown:=HO.o;clear h0 hcl
    go_wp2_with (first|(at_mapUpdate;refine wpList_mapUpdate_own _ rfl _ _ _ 249 rfl 9 2 lawS underlying249 _ w.heap.size k _ rfl hown (by unfold maxLen;omega) _ _ _ rfl rfl hkey _ [] (plainElem_int underlying2 (WalkArith.wf_i64 (by omega))) ?_;intro w2 hown2 hgrow2;have HO2:=hideB hown2;have HX2:=hideB (HX.o.of_heapS (hgrow2.block (w.heap.size+1) HX.o.lt (by simp)));have GB2:=hideB (GB.o.grown hgrow2 GB.o.size (fun j hj=>by cases hj;exact nl));clear hown2 hgrow2;go_frame))
    (go_wp2_with fail)
    go_roundw
    case rel=>exact⟨k+1,_,by go_num,by omega,HO2.o,HP2.o,HX2.o,GB2.o⟩
    case measure=>simp[intOf];omega
   ·have hce:=HNONE.o h0
    have HP2:=hideB (HSKIP.o h0);have HO2:=hideB (HO.o.mono (Nat.le_succ k));subst hce;clear h0 hcl;(go_wp2_with fail)
    go_roundw
    case rel=>exact⟨k+1,D,by go_num,by omega,HO2.o,HP2.o,HX.o,GB.o⟩
    case measure=>simp[intOf];omega
  ·obtain rfl:k=n:=by omega
   go_wp2_with fail
   go_ret;exact⟨D,rfl,HO.o,HM.o,GB.o⟩
def preR:Go.Shelf.Ren:=⟨fun|99=>116|206=>153|n=>n,fun|9=>9|4=>4|3=>3|n=>n,fun|n=>n⟩
theorem preL:Go.Proofs.Lays.n99 prog preR:={
 mixed:=by kernel_rfl
 f99:=func116.trans (congrArg some (by kernel_rfl))
 f206:=func153.trans (congrArg some (by kernel_rfl))
 t3:=underlying3
 a3:=Tryz.isAgg3
 z3:=Tryz.sizeOf3
 v3:=Tryz.zeroValue3
 t4:=underlying4
 a4:=Tryz.isAgg4
 z4:=Tryz.sizeOf4
 v4:=Tryz.zeroValue4
 t9:=underlying9
 a9:=Tryz.isAgg9
 z9:=Tryz.sizeOf9
 v9:=Tryz.zeroValue9 }
theorem prefix_any (s p:ByteArray) (w:World) :
  Calls prog 116 #[.string s,.string p] w fun e w'=>e=.returned (.bool (Lib.hasPrefix s.data.toList p.data.toList))/\w'=w:=Any.strings_HasPrefix preL s p w
def symT (l:List Int) (t:ByteArray):ByteArray:=match sym l t with
 |some i=>codeOf l i
 |none=>⟨#[]⟩
theorem first_any (l:List Int) (t:ByteArray) (b n:Nat) (D:DU) (w:World) (hown:w.ownsMap prog 9 (plainElem prog 2) b n D) (hcm:CM l D l.length) (hr:right l=true) (ht:t.size<=8000) :
  Calls prog 200 #[.map (some b),.string t] w fun e w'=>e=.returned (.string (symT l t))/\w'=w:=by
 have hok:=(within_yes (right_yes hr).1).2;have hcs:=(right_yes hr).2
 have w12:∀ k,k<l.length->wd l k<=12:=fun k hk=>by
  have:=hok _ (List.getElem_mem hk)
  unfold wd;rw[getD_lt hk];omega
 have HSYM:=hideB (fun (i:Nat) (h:mt l t i)=>sym_of hcs hok h);have HNONE:=hideB (fun (h:∀ i,¬mt l t i)=>sym_none h);have HCM:=hideB hcm;have HW:=hideB w12;clear hok hcs w12 hcm hr;obtain⟨r,hrr⟩:∃ r,r=symT l t:=⟨_,rfl⟩;have HR:=hideB hrr;rw[<-hrr];clear hrr;go_enter func200,ntmps200
 go_wp2_with fail
 go_loopw [5] (fun i wr=>∃ v:Nat,i=.int .i64 v/\1<=v/\v<=13/\v<=t.size+1/\(∀ j,mt l t j->v<=wd l j)/\wr=w) (fun i _=>13-(intOf i).toNat)
 case atStart=>exact⟨1,rfl,nl,by omega,by omega,fun j hj=>by have:=hj.2.1;unfold wd;omega,rfl⟩
 case round =>
  obtain⟨v,rfl,hv1,hv13,hvt,hall,hw⟩:=hrel;subst hw;have HA:=hideB hall;clear hall;by_cases hA:v<=12/\v<=t.size
  ·obtain⟨hv12,hvs⟩:=hA
   have hvi:(v:Int)<=12:=by omega
   have hvsi:(v:Int)<=t.size:=by omega
   have hmn:(v:Int)<=min 12 (t.size:Int):=by omega
   have hes:(t.extract 0 v).size=v:=by rw[ByteArray.size_extract];omega
   have HES:=hideB hes;have hkey:keyOf prog 9 (.string (t.extract 0 v))=some (kl (t.extract 0 v)):=keyOf_string_mk underlying9 (by unfold maxLen;omega);have HHAS:=hideB (HCM.o.1 (kl (t.extract 0 v)));clear hes
   cases hh:Maps.has D (kl (t.extract 0 v)) with
   |true =>
    have HE:Hid (t.extract 0 v=r):=by
     unfold Hid;obtain⟨i,h1,h2,h3,h4⟩:=HHAS.o.1 hh;have h5:=kl_inj h4;have h6:wd l i=v:=(by rw[<-HES.o,h5];exact(codeOf_size l i).symm);have hm:mt l t i:=⟨h2,h3,by omega,by rw[h6];exact h5⟩;rw[HR.o,h5];unfold symT;rw[HSYM.o i hm]
    go_wp2_with (first|(at_lookup;refine wpList_lookup_own_ok_int _ rfl _ _ 249 rfl 9 2 .i64 lawS underlying249 underlying2 (zeroI _) b n D rfl hown _ _ rfl hkey ?_;intro c hat hwc;rw[hh];clear hat hwc))
    go_ret;exact⟨ret_strJ HE.o,rfl⟩
   |false =>
    have HN:Hid (∀ j,mt l t j->v+1<=wd l j):=fun j hj=>by
     have h1:=HA.o j hj;by_cases e:wd l j=v
     ·have h2:Maps.has D (kl (t.extract 0 v))=true:=HHAS.o.2 ⟨j,hj.1,hj.1,hj.2.1,by rw[<-e];rw[hj.2.2.2]⟩
      rw[hh]at h2
      cases h2
     ·omega
    go_wp2_with (first|(at_lookup;refine wpList_lookup_own_ok_int _ rfl _ _ 249 rfl 9 2 .i64 lawS underlying249 underlying2 (zeroI _) b n D rfl hown _ _ rfl hkey ?_;intro c hat hwc;rw[hh];clear hat hwc))
    (go_wp2_with fail)
    go_roundw
    case rel=>exact⟨v+1,by go_num,by omega,by omega,by omega,HN.o,trivial⟩
    case measure=>simp[intOf];omega
  ·have hmn:decide ((v:Int)<=min 12 (t.size:Int))=false:=decide_eq_false (by omega)
   have HE:Hid (r=⟨#[]⟩):=by
    unfold Hid;rw[HR.o];unfold symT;rw[HNONE.o (fun i hm=>hA ⟨by have h1:=HA.o i hm;have h2:=HW.o i hm.1;omega,by have h1:=HA.o i hm;have h2:=hm.2.2.1;omega⟩)]
   clear hA
   go_wp2_with fail
   go_ret;exact⟨ret_strJ HE.o.symm,rfl⟩
end Bi
namespace Bi
open Go.RowKit Go.Maps
open Go.WideMaps (keyOf_string_mk string_of_keyOf)
def pf (t:ByteArray):Lit->Bool
 |.string bs=>Lib.hasPrefix bs t.data.toList
 |_=>false
theorem pf_kl (t c:ByteArray):pf t (kl c)=Lib.hasPrefix c.data.toList t.data.toList:=rfl
def Swept (D D':DU) (t:ByteArray) (left:Lit->Bool):Prop:=∀ z,Maps.has D' z=(Maps.has D z && (left z || pf t z))
theorem Swept.start (D:DU) (t:ByteArray):Swept D D t (Maps.has D):=fun z=>by cases Maps.has D z<;>simp
theorem same_kl (c:ByteArray):(kl c).sameKey (kl c)=true:=by simp[kl,Lit.sameKey]
theorem Swept.stays {D D':DU} {t:ByteArray} {left:Lit->Bool} {c:ByteArray} (h:Swept D D' t left) (hp:Lib.hasPrefix c.data.toList t.data.toList=true):Swept D D' t (fun z=>left z && !z.sameKey (kl c)):=fun z=>by
 rw[h z];by_cases e:z=kl c
 ·subst e
  rw[pf_kl,hp];simp
 ·simp only[sameKey_ne e]
  simp
theorem Swept.goes {D D':DU} {t:ByteArray} {left:Lit->Bool} {c:ByteArray} (h:Swept D D' t left) (hp:Lib.hasPrefix c.data.toList t.data.toList=false):Swept D (D'.del (kl c)) t (fun z=>left z && !z.sameKey (kl c)):=fun z=>by
 by_cases e:z=kl c
 ·subst e
  rw[has_del_same,pf_kl,hp];simp only[same_kl];simp
 ·rw[has_del_other e,h z]
  simp only[sameKey_ne e];simp
theorem size_none {D:DU} (hD:IsMap D) (h:∀ z,Maps.has D z=false) (hk:∀ es,D=.map es->∀ p∈es,WideAt.IsKeyLit p.1):Maps.size D=0:=by
 obtain⟨es,rfl⟩:=hD
 cases es with
 |nil=>rfl
 |cons p es =>
  exfalso
  have h1:=hk _ rfl p List.mem_cons_self;have h2:=h p.1;rw[has_eq,List.any_cons]at h2
  have h3:p.1.sameKey p.1=true:=by
   obtain⟨k,d⟩:=p
   cases k<;>simp_all [Lit.sameKey,WideAt.IsKeyLit]
  rw[h3]at h2;simp at h2
theorem size_some {D:DU} (hD:IsMap D) {z:Lit} (h:Maps.has D z=true):0<Maps.size D:=by
 obtain⟨es,rfl⟩:=hD
 cases es with
 |nil=>simp[Maps.has]at h
 |cons p es=>simp[size_eq]
theorem why_any (l:List Int) (t:ByteArray) (b n B:Nat) (D:DU) (w:World) (hown:w.ownsMap prog 9 (plainElem prog 2) b n D) (hcm:CM l D l.length) (hB:B<=b) (hBw:B<=w.heap.size) :
  Calls prog 201 #[.map (some b),.string t] w fun e w'=>e=.returned (.int .i64 (why l t))/\Below B w w':=by
 have HCM:=hideB hcm;clear hcm;have hbw:=hown.lt;go_enter func201,ntmps201
 go_wp2_with (first|(at_range;refine wpList_range_own _ rfl _ 249 rfl 9 2 lawS underlying249 _ b n _ rfl hown ?_;intro w0 hrg0 hg0 hs0))
 have HB0:=hideB ((Below.refl B w).grown hg0 hBw (fun j hj=>by cases hj))
 go_frame
 go_loopw [5] (fun _ wr=>∃ (left:Lit->Bool) (cnt:Nat) (D':DU),wr.ranges prog 9 (plainElem prog 2) b w.heap.size n D' left cnt/\Swept D D' t left/\Below B w wr) (fun _ wr=>wr.rangeLeft b w.heap.size)
 case atStart=>exact⟨_,_,D,hrg0,Swept.start D t,HB0.o⟩
 case round =>
  obtain⟨left,cnt,D',hrg,hsw,hbel⟩:=hrel;have HSW:=hideB hsw;have GB:=hideB hbel;clear hsw hbel
  go_wp2_with (first|(at_next;refine wpList_next_ranges _ rfl _ rfl 9 lawS (plainElem prog 2) Value.string (Value.int .i64) (fun key kl hkey=>by obtain⟨s,rfl,_⟩:=string_of_keyOf underlying9 hkey;exact⟨s,rfl⟩) (fun v y hv=>by obtain⟨c,rfl,_⟩:=plainElem_int_inv underlying2 hv;exact⟨c,rfl⟩) b w.heap.size n D' left cnt rfl hrg ?_ ?_))
  ·intro _ hl0
   have hown':=hrg.owns
   have HPF:Hid (∀ z,Maps.has D' z=(Maps.has D z && pf t z)):=fun z=>by
    rw[HSW.o z,hl0 z,Bool.false_or]
   cases hw:wth l t with
   |true =>
    have hz:(((Maps.size D':Nat):Int)==0)=false:=by
     obtain⟨i,h1,h2,h3⟩:=wth_yes hw
     have h4:Maps.has D' (kl (codeOf l i))=true:=by
      rw[HPF.o,(HCM.o.1 _).2 ⟨i,h1,h1,h2,rfl⟩,pf_kl,h3];rfl
     have h5:=size_some hown'.isMap h4;exact beq_eq_false_iff_ne.2 (by omega)
    have HE:Hid (why l t=4):=by
     unfold Hid why;rw[if_pos hw]
    clear hw hl0 hrg
    go_wp2_with (first|(at_len;refine wpList_len_own _ rfl _ 249 rfl 9 2 underlying249 _ b n D' rfl hown' ?_))
    go_ret;exact⟨by rw[HE.o];rfl,GB.o⟩
   |false =>
    have hz:Maps.size D'=0:=by
     obtain⟨es,hes,_,hks⟩:=hown'.entries lawS;refine size_none hown'.isMap (fun z=>?_) (fun es' he' p hp=>by rw[hes]at he';cases he';exact hks p hp);rw[HPF.o]
     cases hh:Maps.has D z with
     |false=>rfl
     |true =>
      obtain⟨i,h1,h2,h3,rfl⟩:=(HCM.o.1 z).1 hh;rw[pf_kl,Bool.true_and]
      cases hp:Lib.hasPrefix (codeOf l i).data.toList t.data.toList with
      |false=>rfl
      |true=>rw[wth_of h2 h3 hp]at hw;cases hw
    have HE:Hid (why l t=3):=by
     unfold Hid why;rw[if_neg (by rw[hw];decide)]
    clear hw hl0 hrg
    go_wp2_with (first|(at_len;refine wpList_len_own _ rfl _ 249 rfl 9 2 underlying249 _ b n D' rfl hown' ?_;rw[hz]))
    go_ret;exact⟨by rw[HE.o];rfl,GB.o⟩
  ·intro x c klx y1 y2 w1 cnt1 hkey hlx hRv hat hrg1 hlt hg1 hs1 hen
   obtain⟨s,es,hk2,hsz⟩:=string_of_keyOf underlying9 hkey
   obtain rfl:x=s:=by simpa using es
   obtain rfl:klx=kl x:=hk2;have GB1:=hideB (GB.o.grown hg1 (Nat.le_trans hBw GB.o.size) (fun j hj=>by cases hj;exact hBw));have HPX:=hideB (prefix_any x t w1)
   cases hp:Lib.hasPrefix x.data.toList t.data.toList with
   |true =>
    have HS1:=hideB (HSW.o.stays hp);rw[hp]at HPX;clear hp es hRv hat;(go_wp2_with fail);refine HPX.o.mono ?_;rintro e w' ⟨rfl,hw⟩;subst w';(go_wp2_with fail)
    go_roundw
    case rel=>exact⟨_,cnt1,D',hrg1,HS1.o,GB1.o⟩
    case measure=>rw[hrg1.left_eq,hrg.left_eq];exact hlt
   |false =>
    have HS1:=hideB (HSW.o.goes hp);rw[hp]at HPX;clear hp es hRv hat;(go_wp2_with fail);refine HPX.o.mono ?_;rintro e w' ⟨rfl,hw⟩;subst w'
    go_wp2_with (first|(at_delete;refine wpList_delete_ranges _ rfl _ _ 249 9 rfl 2 lawS underlying249 _ b w.heap.size n _ _ _ rfl hrg1 _ _ rfl hkey ?_;intro w2 cnt2 hrg2 hle hturn;go_frame))
    rw[strike_twice]at hrg2;have GB2:=hideB (GB1.o.grown hturn.grown (Nat.le_trans hBw GB1.o.size) (fun j hj=>by cases hj;exact hB))
    go_roundw
    case rel=>exact⟨_,cnt2,_,hrg2,HS1.o,GB2.o⟩
    case measure=>rw[hrg2.left_eq,hrg.left_eq];omega
end Bi
namespace Se
open Nu (bv arr_string ret_strJ hideJ)
def outV (t:ByteArray) (at_ code:Int):Value:=.agg #[.string t,.int .i64 at_,.int .i64 code]
def unsealV (s:ByteArray):Value :=
 if 8000<s.size then outV ⟨#[]⟩ 0 2 else if s.size<4 then outV ⟨#[]⟩ 0 4
 else if sealV (s.extract 0 (s.size-4))=s then outV (s.extract 0 (s.size-4)) 0 0 else outV ⟨#[]⟩ 0 5
theorem bcell {W w1:World} (hb:Below W.heap.size W w1):(∀ b o,b<W.heap.size->w1.cell? ⟨b,o,none⟩=W.cell? ⟨b,o,none⟩)/\(∀ b o,b<W.heap.size->w1.frozen? ⟨b,o,none⟩=W.frozen? ⟨b,o,none⟩) :=
 ⟨fun b o h=>hb.cell (p:=⟨b,o,none⟩) h,fun b o h=>hb.frozen (p:=⟨b,o,none⟩) h⟩
theorem below3 {w wa wb:World} {o:Obj} (h1:Below (w.alloc o).heap.size (w.alloc o) wa) (h2:Below (w.alloc o).heap.size wa wb):Below w.heap.size w wb :=
 ((Below.refl w.heap.size w).alloc nl o).trans ((h1.trans h2).mono (by simp))
theorem list_eq_iff (a b:ByteArray):(a.toList==b.toList)=decide (a=b):=by
 by_cases h:a=b
 ·rw[h];simp
 ·rw[decide_eq_false h,beq_eq_false_iff_ne]
  intro e
  apply h
  rw[ByteArray.toList_eq,ByteArray.toList_eq]at e
  have e2:a.data=b.data:=by rw[<-Array.toArray_toList (xs:=a.data),e,Array.toArray_toList]
  cases a;cases b;simpa using e2
theorem unsealV_yes (s t:ByteArray) (h1:¬8000<s.size) (h2:¬s.size<4) (ht:t=s.extract 0 (s.size-4)) (h:sealV t=s):unsealV s=outV t 0 0:=by
 unfold unsealV;rw[if_neg h1,if_neg h2,<-ht,if_pos h]
theorem unsealV_no (s t:ByteArray) (h1:¬8000<s.size) (h2:¬s.size<4) (ht:t=s.extract 0 (s.size-4)) (h:¬sealV t=s):unsealV s=outV ⟨#[]⟩ 0 5:=by
 unfold unsealV;rw[if_neg h1,if_neg h2,<-ht,if_neg h]
theorem unseal_impl (s:ByteArray) (w:World) (hs:s.size<=maxLen) :
  Calls prog 72 #[.string s] w fun e w'=>e=.returned (unsealV s)/\Below w.heap.size w w':=by
 unfold maxLen at hs;by_cases h1:8000<s.size
 ·have HV:=hideJ (show unsealV s=outV ⟨#[]⟩ 0 2 by unfold unsealV;rw[if_pos h1])
  go_enter func72,ntmps72
  go_wp2
  refine bodyPost_ret (v:=outV ⟨#[]⟩ 0 2) (by simp[results,outV,results72,go_sem]) rfl ⟨by rw[HV.o],?_⟩;exact(Below.refl _ _).alloc nl _
 ·by_cases h2:s.size<4
  ·have HV:=hideJ (show unsealV s=outV ⟨#[]⟩ 0 4 by unfold unsealV;rw[if_neg h1,if_pos h2])
   go_enter func72,ntmps72
   go_wp2
   refine bodyPost_ret (v:=outV ⟨#[]⟩ 0 4) (by simp[results,outV,results72,go_sem]) rfl ⟨by rw[HV.o],?_⟩;exact(Below.refl _ _).alloc nl _
  ·obtain⟨t,ht⟩:∃ t,t=s.extract 0 (s.size-4):=⟨_,rfl⟩
   have hts:t.size<=7996:=by rw[ht];simp;omega
   have HT:=hideJ ht;by_cases hq:sealV t=s
   ·have HV:=hideJ (unsealV_yes s t h1 h2 ht hq)
    have hB:((sealV t).toList==s.toList)=true:=by rw[list_eq_iff];exact decide_eq_true hq
    clear ht hq;go_enter func72,ntmps72;(go_wp2_with fail);rw[show ((s.size:Int)-4)=((s.size-4:Nat):Int) from by omega];refine(Nu.cut_any s 0 (s.size-4) _ (by omega) (by omega) (by omega)).mono ?_;rw[<-HT.o];rintro e wa ⟨rfl,hb1⟩;obtain⟨hc1,hf1⟩:=bcell hb1;have hz1:w.heap.size+1<=wa.heap.size:=(by have:=hb1.size;simpa using this);(go_wp2_with fail);refine(seal_impl t _ (by unfold maxLen;omega)).mono ?_;rintro e wb ⟨rfl,hb2⟩;obtain⟨hc2,hf2⟩:=bcell hb2;have hz2:wa.heap.size<=wb.heap.size:=hb2.size;have hlt:w.heap.size<wa.heap.size:=(by omega)
    go_wp2
    refine bodyPost_ret (v:=outV t 0 0) (by simp[results,outV,results72,go_sem,hc2,hc1,hlt]) rfl ⟨by rw[HV.o],?_⟩;exact((below3 hb1 (hb2.mono (by simpa using hz1))).setCell nl _ |>.setCell nl _).setCell nl _
   ·have HV:=hideJ (unsealV_no s t h1 h2 ht hq)
    have hB:((sealV t).toList==s.toList)=false:=by rw[list_eq_iff];exact decide_eq_false hq
    clear ht hq;go_enter func72,ntmps72;(go_wp2_with fail);rw[show ((s.size:Int)-4)=((s.size-4:Nat):Int) from by omega];refine(Nu.cut_any s 0 (s.size-4) _ (by omega) (by omega) (by omega)).mono ?_;rw[<-HT.o];rintro e wa ⟨rfl,hb1⟩;obtain⟨hc1,hf1⟩:=bcell hb1;have hz1:w.heap.size+1<=wa.heap.size:=(by have:=hb1.size;simpa using this);(go_wp2_with fail);refine(seal_impl t _ (by unfold maxLen;omega)).mono ?_;rintro e wb ⟨rfl,hb2⟩;obtain⟨hc2,hf2⟩:=bcell hb2;have hz2:wa.heap.size<=wb.heap.size:=hb2.size;have hlt:w.heap.size<wa.heap.size:=(by omega)
    go_wp2
    refine bodyPost_ret (v:=outV ⟨#[]⟩ 0 5) (by simp[results,outV,results72,go_sem,hc2,hc1,hlt]) rfl ⟨by rw[HV.o],?_⟩;exact((below3 hb1 (hb2.mono (by simpa using hz1))).setCell nl _ |>.setCell nl _).setCell nl _
end Se
namespace Se
open Nu (bv arr_string ret_strJ hideJ)
end Se
end Go.Proofs.YtbdcffjcogglbaaGreatDoor
