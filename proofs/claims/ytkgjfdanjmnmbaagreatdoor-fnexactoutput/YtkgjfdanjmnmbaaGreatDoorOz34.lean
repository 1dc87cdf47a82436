/- Texts put together: SoCmpI, PlcPlain, BwtBack, BwtBack2, UnPlain, NumMath, NumBack, UnNums, IntHeld, IntIn. -/
import Derived.Test.YtkgjfdanjmnmbaaGreatDoorOz30
import Derived.Test.YtkgjfdanjmnmbaaGreatDoorOz33
import Derived.Test.YtkgjfdanjmnmbaaGreatDoorOz7
import Derived.Test.YtkgjfdanjmnmbaaGreatDoorOz31
import Derived.Test.YtkgjfdanjmnmbaaGreatDoorOz4
import Derived.Test.YtkgjfdanjmnmbaaGreatDoorOz23
import Derived.Test.YtkgjfdanjmnmbaaGreatDoorOz24
set_option maxRecDepth 100000
set_option maxHeartbeats 8000000
namespace Go.Proofs.YtkgjfdanjmnmbaaGreatDoor.So
open Go.RowKit Go.Sort Go.Proofs
open Sh (bt bt_get)
theorem cells_I {w:World} {blk:Nat} {d:Array Nat} (h:HoldsK encI 1 w blk 0 d) {i:Nat} (hi:i<d.size) :
  w.cell? ⟨blk,i,none⟩=some (.int .i64 (d[i]!:Nat))/\w.frozen? ⟨blk,i,none⟩=false:=by
 have x0:=h.cell (i:=i) (c:=0) hi (by omega)
 rw[Nat.zero_add,Nat.add_zero,Nat.mul_one]at x0
 exact⟨x0.1,x0.2⟩
def clI (t:ByteArray) (x y:Nat):Bool:=decide (bt t x<bt t y)
theorem clI_weak (t:ByteArray):Weak (clI t) where
 irrefl x:=by simp[clI]
 trans x y z h1 h2:=by
  simp only[clI,decide_eq_true_eq]at *
  omega
 ntrans x y z h1 h2:=by
  simp only[clI,decide_eq_false_iff_not]at *
  omega
def cfI (t:ByteArray) (x y:Nat):Int:=if bt t x<bt t y then -1 else if bt t y<bt t x then 1 else 0
theorem cfI_neg (t:ByteArray) (x y:Nat):decide (cfI t x y<0)=clI t x y:=by
 unfold cfI clI
 by_cases h:bt t x<bt t y
 ·simp[h]
 ·by_cases h2:bt t y<bt t x<;>simp[h,h2]
def Cap (w:World) (c:Nat) (t:ByteArray):Prop:=w.cell? ⟨c,0,none⟩=some (.string t)
theorem Cap.block {w w':World} {c:Nat} {t:ByteArray} (h:Cap w c t) (e:w'.heap[c]? = w.heap[c]?):Cap w' c t:=by
 unfold Cap at h ⊢
 simp only[World.cell?]at h ⊢
 rw[e]
 exact h
theorem Cap.lt {w:World} {c:Nat} {t:ByteArray} (h:Cap w c t):c<w.heap.size:=by
 refine Nat.lt_of_not_le fun hle=>?_
 unfold Cap at h
 simp only[World.cell?]at h
 rw[Array.getElem?_eq_none hle]at h
 simp at h
theorem PermF.bd {a b N:Nat} {f g:Nat->Nat} (h:PermF a b f g) (hf:∀ i,f i<N) (i:Nat):g i<N:=by
 by_cases h1:a<=i/\i<b
 ·exact h.all (p:=fun v=>v<N) (fun j _ _=>hf j) i h1.1 h1.2
 ·rw[h.2 i (by omega)]
  exact hf i
theorem nan_B (y:UInt8) (w:World):Calls Tryz.prog 212 #[.int .u8 (y.toNat:Nat)] w fun e w'=>e=.returned (.bool false)/\w'=w:=by
 have h:(((y.toNat:Nat):Int) != ((y.toNat:Nat):Int))=false:=by simp
 go_enter Tryz.func212,Tryz.ntmps212
 go_wp2_with fail
 go_ret
 exact⟨rfl,rfl⟩
theorem compare_B (s t:UInt8) (w:World):Calls Tryz.prog 206 #[.int .u8 (s.toNat:Nat),.int .u8 (t.toNat:Nat)] w fun e w'=>e=.returned (.int .i64 (if s.toNat<t.toNat then -1 else if t.toNat<s.toNat then 1 else 0))/\w'=w:=by
 have HS:=hideO (nan_B s)
 have HT:=hideO (nan_B t)
 obtain⟨p,hp⟩:∃ p,p=s.toNat:=⟨_,rfl⟩
 obtain⟨q,hq⟩:∃ q,q=t.toNat:=⟨_,rfl⟩
 rw[<-hp]at HS
 rw[<-hq]at HT
 rw[<-hp,<-hq]
 clear hp hq
 by_cases h1:p<q
 ·rw[if_pos h1]
  have h1':(p:Int)<(q:Int):=by omega
  have h2':¬(q:Int)<(p:Int):=by omega
  go_enter Tryz.func206,Tryz.ntmps206
  go_wp2_with fail
  refine(HS.out w).mono ?_
  rintro e w' ⟨rfl,hw⟩
  subst w'
  go_wp2_with fail
  refine(HT.out w).mono ?_
  rintro e w' ⟨rfl,hw⟩
  subst w'
  go_wp2_with fail
  go_ret
  exact⟨rfl,rfl⟩
 ·rw[if_neg h1]
  have h1':¬(p:Int)<(q:Int):=by omega
  by_cases h2:q<p
  ·rw[if_pos h2]
   have h2':(q:Int)<(p:Int):=by omega
   go_enter Tryz.func206,Tryz.ntmps206
   go_wp2_with fail
   refine(HS.out w).mono ?_
   rintro e w' ⟨rfl,hw⟩
   subst w'
   go_wp2_with fail
   refine(HT.out w).mono ?_
   rintro e w' ⟨rfl,hw⟩
   subst w'
   go_wp2_with fail
   go_ret
   exact⟨rfl,rfl⟩
  ·rw[if_neg h2]
   have h2':¬(q:Int)<(p:Int):=by omega
   go_enter Tryz.func206,Tryz.ntmps206
   go_wp2_with fail
   refine(HS.out w).mono ?_
   rintro e w' ⟨rfl,hw⟩
   subst w'
   go_wp2_with fail
   refine(HT.out w).mono ?_
   rintro e w' ⟨rfl,hw⟩
   subst w'
   go_wp2_with fail
   go_ret
   exact⟨rfl,rfl⟩
theorem cmp_I (t:ByteArray) (c x y:Nat) (w:World) (hc:Cap w c t) (hx:x<t.size) (hy:y<t.size):Calls Tryz.prog 205 #[.int .i64 x,.int .i64 y,.pointer (some ⟨c,0,none⟩)] w fun e w'=>e=.returned (.int .i64 (cfI t x y))/\∃ q os',w'=grow (w.drewN q) os':=by
 have mixed:=mixed
 have hx':(x:Int)<(t.size:Int):=by omega
 have hy':(y:Int)<(t.size:Int):=by omega
 obtain⟨p,hp,hpt⟩:∃ p:UInt8,t[x]=p/\p.toNat=bt t x:=⟨_,rfl,bt_get _ _ hx⟩
 obtain⟨q,hq,hqt⟩:∃ q:UInt8,t[y]=q/\q.toNat=bt t y:=⟨_,rfl,bt_get _ _ hy⟩
 have HC:=hideO (fun (W:World)=>(compare_B p q W).mono (fun e w' (h:_/\w'=W)=>(⟨h.1,0,h.2⟩:_/\∃ m,w'=W.drewN m)))
 unfold cfI
 rw[hpt,hqt]at HC
 generalize (if bt t x<bt t y then (-1:Int) else if bt t y<bt t x then 1 else 0)=r at HC ⊢
 have hcw:∀ n,(w.drewN n).cell? ⟨c,0,none⟩=some (.string t):=fun n=>hc
 have hcc:w.cell? ⟨c,0,none⟩=some (.string t):=hc
 rw[<-hpt,<-hqt]at HC
 clear hc hpt hqt
 go_enter Tryz.func205,Tryz.ntmps205
 go_wp2_with fail
 go_quiet (first|(go_at_call 206;refine Calls.quiet_of (HC.out _)))
 all_goals (try go_wp2_with fail)
 go_ret
 exact⟨rfl,nq,#[],(grow_empty _).symm⟩
end Go.Proofs.YtkgjfdanjmnmbaaGreatDoor.So


/- Plain mathematics of the way back from sorted turns. -/
namespace Go.Proofs.YtkgjfdanjmnmbaaGreatDoor.So
open Go.RowKit
open Sh (bt bt_get bt_lt strF strF_size)
def PlOk (t:ByteArray) (l:List Nat):Prop:=l.Perm (List.range t.size)/\l.Pairwise (lx (clI t))
theorem pl_unique {t:ByteArray} {l l':List Nat} (h:PlOk t l) (h':PlOk t l'):l=l' :=
 List.Perm.eq_of_pairwise (fun _ _ _ _ h1 h2=>(lx_asymm (clI_weak _) h1 h2).elim) h.2 h'.2 (h.1.trans h'.1.symm)
def plB (t:ByteArray) (b k:Nat):List Nat:=(List.range k).filter fun j=>bt t j==b
def plK (t:ByteArray) (b:Nat):List Nat:=(List.range b).flatMap fun c=>plB t c t.size
def pl (t:ByteArray):List Nat:=plK t 256
theorem plK_succ (t:ByteArray) (b:Nat):plK t (b+1)=plK t b++plB t b t.size:=by
 unfold plK
 rw[List.range_succ,List.flatMap_append]
 simp
theorem plB_yes (t:ByteArray) (b k:Nat) (h:bt t k=b):plB t b (k+1)=plB t b k++[k]:=by
 unfold plB
 rw[List.range_succ,List.filter_append]
 simp[h]
theorem plB_no (t:ByteArray) (b k:Nat) (h:bt t k≠b):plB t b (k+1)=plB t b k:=by
 unfold plB
 rw[List.range_succ,List.filter_append]
 simp[h]
theorem plB_len (t:ByteArray) (b k:Nat):(plB t b k).length<=k:=by
 have:=List.length_filter_le (fun j=>bt t j==b) (List.range k)
 simpa [plB] using this
theorem plK_len (t:ByteArray) (b:Nat):(plK t b).length<=b*t.size:=by
 induction b with
 |zero=>simp[plK]
 |succ b ih =>
  rw[plK_succ,List.length_append,Nat.succ_mul]
  have:=plB_len t b t.size
  omega
theorem pl_ok (t:ByteArray):PlOk t (pl t):=by
 have hpw:(pl t).Pairwise (lx (clI t)):=by
  unfold pl plK
  rw[List.pairwise_flatMap]
  refine⟨fun b _=>?_,?_⟩
  ·unfold plB
   have h1:(List.range t.size).Pairwise (· < ·):=List.pairwise_lt_range
   have h2:=h1.sublist (List.filter_sublist (p:=fun j=>bt t j==b))
   refine h2.imp_of_mem fun {x y} hx hy hlt=>?_
   have ex:bt t x=b:=by have:=(List.mem_filter.1 hx).2;simpa using this
   have ey:bt t y=b:=by have:=(List.mem_filter.1 hy).2;simpa using this
   exact lx_no (by simp[clI,ex,ey]) hlt
  ·refine(List.pairwise_lt_range (n:=256)).imp fun {b c} hbc x hx y hy=>?_
   have ex:bt t x=b:=by have:=(List.mem_filter.1 hx).2;simpa using this
   have ey:bt t y=c:=by have:=(List.mem_filter.1 hy).2;simpa using this
   exact lx_yes (by simp[clI,ex,ey,hbc])
 refine⟨?_,hpw⟩
 refine(List.perm_ext_iff_of_nodup ?_ List.nodup_range).2 fun x=>?_
 ·exact hpw.imp fun {x y} h e=>by
   subst e
   exact lx_asymm (clI_weak t) h h
 ·simp only[pl,plK,plB,List.mem_flatMap,List.mem_filter,List.mem_range]
  constructor
  ·rintro⟨b,_,h,_⟩
   exact h
  ·intro h
   exact⟨bt t x,bt_lt _ _,h,by simp⟩
theorem pl_len (t:ByteArray):(pl t).length=t.size:=by
 have:=(pl_ok t).1.length_eq
 simpa using this
def plF (t:ByteArray):Nat->Nat:=fun j=>(pl t).getD j 0
theorem plF_seg {t:ByteArray} {f:Nat->Nat} (hp:(seg f 0 t.size).Perm (List.range t.size)) (hr:Ris (clI t) 0 t.size f) (j:Nat) (hj:j<t.size):f j=plF t j:=by
 have h:seg f 0 t.size=pl t:=pl_unique ⟨hp,seg_pairwise hr⟩ (pl_ok t)
 unfold plF
 rw[<-h,List.getD_eq_getElem?_getD,List.getElem?_eq_getElem (by rw[seg_len];omega)]
 simp[seg]
theorem plF_get (t:ByteArray) (j:Nat) (hj:j<(pl t).length):(pl t)[j]=plF t j:=by
 unfold plF
 rw[List.getD_eq_getElem?_getD,List.getElem?_eq_getElem hj]
 rfl
theorem plF_lt (t:ByteArray) (j:Nat) (hj:j<t.size):plF t j<t.size:=by
 have hl:j<(pl t).length:=by rw[pl_len];exact hj
 rw[<-plF_get t j hl]
 have:=(pl_ok t).1.mem_iff.1 (List.getElem_mem hl)
 simpa using this
def itR (t:ByteArray) (a:Nat):Nat->Nat
 |0=>a
 |k+1=>plF t (itR t a k)
theorem itR_lt (t:ByteArray) (a k:Nat) (ha:a<t.size):itR t a k<t.size:=by
 induction k with
 |zero=>exact ha
 |succ k ih=>exact plF_lt t _ ih
def backT (t:ByteArray) (a:Nat):ByteArray:=strF t.size fun j=>bt t (itR t a (j+1))
theorem backT_size (t:ByteArray) (a:Nat):(backT t a).size=t.size:=strF_size _ _
def fillK (t:ByteArray) (a k:Nat):Nat->Nat:=fun j=>if j<k then bt t (itR t a (j+1)) else 0
theorem fillK_lt (t:ByteArray) (a k j:Nat):fillK t a k j<256:=by
 unfold fillK
 split
 ·exact bt_lt _ _
 ·omega
theorem fillK_next (t:ByteArray) (a k j:Nat):Sh.upd (fun j=>((fillK t a k j:Nat):Int)) k ((bt t (itR t a (k+1)):Nat):Int) j=((fillK t a (k+1) j:Nat):Int):=by
 unfold Sh.upd fillK
 by_cases e:j=k
 ·subst e
  rw[if_pos rfl,if_pos (by omega)]
 ·rw[if_neg e]
  by_cases h:j<k
  ·have h':j<k+1:=by omega
   simp only[h,h',if_true]
  ·have h':¬j<k+1:=by omega
   simp only[h,h',if_false]
theorem fillK_all (t:ByteArray) (a:Nat):strF t.size (fillK t a t.size)=backT t a:=Sh.strF_congr _ _ _ fun j hj=>by
 unfold fillK
 rw[if_pos hj]
def blK (t:ByteArray) (a k:Nat):List UInt8:=(List.range k).map fun j=>UInt8.ofNat (bt t (itR t a (j+1)))
theorem blK_len (t:ByteArray) (a k:Nat):(blK t a k).length=k:=by simp[blK]
theorem blK_snoc (t:ByteArray) (a k:Nat):blK t a (k+1)=blK t a k++[UInt8.ofNat (((bt t (itR t a (k+1)):Nat):Int)).toNat]:=by
 unfold blK
 rw[List.range_succ,List.map_append]
 rfl
theorem blK_all (t:ByteArray) (a:Nat):(⟨(blK t a t.size).toArray⟩:ByteArray)=backT t a:=rfl
def tOut (t:ByteArray) (a c:Int):Value:=.agg #[.string t,.int .i64 a,.int .i64 c]
theorem list_eq_iff (a b:ByteArray):(a.toList==b.toList)=decide (a=b):=by
 by_cases h:a=b
 ·rw[h];simp
 ·rw[decide_eq_false h,beq_eq_false_iff_ne]
  intro e
  apply h
  rw[ByteArray.toList_eq,ByteArray.toList_eq]at e
  have e2:a.data=b.data:=by rw[<-Array.toArray_toList (xs:=a.data),e,Array.toArray_toList]
  cases a;cases b;simpa using e2
open Classical in
noncomputable def unR (t:ByteArray) (a:Int):Value :=
 if 8000<t.size then tOut ⟨#[]⟩ 0 2 else if 48<t.size∨a<0∨((t.size:Int)<=a/\0<a) then tOut ⟨#[]⟩ 0 1
 else if bwtT (backT t a.toNat)=t/\(bwtA (backT t a.toNat):Int)=a then tOut (backT t a.toNat) 0 0 else tOut ⟨#[]⟩ 0 3
theorem unR_big {t:ByteArray} {a:Int} (h:8000<t.size):unR t a=tOut ⟨#[]⟩ 0 2:=by unfold unR;rw[if_pos h]
theorem unR_form {t:ByteArray} {a:Int} (h0:¬8000<t.size) (h:48<t.size∨a<0∨((t.size:Int)<=a/\0<a)):unR t a=tOut ⟨#[]⟩ 0 1:=by unfold unR;rw[if_neg h0,if_pos h]
theorem unR_yes {t:ByteArray} {a:Nat} (h0:t.size<=48) (ha:a<t.size∨a=0) (h:bwtT (backT t a)=t/\bwtA (backT t a)=a):unR t a=tOut (backT t a) 0 0:=by
 unfold unR
 rw[if_neg (by omega),if_neg (by omega),Int.toNat_natCast,if_pos ⟨h.1,by rw[h.2]⟩]
theorem unR_no {t:ByteArray} {a:Nat} (h0:t.size<=48) (ha:a<t.size∨a=0) (h:¬(bwtT (backT t a)=t/\bwtA (backT t a)=a)):unR t a=tOut ⟨#[]⟩ 0 3:=by
 unfold unR
 rw[if_neg (by omega),if_neg (by omega),Int.toNat_natCast,if_neg (fun q=>h ⟨q.1,by omega⟩)]
theorem unR_case (t:ByteArray) (a:Int):∃ b c,unR t a=.agg #[.string b,.int .i64 0,.int .i64 c]:=by
 unfold unR tOut
 split
 ·exact⟨_,_,rfl⟩
 ·split
  ·exact⟨_,_,rfl⟩
  ·split<;>exact⟨_,_,rfl⟩
end Go.Proofs.YtkgjfdanjmnmbaaGreatDoor.So


/- Plain mathematics: the way back from the last bytes of sorted turns leads to the text. -/
namespace Go.Proofs.YtkgjfdanjmnmbaaGreatDoor.So
open Go.RowKit
open Sh (bt bt_get bt_lt strF strF_size bt_strF)
theorem put_at (cl:Nat->Nat->Bool) (l:List Nat) (k:Nat):∀ p,p<=l.length->(∀ j (h:j<l.length),p<=j->cl k l[j]=true) ->
  ∃ p',p'<=l.length/\(∀ j (h:j<l.length),p'<=j->cl k l[j]=true)/\(p'=0∨∃ h:p' - 1<l.length,cl k l[p' - 1]=false):=by
 intro p
 induction p with
 |zero=>intro hp h;exact⟨0,hp,h,.inl rfl⟩
 |succ p ih =>
  intro hp h
  cases e:cl k l[p] with
  |false=>exact⟨p+1,hp,h,.inr ⟨by simp;omega,e⟩⟩
  |true =>
   refine ih (by omega) fun j hj hpj=>?_
   rcases Nat.eq_or_lt_of_le hpj with e2|e2
   ·subst e2;exact e
   ·exact h j hj e2
theorem ord_ex (t:ByteArray):OrdOk t (ord t):=by
 have:∀ k,∃ l:List Nat,l.Perm (List.range k)/\l.Pairwise (lx (clT (turnV t))):=by
  intro k
  induction k with
  |zero=>exact⟨[],by simp,List.Pairwise.nil⟩
  |succ k ih =>
   obtain⟨l,hp,hs⟩:=ih
   obtain⟨p,h1,h2,h3⟩:=put_at (clT (turnV t)) l k l.length (Nat.le_refl _) (fun j hj h=>absurd hj (by omega))
   exact⟨_,ord_put (clT_weak _) hp hs h1 h2 h3⟩
 obtain⟨l,hl⟩:=this t.size
 have hok:OrdOk t l:=hl
 rw[ord_of hok]
 exact hok
def rl (l:List UInt8) (x:Nat):List UInt8:=l.drop x++l.take x
theorem rl_len (l:List UInt8) (x:Nat):(rl l x).length=l.length:=by
 unfold rl
 rw[List.length_append,List.length_drop,List.length_take]
 omega
theorem rl_get (l:List UInt8) (x i:Nat) (hx:x<l.length) (hi:i<l.length):(rl l x)[i]'(by rw[rl_len];exact hi)=l[(x+i)%l.length]'(Nat.mod_lt _ (by omega)):=by
 unfold rl
 by_cases h:x+i<l.length
 ·rw[List.getElem_append_left (by rw[List.length_drop];omega),List.getElem_drop]
  congr 1
  rw[Nat.mod_eq_of_lt h]
 ·rw[List.getElem_append_right (by rw[List.length_drop];omega),List.getElem_take]
  congr 1
  rw[List.length_drop,show x+i=(x+i-l.length)+l.length by omega,Nat.add_mod_right,Nat.mod_eq_of_lt (by omega)]
  omega
theorem rl_inj {l:List UInt8} {x y:Nat} (hx:x<l.length) (hy:y<l.length) (h:rl l x=rl l y) (i:Nat) (hi:i<l.length):l[(x+i)%l.length]'(Nat.mod_lt _ (by omega))=l[(y+i)%l.length]'(Nat.mod_lt _ (by omega)):=by
 rw[<-rl_get l x i hx hi,<-rl_get l y i hy hi]
 congr 1
def prv (n x:Nat):Nat:=(x+n-1)%n
theorem prv_lt {n x:Nat} (h:0<n):prv n x<n:=Nat.mod_lt _ h
theorem prv_zero {n:Nat} (h:0<n):prv n 0=n-1:=by unfold prv;rw[Nat.zero_add,Nat.mod_eq_of_lt (by omega)]
theorem prv_succ {n x:Nat} (h:x+1<n+1):prv n (x+1)=x%n:=by unfold prv;rw[show x+1+n-1=x+n by omega,Nat.add_mod_right]
theorem prv_next {n x:Nat} (hx:x<n):(prv n x+1)%n=x:=by
 cases x with
 |zero=>rw[prv_zero (by omega),show n-1+1=n by omega,Nat.mod_self]
 |succ x=>rw[prv_succ (by omega),Nat.mod_eq_of_lt (show x<n by omega),Nat.mod_eq_of_lt hx]
theorem rl_prv (l:List UInt8) (x:Nat) (hx:x<l.length):rl l (prv l.length x)=l[prv l.length x]'(prv_lt (by omega)) :: (rl l x).dropLast:=by
 apply List.ext_getElem
 ·rw[rl_len,List.length_cons,List.length_dropLast,rl_len];omega
 ·intro i h1 h2
  rw[rl_len]at h1
  rw[rl_get l _ i (prv_lt (by omega)) h1]
  cases i with
  |zero =>
   simp only[List.getElem_cons_zero,Nat.add_zero]
   congr 1
   exact Nat.mod_eq_of_lt (prv_lt (by omega))
  |succ i =>
   rw[List.getElem_cons_succ,List.getElem_dropLast,rl_get l x i hx (by omega)]
   congr 1
   have:=prv_next hx
   rw[show prv l.length x+(i+1)=(prv l.length x+1)+i by omega,Nat.add_mod,this,Nat.mod_eq_of_lt (show i<l.length by omega)]
theorem lt_snoc:∀ (a b:List UInt8) (x y:UInt8),a.length=b.length->a<b->a++[x]<b++[y]
 |[],[],_,_,_,h=>absurd h (List.lt_irrefl _)
 |[],_ :: _,_,_,h,_=>by simp at h
 |_ :: _,[],_,_,h,_=>by simp at h
 |u :: a,v :: b,x,y,hl,h=>by
  rw[List.cons_lt_cons_iff]at h
  rw[List.cons_append,List.cons_append,List.cons_lt_cons_iff]
  rcases h with h|⟨h1,h2⟩
  ·exact .inl h
  ·exact .inr ⟨h1,lt_snoc a b x y (by simpa using hl) h2⟩
theorem dropLast_le {a b:List UInt8} (hl:a.length=b.length) (h:¬b<a):¬b.dropLast<a.dropLast:=by
 intro h2
 by_cases e:a=[]
 ·subst e
  simp at h2
 ·have e2:b≠[]:=by
   intro eb
   subst eb
   simp at hl
   exact e hl
  apply h
  rw[<-List.dropLast_concat_getLast e,<-List.dropLast_concat_getLast e2]
  exact lt_snoc _ _ _ _ (by simp;omega) h2
end Go.Proofs.YtkgjfdanjmnmbaaGreatDoor.So


/- Plain mathematics: there and back, the text itself. -/
namespace Go.Proofs.YtkgjfdanjmnmbaaGreatDoor.So
open Go.RowKit
open Sh (bt bt_get bt_lt strF strF_size bt_strF strF_congr)
def ch (t:ByteArray) (y:Nat):Nat:=bt t (y%t.size)
theorem bt_list (t:ByteArray) (j:Nat) (h:j<t.data.toList.length):bt t j=(t.data.toList[j]).toNat:=by
 unfold bt
 rw[List.getD_eq_getElem?_getD,List.getElem?_eq_getElem h]
 rfl
theorem size_list (t:ByteArray):t.data.toList.length=t.size:=by simp
theorem ch_of {t:ByteArray} {x y:Nat} (hx:x<t.size) (hy:y<t.size) (h:rl t.data.toList x=rl t.data.toList y) (i:Nat):ch t (x+i)=ch t (y+i):=by
 have e:∀ z,ch t (z+i)=ch t (z+i%t.size):=fun z=>by
  unfold ch
  rw[Nat.add_mod_mod]
 have hl:=size_list t
 rw[e x,e y]
 have hi:i%t.size<t.size:=Nat.mod_lt _ (by omega)
 unfold ch
 rw[bt_list t _ (by rw[hl];exact Nat.mod_lt _ (by omega)),bt_list t _ (by rw[hl];exact Nat.mod_lt _ (by omega))]
 have:=rl_inj (by rw[hl];exact hx) (by rw[hl];exact hy) h (i%t.size) (by rw[hl];exact hi)
 simp only[hl]at this
 rw[this]
theorem ch_prv (t:ByteArray) (x i:Nat) (hx:x<t.size):ch t (prv t.size x+(i+1))=ch t (x+i):=by
 unfold ch
 rw[show prv t.size x+(i+1)=(prv t.size x+1)+i by omega,Nat.add_mod,prv_next hx,Nat.add_mod x i,Nat.mod_eq_of_lt hx]
theorem clT_list (t:ByteArray) (x y:Nat):clT (turnV t) x y=decide (rl t.data.toList x<rl t.data.toList y):=by
 unfold clT
 rw[bless_eq,ByteArray.toList_eq,ByteArray.toList_eq,turnV_list,turnV_list]
 rfl
theorem atK_hit (f:Nat->Nat):∀ n,(∃ k,k<n/\f k=0)->atK f n<n/\f (atK f n)=0:=by
 intro n
 induction n with
 |zero=>rintro⟨k,h,_⟩;omega
 |succ n ih =>
  rintro⟨k,h1,h2⟩
  by_cases h0:f n=0
  ·rw[atK,if_pos h0]
   exact⟨by omega,h0⟩
  ·rw[atK,if_neg h0]
   have hk:k<n:=by
    rcases Nat.lt_or_ge k n with h|h
    ·exact h
    ·have:k=n:=by omega
     subst this
     exact absurd h2 h0
   have:=ih ⟨k,hk,h2⟩
   exact⟨by omega,this.2⟩
theorem ord_len (t:ByteArray):(ord t).length=t.size:=by
 have:=(ord_ex t).1.length_eq
 simpa using this
theorem ord_map (t:ByteArray):(List.range t.size).map (ordF t)=ord t:=by
 apply List.ext_getElem
 ·simp[ord_len]
 ·intro i h1 h2
  rw[List.getElem_map,List.getElem_range,ordF_list (ord_ex t) i h2]
theorem ordF_lt (t:ByteArray) (j:Nat) (hj:j<t.size):ordF t j<t.size:=by
 have hl:j<(ord t).length:=by rw[ord_len];exact hj
 rw[ordF_list (ord_ex t) j hl]
 have:=(ord_ex t).1.mem_iff.1 (List.getElem_mem hl)
 simpa using this
theorem prv_perm (n:Nat):((List.range n).map (prv n)).Perm (List.range n):=by
 refine(List.perm_ext_iff_of_nodup ?_ List.nodup_range).2 fun y=>?_
 ·unfold List.Nodup
  rw[List.pairwise_map]
  refine List.nodup_range.imp_of_mem fun {x y} hx hy hne e=>hne ?_
  have h1:=prv_next (List.mem_range.1 hx)
  have h2:=prv_next (List.mem_range.1 hy)
  rw[e]at h1
  omega
 ·rw[List.mem_map,List.mem_range]
  constructor
  ·rintro⟨x,hx,rfl⟩
   exact prv_lt (by have:=List.mem_range.1 hx;omega)
  ·intro hy
   by_cases h:y+1<n
   ·exact⟨y+1,List.mem_range.2 h,by rw[prv_succ (by omega),Nat.mod_eq_of_lt hy]⟩
   ·exact⟨0,List.mem_range.2 (by omega),by rw[prv_zero (by omega)];omega⟩
theorem bwtT_size {t:ByteArray} (ht:t.size<=48):(bwtT t).size=t.size:=by
 unfold bwtT
 rw[if_pos ht,strF_size]
theorem bwtT_bt {t:ByteArray} (ht:t.size<=48) (j:Nat) (hj:j<t.size):bt (bwtT t) j=bt t (prv t.size (ordF t j)):=by
 unfold bwtT
 rw[if_pos ht,bt_strF t.size (fun j=>lastB t (ordF t j)) j hj (bt_lt _ _)]
 rfl
theorem lt_not {a b:List UInt8} (h:a<b):¬b<a:=fun h2=>List.lt_irrefl _ (List.lt_trans h h2)
theorem ord_le {t:ByteArray} {j j':Nat} (h:j<j') (hj:j' < t.size):¬rl t.data.toList (ordF t j')<rl t.data.toList (ordF t j):=by
 have h1:j<(ord t).length:=by rw[ord_len];omega
 have h2:j' < (ord t).length:=by rw[ord_len];omega
 have:=List.pairwise_iff_getElem.1 (ord_ex t).2 j j' h1 h2 h
 rw[<-ordF_list (ord_ex t) j h1,<-ordF_list (ord_ex t) j' h2]at this
 rcases this with e|⟨e,_⟩
 ·rw[clT_list]at e
  exact lt_not (of_decide_eq_true e)
 ·rw[clT_list]at e
  exact of_decide_eq_false e
theorem step {t:ByteArray} (ht:t.size<=48) (j:Nat) (hj:j<t.size):rl t.data.toList (prv t.size (ordF t (plF (bwtT t) j)))=rl t.data.toList (ordF t j):=by
 have hl:=size_list t
 have hs:=bwtT_size ht
 have hn:0<t.size:=by omega
 have hb:∀ x,x<t.size->∀ (h:prv t.size (ordF t x)<t.data.toList.length),bt (bwtT t) x=(t.data.toList[prv t.size (ordF t x)]).toNat:=fun x hx h=>by
  rw[bwtT_bt ht x hx,bt_list t _ h]
 have hrp:∀ x,x<t.size->rl t.data.toList (prv t.size (ordF t x))=t.data.toList[prv t.size (ordF t x)]'(by rw[hl];exact prv_lt hn) :: (rl t.data.toList (ordF t x)).dropLast:=fun x hx=>by
  have:=rl_prv t.data.toList (ordF t x) (by rw[hl];exact ordF_lt t x hx)
  simp only[hl]at this
  exact this
 have hA:((pl (bwtT t)).map fun j=>rl t.data.toList (prv t.size (ordF t j))).Pairwise (fun a b=>¬b<a):=by
  rw[List.pairwise_map]
  refine(pl_ok (bwtT t)).2.imp_of_mem fun {x y} hx hy hxy=>?_
  have hx':x<t.size:=by
   have:=(pl_ok (bwtT t)).1.mem_iff.1 hx
   rw[hs]at this
   simpa using this
  have hy':y<t.size:=by
   have:=(pl_ok (bwtT t)).1.mem_iff.1 hy
   rw[hs]at this
   simpa using this
  rw[hrp x hx',hrp y hy']
  intro hlt
  rw[List.cons_lt_cons_iff]at hlt
  have bx:=hb x hx' (by rw[hl];exact prv_lt hn)
  have byy:=hb y hy' (by rw[hl];exact prv_lt hn)
  rcases hxy with e|⟨e,hlt2⟩
  ·have e2:bt (bwtT t) x<bt (bwtT t) y:=of_decide_eq_true e
   rw[bx,byy]at e2
   rcases hlt with h|⟨h,_⟩
   ·have:(t.data.toList[prv t.size (ordF t y)]'(by rw[hl];exact prv_lt hn)).toNat<(t.data.toList[prv t.size (ordF t x)]'(by rw[hl];exact prv_lt hn)).toNat:=h
    omega
   ·rw[h]at e2
    omega
  ·have e2:¬bt (bwtT t) y<bt (bwtT t) x:=of_decide_eq_false e
   rw[bx,byy]at e2
   rcases hlt with h|⟨_,h⟩
   ·exact e2 h
   ·exact dropLast_le (by rw[rl_len,rl_len]) (ord_le hlt2 hy') h
 have hB:((ord t).map (rl t.data.toList)).Pairwise (fun a b=>¬b<a):=by
  rw[List.pairwise_map]
  refine(ord_ex t).2.imp fun {x y} h=>?_
  rcases h with e|⟨e,_⟩
  ·rw[clT_list]at e
   exact lt_not (of_decide_eq_true e)
  ·rw[clT_list]at e
   exact of_decide_eq_false e
 have hP:((pl (bwtT t)).map fun j=>rl t.data.toList (prv t.size (ordF t j))).Perm ((ord t).map (rl t.data.toList)):=by
  have h1:((pl (bwtT t)).map fun j=>prv t.size (ordF t j)).Perm ((List.range t.size).map fun j=>prv t.size (ordF t j)):=by
   have:=(pl_ok (bwtT t)).1
   rw[hs]at this
   exact this.map _
  have h2:((List.range t.size).map fun j=>prv t.size (ordF t j))=(ord t).map (prv t.size):=by
   rw[<-ord_map t,List.map_map]
   rfl
  rw[h2]at h1
  have h3:=(h1.trans ((ord_ex t).1.map (prv t.size))).trans ((prv_perm t.size).trans (ord_ex t).1.symm)
  have h4:=h3.map (rl t.data.toList)
  rw[List.map_map]at h4
  exact h4
 have hE:((pl (bwtT t)).map fun j=>rl t.data.toList (prv t.size (ordF t j)))=(ord t).map (rl t.data.toList):=by
  refine List.Perm.eq_of_pairwise ?_ hA hB hP
  intro a b _ _ h1 h2
  exact List.le_antisymm (show a<=b from h1) (show b<=a from h2)
 have hlp:j<(pl (bwtT t)).length:=by rw[pl_len,hs];exact hj
 have hlo:j<(ord t).length:=by rw[ord_len];exact hj
 have h5:((pl (bwtT t)).map fun j=>rl t.data.toList (prv t.size (ordF t j)))[j]'(by simpa using hlp)=((ord t).map (rl t.data.toList))[j]'(by simpa using hlo):=by
  simp only[hE]
 rw[List.getElem_map,List.getElem_map,plF_get _ j hlp,<-ordF_list (ord_ex t) j hlo]at h5
 exact h5
theorem strF_bt (t:ByteArray):strF t.size (bt t)=t:=by
 have:((List.range t.size).map fun j=>UInt8.ofNat (bt t j))=t.data.toList:=by
  apply List.ext_getElem
  ·simp
  ·intro i h1 h2
   rw[List.getElem_map,List.getElem_range,bt_list t i h2]
   simp
 unfold strF
 rw[this]
theorem back_bwt {t:ByteArray} (ht:t.size<=48):backT (bwtT t) (bwtA t)=t:=by
 have hs:=bwtT_size ht
 unfold backT
 rw[hs]
 refine Eq.trans (strF_congr _ _ _ fun k hk=>?_) (strF_bt t)
 have hn:0<t.size:=by omega
 have hat:bwtA t<t.size/\ordF t (bwtA t)=0:=by
  unfold bwtA
  rw[if_pos ht]
  apply atK_hit
  have h0:0∈ord t:=(ord_ex t).1.mem_iff.2 (List.mem_range.2 hn)
  obtain⟨i,hi,e⟩:=List.getElem_of_mem h0
  exact⟨i,by rw[<-ord_len];exact hi,by rw[ordF_list (ord_ex t) i hi];exact e⟩
 have hlt:∀ k,itR (bwtT t) (bwtA t) k<t.size:=fun k=>by
  have:=itR_lt (bwtT t) (bwtA t) k (by rw[hs];exact hat.1)
  rw[hs]at this
  exact this
 have hst:∀ j,j<t.size->∀ i,ch t (prv t.size (ordF t (plF (bwtT t) j))+i)=ch t (ordF t j+i):=fun j hj i=>by
  have hq:plF (bwtT t) j<t.size:=by
   have:=plF_lt (bwtT t) j (by rw[hs];exact hj)
   rw[hs]at this
   exact this
  exact ch_of (prv_lt hn) (ordF_lt t j hj) (step ht j hj) i
 have inv:∀ k,∀ i,ch t (ordF t (itR (bwtT t) (bwtA t) k)+i)=ch t (k+i):=by
  intro k
  induction k with
  |zero =>
   intro i
   show ch t (ordF t (bwtA t)+i)=_
   rw[hat.2]
  |succ k ih =>
   intro i
   have h1:=hst (itR (bwtT t) (bwtA t) k) (hlt k) (i+1)
   rw[ch_prv t (ordF t (plF (bwtT t) (itR (bwtT t) (bwtA t) k))) i (ordF_lt t _ (hlt (k+1))),ih (i+1)]at h1
   rw[show k+1+i=k+(i+1) by omega]
   exact h1
 rw[bwtT_bt ht _ (hlt (k+1))]
 have h1:=hst (itR (bwtT t) (bwtA t) k) (hlt k) 0
 rw[inv k 0]at h1
 simp only[Nat.add_zero]at h1
 unfold ch at h1
 rw[Nat.mod_eq_of_lt hk,Nat.mod_eq_of_lt (prv_lt hn)]at h1
 exact h1
theorem unR_bwt {t:ByteArray} (ht:t.size<=48):unR (bwtT t) ((bwtA t:Nat):Int)=tOut t 0 0:=by
 have hb:=back_bwt ht
 have hs:=bwtT_size ht
 have ha:bwtA t<=t.size:=by unfold bwtA;rw[if_pos ht];exact atK_le _ _
 have hlt:bwtA t<(bwtT t).size∨bwtA t=0:=by
  rw[hs]
  by_cases h0:t.size=0
  ·right;omega
  ·left
   unfold bwtA
   rw[if_pos ht]
   refine(atK_hit _ _ ?_).1
   have h0:0∈ord t:=(ord_ex t).1.mem_iff.2 (List.mem_range.2 (by omega))
   obtain⟨i,hi,e⟩:=List.getElem_of_mem h0
   exact⟨i,by rw[<-ord_len];exact hi,by rw[ordF_list (ord_ex t) i hi];exact e⟩
 rw[unR_yes (by omega) hlt (by rw[hb];exact⟨rfl,rfl⟩),hb]
end Go.Proofs.YtkgjfdanjmnmbaaGreatDoor.So


/- Plain mathematics of BlockUnpack: the table of lengths comes back, and the block from what a table and bits tell. -/
namespace Go.Proofs.YtkgjfdanjmnmbaaGreatDoor.Up
open Pk
open Hf (up up_length up_at dep lenOf)
open Bi (putR putL okS whole above packR packV openR getR good open_all get_put put_good)
open Go.Proofs.YtkgjfdanjmnmbaaGreatDoor.So (bwtT bwtA unR unR_bwt tOut bwtT_size)
open Fr (frontR fbackR front_back frontR_yes fst_full look_some fst_more)
open Ze (zerosR backR zeros_back numsR upTo_of)
def syL (d:List Nat) (k:Nat):List Nat:=(List.range k).filter fun i=>decide (0<d.getD i 0)
theorem syL_lt {d:List Nat} {k:Nat}:∀ i∈syL d k,i<k:=fun _ hi=>List.mem_range.1 (List.mem_filter.1 hi).1
theorem rowT_eq (d:List Nat) (k:Nat):rowT d k=(syL d k).flatMap fun (i:Nat)=>[(i:Int),((d.getD i 0:Nat):Int)]:=by
 induction k with
 |zero=>rfl
 |succ k ih =>
  rw[rowT]
  unfold syL at ih ⊢
  rw[List.range_succ,List.filter_append,List.flatMap_append,<-ih]
  by_cases h:0<d.getD k 0
  ·rw[if_pos h,List.filter_cons_of_pos (by simpa using h)]
   simp
  ·rw[if_neg h,List.filter_cons_of_neg (by simpa using h)]
   simp
theorem above_eq (d:List Nat):above (up d)=(syL d d.length).length:=by
 have e:d=(List.range d.length).map fun i=>d.getD i 0:=by
  refine List.ext_getElem (by simp) fun i h1 h2=>?_
  rw[List.getElem_map,List.getElem_range,List.getD_eq_getElem?_getD,List.getElem?_eq_getElem h1]
  rfl
 unfold above up syL
 rw[List.countP_map,List.countP_eq_length_filter]
 conv=>lhs;rw[e]
 rw[List.filter_map,List.length_map]
 congr 1
 refine List.filter_congr fun i _=>?_
 simp
def tabL (d a:List Nat) (s:List Nat):List Nat:=s.foldl (fun a i=>a.set i (d.getD i 0)) a
theorem tabL_length (d:List Nat) (s:List Nat):∀ a,(tabL d a s).length=a.length:=by
 induction s with
 |nil=>intro a;rfl
 |cons i s ih =>
  intro a
  show (tabL d (a.set i (d.getD i 0)) s).length=_
  rw[ih,List.length_set]
theorem tabL_next (d a s:List Nat) (k:Nat) (h:k<s.length):tabL d a (s.take (k+1))=(tabL d a (s.take k)).set s[k] (d.getD s[k] 0):=by
 unfold tabL
 rw[List.take_succ_eq_append_getElem h,List.foldl_append]
 rfl
theorem tabL_get (d:List Nat) (s:List Nat):∀ (a:List Nat),(∀ i∈s,i<a.length)->∀ j,(tabL d a s).getD j 0=if j∈s then d.getD j 0 else a.getD j 0:=by
 induction s with
 |nil=>intro a _ j;rw[if_neg (List.not_mem_nil)];rfl
 |cons i s ih =>
  intro a h j
  have hi:=h i (List.mem_cons_self ..)
  show (tabL d (a.set i (d.getD i 0)) s).getD j 0=_
  rw[ih _ (fun x hx=>by rw[List.length_set];exact h x (List.mem_cons_of_mem _ hx)),Hf.getD_set _ _ _ _ hi]
  by_cases hj:j∈s
  ·rw[if_pos hj,if_pos (List.mem_cons_of_mem _ hj)]
  ·rw[if_neg hj]
   by_cases e:j=i
   ·subst e
    rw[if_pos rfl,if_pos (List.mem_cons_self ..)]
   ·rw[if_neg (by simpa using e),if_neg (by simp[hj,e])]
theorem tabL_all (d:List Nat) (h:d.length=257):tabL d (Hf.zeros 257) (syL d 257)=d:=by
 have hl:(tabL d (Hf.zeros 257) (syL d 257)).length=257:=by rw[tabL_length,zeros_length]
 refine List.ext_getElem (by rw[hl,h]) fun i h1 h2=>?_
 have hg:=tabL_get d (syL d 257) (Hf.zeros 257) (fun i hi=>by rw[zeros_length];exact syL_lt i hi) i
 rw[List.getD_eq_getElem?_getD,List.getElem?_eq_getElem h1]at hg
 have hd:d.getD i 0=d[i]:=by rw[List.getD_eq_getElem?_getD,List.getElem?_eq_getElem h2];rfl
 have hz:(Hf.zeros 257).getD i 0=0:=by
  unfold Hf.zeros
  rw[List.getD_eq_getElem?_getD,List.getElem?_replicate]
  split<;>rfl
 rw[hd,hz]at hg
 rw[show (tabL d (Hf.zeros 257) (syL d 257))[i]=_ from hg]
 split
 ·rfl
 ·rename_i hn
  have:¬0<d.getD i 0:=fun h0=>hn (List.mem_filter.2 ⟨List.mem_range.2 (by omega),by simpa using h0⟩)
  omega
def Good (s b:ByteArray):Prop:=b.size<=48/\s=shortV b/\(shortV b).size<b.size+1
theorem front_nums (l:List UInt8) (h:l.length<=400):numsR (frontR l) 255=true:=by
 have h0:=fst_full l l.length (Nat.le_refl _)
 rw[List.take_length]at h0
 rw[frontR_yes h]
 have hall:∀ k,k<=l.length->∀ x∈(Fr.fst' (l.take k)).1,0<=x/\x<=255:=by
  intro k
  induction k with
  |zero=>intro _ x hx;cases hx
  |succ k ih =>
   intro hk x hx
   have hf:=(fst_full l k (by omega)).1
   obtain⟨h1,_,_⟩:=look_some hf (c:=l[k].toNat) (UInt8.toNat_lt _)
   rw[fst_more hk]at hx
   rcases List.mem_append.1 hx with hx|hx
   ·exact ih (by omega) x hx
   ·rw[List.mem_singleton.1 hx]
    omega
 have:=hall l.length (Nat.le_refl _)
 rw[List.take_length]at this
 unfold numsR
 rw[decide_eq_true (by omega),upTo_of this]
 rfl
theorem bwt_len {b:ByteArray} (h:b.size<=48):(bwtT b).data.toList.length=b.size:=by
 rw[Array.length_toList]
 exact bwtT_size h
theorem sym_back {b:ByteArray} (h:b.size<=48):backR (symS b)=frontR (bwtT b).data.toList:=zeros_back (front_nums _ (by rw[bwt_len h];omega))
theorem text_of_sym {b:ByteArray} (h:b.size<=48):(⟨(fbackR (backR (symS b))).toArray⟩:ByteArray)=bwtT b:=by
 rw[sym_back h,front_back _ (by rw[bwt_len h];omega)]
theorem block_back {b:ByteArray} (h:b.size<=48):unR ⟨(fbackR (backR (symS b))).toArray⟩ ((bwtA b:Nat):Int)=tOut b 0 0:=by
 rw[text_of_sym h]
 exact unR_bwt h
theorem sym_some {b:ByteArray} (h:b.size<=48) (h0:0<b.size):0<above (up (lenS b)):=by
 cases hs:symS b with
 |nil =>
  exfalso
  have h1:=text_of_sym h
  rw[hs]at h1
  have h2:=bwtT_size h
  have e:(fbackR (backR []))=[]:=by
   have:backR []=[]:=by decide
   rw[this]
   decide
  rw[e]at h1
  rw[<-h1]at h2
  have h3:0=b.size:=h2
  omega
 |cons x l =>
  obtain⟨h1,h2,h3⟩:=symS_ok b x (by rw[hs];exact List.mem_cons_self ..)
  unfold above
  rw[List.countP_pos_iff]
  have hl:x.toNat<(up (lenS b)).length:=by omega
  rw[List.getD_eq_getElem?_getD,List.getElem?_eq_getElem hl]at h3
  exact⟨_,List.getElem_mem hl,by simpa using h3⟩
theorem good_pos {s b:ByteArray} (h:Good s b):0<b.size:=by
 have h1:=h.2.2
 have h2:1<=(shortV b).size:=by
  show 1<=(shortL b).toArray.size
  rw[List.size_toArray]
  unfold shortL
  simp
 omega
theorem bits_back {s b:ByteArray} (h:Good s b):getR (up (lenS b)) (openR (bitsS b) (8*((bitsS b).size:Int))) ((symS b).length:Int)=(symS b,((putL (up (lenS b)) (symS b)).length:Int),0):=by
 have ha:=sym_some h.1 (good_pos h)
 have hb:bitsS b=packV ⟨(putL (up (lenS b)) (symS b)).toArray⟩:=by
  unfold bitsS
  rw[bits_some b ha]
  have:=bits_size b
  rw[bits_some b ha]at this
  exact Bi.packR_yes _ (by omega) (put_good _ _)
 have hz:(⟨(putL (up (lenS b)) (symS b)).toArray⟩:ByteArray).size<=4800:=by
  have:=bits_size b
  rw[bits_some b ha]at this
  exact this
 obtain⟨z,h1,h2⟩:=open_all (put_good (up (lenS b)) (symS b)) (by omega)
 rw[<-hb]at h1 h2
 rw[show (8*((bitsS b).size:Int))=((8*(bitsS b).size:Nat):Int) by omega]
 refine get_put (lenS_whole b ha) (symS_ok b) (symS_len b) (z:=z) (by rw[h1]) ?_ h2
 have hbs:(bitsS b).size<=601:=by rw[hb,Bi.packV_size];omega
 have:(openR (bitsS b) ((8*(bitsS b).size:Nat):Int)).size<=8*(bitsS b).size:=by
  rw[Bi.openR_yes _ _ (by omega) (Nat.le_refl _)]
  exact Nat.le_of_eq (Sh.strF_size _ _)
 omega
end Go.Proofs.YtkgjfdanjmnmbaaGreatDoor.Up


/- Plain mathematics of numbers as bytes, there and back: what is read where a number is written is the number; of its bytes without the last one nothing is read but that they end too early. -/
namespace Go.Proofs.YtkgjfdanjmnmbaaGreatDoor.Nm2
open Nu Go.Proofs.YtkgjfdanjmnmbaaGreatDoor.Gn
theorem unz_zz (n:Int):unz (zz n)=n:=by
 unfold zz
 split
 ·rw[unz_odd _ (by omega)];omega
 ·rw[unz_even _ (by omega)];omega
theorem pow_eq (k:Nat):2 ^ (7*k)=128 ^ k:=by rw[Nat.pow_mul]
theorem cnt_spec (U:Nat) (hU:U<18446744073709551616):cnt 9 U<=9/\(∀ j,j<cnt 9 U->128<=U/128 ^ j)/\U/128 ^ cnt 9 U<128:=by
 have key:∀ f u,u/128 ^ f<128->(∀ j,j<cnt f u->128<=u/128 ^ j)/\u/128 ^ cnt f u<128:=by
  intro f
  induction f with
  |zero=>intro u h;exact⟨fun j hj=>absurd hj (Nat.not_lt_zero j),by simpa [cnt] using h⟩
  |succ f ih =>
   intro u h
   unfold cnt
   split
   ·rename_i hlt
    exact⟨fun j hj=>absurd hj (Nat.not_lt_zero j),by simpa using hlt⟩
   ·rename_i hge
    rw[div_pow]at h
    obtain⟨h1,h2⟩:=ih (u/128) h
    refine⟨fun j hj=>?_,by rw[div_pow];exact h2⟩
    match j with
    |0=>simpa using (by omega:128<=u)
    |j+1=>rw[div_pow];exact h1 j (by omega)
 refine⟨cnt_le 9 U,key 9 U ?_⟩
 have e:(128:Nat) ^ 9=9223372036854775808:=by decide
 rw[e]
 omega
theorem mod_next (U k:Nat):U%128 ^ k+U/128 ^ k%128*128 ^ k=U%128 ^ (k+1):=by
 rw[Nat.pow_succ,Nat.mod_mul,Nat.mul_comm (128 ^ k)]
theorem dec (s:ByteArray) (U p0 K:Nat) (hU:U<18446744073709551616) (hK:K<=9) (hall:∀ j,j<K->128<=U/128 ^ j) (hlast:U/128 ^ K<128)
  (hsz:p0+K<s.size) (hb:∀ j,j<K->byteN s (p0+j)=U/128 ^ j%128+128) (hbl:byteN s (p0+K)=U/128 ^ K) :
  ∀ d k,K-k=d->k<=K->run s (10-k) k (p0+k) (U%128 ^ k)=(U,p0+K+1,0):=by
 intro d
 induction d with
 |zero =>
  intro k hd hk
  obtain rfl:k=K:=by omega
  obtain⟨f,hf⟩:∃ f,10-k=f+1:=⟨9-k,by omega⟩
  have e:=byteN_eq s (p0+k) hsz
  rw[hbl]at e
  have h9:¬(k=9/\1<s[p0+k].toNat):=by
   rintro⟨rfl,h⟩
   rw[e,show (128:Nat) ^ 9=9223372036854775808 from by decide]at h
   omega
  have hz:¬(s[p0+k].toNat=0/\0<k):=by
   rintro⟨h,hk0⟩
   have h1:=hall (k-1) (by omega)
   rw[e,show k=(k-1)+1 from by omega,pow_div]at h
   omega
  rw[hf,run_last s f k (p0+k) _ hsz h9 (by rw[e];exact hlast) hz,e,pow_eq,Nat.mod_eq_of_lt hlast]
  have hm:U%128 ^ k+U/128 ^ k*128 ^ k=U:=by rw[Nat.mul_comm];exact Nat.mod_add_div U (128 ^ k)
  rw[hm]
 |succ d ih =>
  intro k hd hk
  have hlt:k<K:=by omega
  obtain⟨f,hf⟩:∃ f,10-k=f+1:=⟨9-k,by omega⟩
  have hp:p0+k<s.size:=by omega
  have e:=byteN_eq s (p0+k) hp
  rw[hb k hlt]at e
  rw[hf,run_more s f k (p0+k) _ hp (by omega) (by omega),e,pow_eq,Nat.add_mod_right,Nat.mod_mod,mod_next,show f=10-(k+1) from by omega]
  exact ih (k+1) (by omega) (by omega)
end Go.Proofs.YtkgjfdanjmnmbaaGreatDoor.Nm2


/- Numbers and texts there and back, said of what PutNum, GetNum, PutText and GetText answer. -/
namespace Go.Proofs.YtkgjfdanjmnmbaaGreatDoor.Nm2
open Nu Go.Proofs.YtkgjfdanjmnmbaaGreatDoor.Gn
theorem getD_mid (pre l post:List UInt8) (j:Nat) (h:j<l.length):(pre++(l++post)).getD (pre.length+j) 0=l.getD j 0:=by
 rw[List.getD_eq_getElem?_getD,List.getD_eq_getElem?_getD,List.getElem?_append_right (by omega),List.getElem?_append_left (by omega)]
 congr 2
 omega
theorem numH_get (U K j:Nat) (hj:j<K):(numH U K).getD j 0=UInt8.ofNat (U/128 ^ j%128+128):=by
 rw[List.getD_eq_getElem?_getD]
 simp[numH,hj]
theorem numL_get (U K j:Nat) (hj:j<K):(numL U K).getD j 0=UInt8.ofNat (U/128 ^ j%128+128):=by
 rw[<-numH_get U K j hj,List.getD_eq_getElem?_getD,List.getD_eq_getElem?_getD]
 unfold numL
 rw[List.getElem?_append_left (by rw[numH_length];exact hj)]
theorem numL_last (U K:Nat):(numL U K).getD K 0=UInt8.ofNat (U/128 ^ K):=by
 rw[List.getD_eq_getElem?_getD]
 unfold numL
 rw[List.getElem?_append_right (by rw[numH_length];omega),numH_length]
 simp
theorem size_of (s:ByteArray):s.size=s.data.toList.length:=by rw[Array.length_toList];rfl
theorem mid (s:ByteArray) (U:Nat) (pre post:List UInt8) (hU:U<18446744073709551616) (h:s.data.toList=pre++(numB U++post)) :
  numR s pre.length=(U,pre.length+(numB U).length,0):=by
 obtain⟨hK,hall,hlast⟩:=cnt_spec U hU
 have hn:numB U=numL U (cnt 9 U):=rfl
 have hlen:(numB U).length=cnt 9 U+1:=by rw[hn,numL_length]
 have hsz:s.size=pre.length+(cnt 9 U+1)+post.length:=by rw[size_of,h];simp[hlen];omega
 have hd:=dec s U pre.length (cnt 9 U) hU hK hall hlast (by omega)
  (fun j hj=>by
   unfold byteN
   rw[h,getD_mid pre _ post j (by omega),hn,numL_get _ _ _ hj,UInt8.toNat_ofNat',Nat.mod_eq_of_lt (by omega)])
  (by
   unfold byteN
   rw[h,getD_mid pre _ post _ (by omega),hn,numL_last,UInt8.toNat_ofNat',Nat.mod_eq_of_lt (by omega)])
  (cnt 9 U) 0 (by omega) (by omega)
 rw[Nat.pow_zero,Nat.mod_one]at hd
 rw[hlen]
 exact hd
theorem putS_list (n:Int):(putS n).data.toList=numB (zz n):=rfl
theorem putS_len (n:Int):(putS n).size=(numB (zz n)).length:=by rw[size_of,putS_list]
theorem rd_of (s:ByteArray) (a u p:Nat) (c:Int) (hs:s.size<=8000) (h:numR s a=(u,p,c)):rd s (a:Int)=(unz u,p,c):=by
 unfold rd
 rw[if_neg (by omega),if_neg (by omega),Int.toNat_natCast,h]
theorem num_back (s:ByteArray) (n:Int) (pre post:List UInt8) (h1:-9223372036854775808<=n) (h2:n<=9223372036854775807) (hs:s.size<=8000)
  (h:s.data.toList=pre++(numB (zz n)++post)):rd s (pre.length:Int)=(n,pre.length+(putS n).size,0):=by
 rw[rd_of s pre.length _ _ _ hs (mid s (zz n) pre post (zz_lt n h1 h2) h),unz_zz,putS_len]
theorem extract_list (s:ByteArray) (a b:Nat):(s.extract a b).data.toList=(s.data.toList.drop a).take (b-a):=by
 rw[ByteArray.data_extract,Array.toList_extract,List.extract_eq_take_drop]
end Go.Proofs.YtkgjfdanjmnmbaaGreatDoor.Nm2


/- Plain mathematics of BlockUnpack: the numbers of a short form are read where they stand. -/
namespace Go.Proofs.YtkgjfdanjmnmbaaGreatDoor.Up
open Pk
open Hf (up up_length)
open Bi (above)
open Go.Proofs.YtkgjfdanjmnmbaaGreatDoor.So (bwtA)
open Nu (numB zz putS)
open Gn (rd)
open Nm2 (num_back extract_list)
noncomputable def numsAll (b:ByteArray):List Int:=headS b++rowT (lenS b) 257
noncomputable def posK (b:ByteArray) (k:Nat):Nat:=1+(numsL ((numsAll b).take k)).length
theorem numsL_append (a c:List Int):numsL (a++c)=numsL a++numsL c:=by unfold numsL;rw[List.flatMap_append]
theorem short_list {s b:ByteArray} (h:Good s b):s.data.toList=[1]++(numsL (numsAll b)++(bitsS b).data.toList):=by
 rw[h.2.1]
 show (shortL b).toArray.toList=_
 unfold shortL numsAll
 rw[numsL_append]
 simp
theorem bwtA_le {b:ByteArray} (h:b.size<=48):bwtA b<=b.size:=by unfold bwtA;rw[if_pos h];exact So.atK_le _ _
theorem above_le (b:ByteArray):above (up (lenS b))<=257:=by
 have h:=(lenS_facts b).1
 unfold above
 refine Nat.le_trans (List.countP_le_length) ?_
 rw[up_length,h]
 exact Nat.le_refl _
theorem numsAll_mem {b:ByteArray} (h:b.size<=48):∀ x∈numsAll b,0<=x/\x<=400:=by
 intro x hx
 have h1:=bwtA_le h
 have h2:=symS_len b
 have h3:=above_le b
 rcases List.mem_append.1 hx with hx|hx
 ·unfold headS at hx
  simp only[List.mem_cons,List.not_mem_nil,or_false]at hx
  omega
 ·have:=rowT_mem (lenS b) 12 (lenS_facts b).2.1 257 x hx
  omega
theorem rd_good {s b:ByteArray} (h:Good s b) (k:Nat) (hk:k<(numsAll b).length):rd s (posK b k:Int)=((numsAll b)[k],posK b (k+1),0):=by
 have hm:=numsAll_mem h.1 _ (List.getElem_mem hk)
 have hs:s.size<=8000:=by have:=h.2.2;have:=h.1;rw[h.2.1];omega
 have hl:s.data.toList=([1]++numsL ((numsAll b).take k))++(numB (zz (numsAll b)[k])++(numsL ((numsAll b).drop (k+1))++(bitsS b).data.toList)):=by
  rw[short_list h]
  conv=>lhs;rw[<-List.take_append_drop k (numsAll b),List.drop_eq_getElem_cons hk]
  rw[numsL_append]
  have:numsL ((numsAll b)[k] :: (numsAll b).drop (k+1))=numB (zz (numsAll b)[k])++numsL ((numsAll b).drop (k+1)):=by
   unfold numsL
   rw[List.flatMap_cons]
   rfl
  rw[this]
  simp
 have:=num_back s (numsAll b)[k] _ _ (by omega) (by omega) hs hl
 have e1:(([1]++numsL ((numsAll b).take k)).length:Nat)=posK b k:=by unfold posK;simp;omega
 rw[e1]at this
 rw[this]
 have e2:posK b k+(putS (numsAll b)[k]).size=posK b (k+1):=by
  unfold posK
  rw[List.take_succ_eq_append_getElem hk,numsL_append,List.length_append]
  have:(numsL [(numsAll b)[k]]).length=(putS (numsAll b)[k]).size:=by
   unfold numsL
   simp
  omega
 rw[e2]
theorem pair_get {f g:Nat->Int} (s:List Nat):∀ (j:Nat) (hj:j<s.length),(s.flatMap fun i=>[f i,g i])[2*j]? = some (f s[j])/\(s.flatMap fun i=>[f i,g i])[2*j+1]? = some (g s[j]):=by
 induction s with
 |nil=>intro j hj;exact absurd hj (Nat.not_lt_zero _)
 |cons x s ih =>
  intro j hj
  rw[List.flatMap_cons]
  cases j with
  |zero=>exact⟨rfl,rfl⟩
  |succ j =>
   have:=ih j (by simpa using hj)
   rw[show 2*(j+1)=2*j+2 by omega,show 2*j+2+1=2*j+1+2 by omega]
   simpa using this
theorem numsAll_len (b:ByteArray):(numsAll b).length=4+2*above (up (lenS b)):=by
 unfold numsAll headS
 rw[List.length_append,rowT_eq,above_eq,(lenS_facts b).1]
 generalize syL (lenS b) 257=s
 have:(s.flatMap fun (i:Nat)=>[(i:Int),(((lenS b).getD i 0:Nat):Int)]).length=2*s.length:=by
  induction s with
  |nil=>rfl
  |cons x s ih=>rw[List.flatMap_cons,List.length_append,ih];simp;omega
 rw[this]
 simp
theorem numsAll_head (b:ByteArray):(numsAll b)[0]? = some (b.size:Int)/\(numsAll b)[1]? = some ((bwtA b:Nat):Int)/\(numsAll b)[2]? = some ((symS b).length:Int)/\(numsAll b)[3]? = some ((above (up (lenS b)):Nat):Int):=by
 unfold numsAll headS
 exact⟨rfl,rfl,rfl,rfl⟩
theorem numsAll_pair (b:ByteArray) (j:Nat) (hj:j<(syL (lenS b) 257).length):(numsAll b)[4+2*j]? = some ((syL (lenS b) 257)[j]:Int)/\(numsAll b)[4+2*j+1]? = some (((lenS b).getD (syL (lenS b) 257)[j] 0:Nat):Int):=by
 have h:=pair_get (f:=fun i=>(i:Int)) (g:=fun i=>(((lenS b).getD i 0:Nat):Int)) (syL (lenS b) 257) j hj
 unfold numsAll headS
 rw[rowT_eq]
 rw[List.getElem?_append_right (by simp),List.getElem?_append_right (by simp;omega)]
 simp only[List.length_cons,List.length_nil]
 rw[show 4+2*j-(0+1+1+1+1)=2*j by omega,show 4+2*j+1-(0+1+1+1+1)=2*j+1 by omega]
 exact h
theorem posK_all {s b:ByteArray} (h:Good s b):posK b (numsAll b).length<=s.size/\s.extract (posK b (numsAll b).length) s.size=bitsS b:=by
 have hl:=short_list h
 have hs:s.size=1+(numsL (numsAll b)).length+(bitsS b).data.toList.length:=by
  show s.data.size=_
  rw[<-Array.length_toList,hl]
  simp
  omega
 unfold posK
 rw[List.take_length]
 refine⟨by omega,Bi.ext_list ?_⟩
 rw[extract_list,hl,<-List.append_assoc,List.drop_left' (by simp;omega),List.take_of_length_le]
 omega
end Go.Proofs.YtkgjfdanjmnmbaaGreatDoor.Up


/- The laws' marks found again; an empty row too. -/
namespace Go.Proofs.YtkgjfdanjmnmbaaGreatDoor.In
open Go.RowKit
end Go.Proofs.YtkgjfdanjmnmbaaGreatDoor.In


/- Rows of numbers between two marks of memory: what the laws' helpers do with them. -/
namespace Go.Proofs.YtkgjfdanjmnmbaaGreatDoor.In
open Go.RowKit
open St (Aft)
def OwnIn (w:World) (lo hi:Nat) (v:Value) (l:List Int):Prop :=
 (v=.slice none 0 0/\l=[])∨∃ g cap,v=.slice (some ⟨g,0,none⟩) l.length cap/\lo<=g/\g<hi/\IsO w g 2 l
theorem OwnI.inn {w:World} {base:Nat} {v:Value} {l:List Int} (h:OwnI w base v l):OwnIn w base w.heap.size v l:=by
 rcases h.split with h|⟨g,cap,hv,hg,_,ho⟩
 ·exact .inl h
 ·exact .inr ⟨g,cap,hv,hg,ho.lt,ho⟩
theorem IsI.inn {w:World} {g:Nat} {l:List Int} (h:IsI w g 2 l) (cap:Nat):OwnIn w g (g+1) (.slice (some ⟨g,0,none⟩) l.length cap) l :=
 .inr ⟨g,cap,rfl,Nat.le_refl _,Nat.lt_succ_self _,h.own⟩
theorem OwnIn.below {w w':World} {lo hi B:Nat} {v:Value} {l:List Int} (h:OwnIn w lo hi v l) (b:Below B w w') (hB:hi<=B):OwnIn w' lo hi v l:=by
 rcases h with h|⟨g,cap,hv,hg,hh,ho⟩
 ·exact .inl h
 ·exact .inr ⟨g,cap,hv,hg,hh,ho.below b (by omega)⟩
theorem OwnIn.aft {w w':World} {lo hi g:Nat} {v:Value} {l:List Int} (h:OwnIn w lo hi v l) (ha:Aft g w w') (hg:g<lo∨hi<=g) (hh:hi<=w.heap.size):OwnIn w' lo hi v l:=by
 rcases h with h|⟨g',cap,hv,hg',hh',ho⟩
 ·exact .inl h
 ·exact .inr ⟨g',cap,hv,hg',hh',ho.of_heap (ha.2.2.2.2 g' (by omega) (by omega))⟩
theorem OwnIn.ints {w:World} {lo hi:Nat} {v:Value} {l:List Int} (h:OwnIn w lo hi v l):∃ a cap,v=.slice a l.length cap/\Ints w hi a l:=by
 rcases h with⟨rfl,rfl⟩|⟨g,cap,rfl,_,hh,ho⟩
 ·exact⟨none,0,rfl,.inl rfl⟩
 ·exact⟨_,cap,rfl,ho.ints hh⟩
def IntMarked (w:World) (lo hi:Nat) (v:Value) (n:Nat):Prop:=OwnIn w lo hi v (marks 1 n)
end Go.Proofs.YtkgjfdanjmnmbaaGreatDoor.In

