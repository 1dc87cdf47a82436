import Derived.Test.YtaejgfdkfcmjeaaGreatDoorMz23
import Derived.Test.YtaejgfdkfcmjeaaGreatDoorMz6
import Derived.Deep.RegionLaw
set_option maxRecDepth 100000
set_option maxHeartbeats 8000000
namespace Go.Proofs.YtaejgfdkfcmjeaaGreatDoor
open Go.RowKit
open Go.Proofs.Tryz
namespace So
theorem rot_none {s m e:Nat} (f:Nat->Nat) (h1:s<=m) (h2:m<=e) (h:s=m∨m=e):rotF s m e f=f:=by
 funext k
 unfold rotF
 rcases h with rfl|rfl
 ·repeat' split
  all_goals first|omega|(congr 1;omega)|rfl
 ·repeat' split
  all_goals first|omega|(congr 1;omega)|rfl
structure Cut (cl:Nat->Nat->Bool) (a m b mid s e:Nat) (f:Nat->Nat):Prop where
 lo0:a<=s
 smid:s<=mid
 mide:mid<=e
 eb:e<=b
 sm:s<=m
 me:m<=e
 sum:s+e=mid+m
 low:a<s->e<b->lx cl (f (s-1)) (f e)
 high:s<m->m<e->lx cl (f (e-1)) (f s)
section
variable {cl : Nat → Nat → Bool} {a m b mid s e : Nat} {f : Nat → Nat}
theorem Cut.perm (c:Cut cl a m b mid s e f):PermF a b f (rotF s m e f):=(rot_perm f c.sm c.me).mono c.lo0 (Nat.le_trans c.sm c.me) c.eb
theorem Cut.g1 (c:Cut cl a m b mid s e f) (k:Nat) (h:k<s):rotF s m e f k=f k:=rot_out f k (Or.inl h) c.sm c.me
theorem Cut.g2 (c:Cut cl a m b mid s e f) (k:Nat) (h1:s<=k) (h2:k<mid):rotF s m e f k=f (k-s+m):=rot_first f k h1 (by have:=c.sum;have:=c.me;omega)
theorem Cut.g3 (c:Cut cl a m b mid s e f) (k:Nat) (h1:mid<=k) (h2:k<e):rotF s m e f k=f (k-(e-m)):=rot_second f k (by have:=c.smid;omega) (by have:=c.sum;have:=c.me;omega) h2
theorem Cut.g4 (c:Cut cl a m b mid s e f) (k:Nat) (h:e<=k):rotF s m e f k=f k:=rot_out f k (Or.inr h) c.sm c.me
theorem Cut.ris1 (c:Cut cl a m b mid s e f) (h:Ris cl a m f):Ris cl a s (rotF s m e f):=fun i j h1 h2 h3=>by
 rw[c.g1 i (by omega),c.g1 j h3];exact h i j h1 h2 (by have:=c.sm;omega)
theorem Cut.ris2 (c:Cut cl a m b mid s e f) (h:Ris cl m b f):Ris cl s mid (rotF s m e f):=fun i j h1 h2 h3=>by
 rw[c.g2 i h1 (by omega),c.g2 j (by omega) h3];exact h _ _ (by omega) (by omega) (by have:=c.sum;have:=c.eb;omega)
theorem Cut.ris3 (c:Cut cl a m b mid s e f) (h:Ris cl a m f):Ris cl mid e (rotF s m e f):=fun i j h1 h2 h3=>by
 have:=c.sum
 have:=c.me
 rw[c.g3 i h1 (by omega),c.g3 j (by omega) h3];exact h _ _ (by have:=c.lo0;omega) (by omega) (by omega)
theorem Cut.ris4 (c:Cut cl a m b mid s e f) (h:Ris cl m b f):Ris cl e b (rotF s m e f):=fun i j h1 h2 h3=>by
 rw[c.g4 i h1,c.g4 j (by omega)];exact h i j (by have:=c.me;omega) h2 h3
theorem Cut.sep1 (c:Cut cl a m b mid s e f) (h:Sep a m b f):Sep a s mid (rotF s m e f):=fun i j h1 h2 h3 h4=>by
 rw[c.g1 i h2,c.g2 j h3 h4];exact h _ _ h1 (by have:=c.sm;omega) (by omega) (by have:=c.sum;have:=c.eb;omega)
theorem Cut.sep2 (c:Cut cl a m b mid s e f) (h:Sep a m b f):Sep mid e b (rotF s m e f):=fun i j h1 h2 h3 h4=>by
 have:=c.sum
 have:=c.me
 rw[c.g3 i h1 h2,c.g4 j h3];exact h _ _ (by have:=c.lo0;omega) (by omega) (by omega) h4
theorem Cut.cross (c:Cut cl a m b mid s e f) (hw:Weak cl) (h1:Ris cl a m f) (h2:Ris cl m b f) (i j:Nat) (hi:a<=i) (hi2:i<mid) (hj:mid<=j) (hj2:j<b):lx cl (rotF s m e f i) (rotF s m e f j):=by
 have hs:=c.sum;have hme:=c.me;have hsm:=c.sm;have hse:=c.smid;have hme2:=c.mide;by_cases a1:i<s
 ·rw[c.g1 i a1]
  by_cases a2:j<e
  ·rw[c.g3 j hj a2]
   exact h1 _ _ hi (by omega) (by omega)
  ·rw[c.g4 j (by omega)]
   have:=c.low (by omega) (by omega)
   have q1:lx cl (f i) (f e):=h1.le (j:=s-1) hi (by omega) (by omega) hw this;exact h2.ge (i:=e) hme (by omega) hj2 hw q1
 ·rw[c.g2 i (by omega) hi2]
  by_cases a2:j<e
  ·rw[c.g3 j hj a2]
   have:=c.high (by omega) (by omega)
   have q1:lx cl (f (i-s+m)) (f s):=h2.le (j:=e-1) (by omega) (by omega) (by have:=c.eb;omega) hw this;exact h1.ge (i:=s) c.lo0 (by omega) (by omega) hw q1
  ·rw[c.g4 j (by omega)]
   exact h2 _ _ (by omega) (by omega) hj2
end
theorem halves {cl:Nat->Nat->Bool} {a mid b:Nat} {g g1 g2:Nat->Nat} (hx:∀ i j,a<=i->i<mid->mid<=j->j<b->lx cl (g i) (g j)) (ha:a<=mid) (hb:mid<=b)
  (p1:PermF a mid g g1) (p2:PermF mid b g1 g2) (r1:Ris cl a mid g1) (r2:Ris cl mid b g2):PermF a b g g2/\Ris cl a b g2:=by
 refine⟨(p1.mono nl ha hb).trans (p2.mono ha hb nl),?_⟩;have e1:∀ i,a<=i->i<mid->g2 i=g1 i:=fun i _ h=>p2.2 i (Or.inl h);refine Ris.join (r1.congr e1) r2 (fun i j h1 h2 h3 h4=>?_);rw[e1 i h1 h2]
 have q:∀ j,mid<=j->j<b->lx cl (g1 i) (g2 j):=by
  refine p2.all (p:=fun v=>lx cl (g1 i) v) (fun j h3 h4=>?_);rw[p1.2 j (Or.inr h3)];exact p1.all (p:=fun v=>lx cl v (g j)) (fun k h5 h6=>hx k j h5 h6 h3 h4) i h1 h2
 exact q j h3 h4
def Ch (cl:Nat->Nat->Bool) (a b:Nat) (f:Nat->Nat):Prop:=Ris cl a b f/\∀ i,a<=i->i<b->a<=f i/\f i<b
section
variable {cl : Nat → Nat → Bool} {a m b : Nat} {f g : Nat → Nat}
theorem Ch.congr (h:Ch cl a b f) (e:∀ i,a<=i->i<b->g i=f i):Ch cl a b g :=
 ⟨h.1.congr e,fun i h1 h2=>by rw[e i h1 h2];exact h.2 i h1 h2⟩
theorem Ch.sep (h1:Ch cl a m f) (h2:Ch cl m b f):Sep a m b f:=fun i j p1 p2 p3 p4=>by
 have:=(h1.2 i p1 p2).2
 have:=(h2.2 j p3 p4).1
 omega
theorem Ch.merge (h1:Ch cl a m f) (h2:Ch cl m b f) (am:a<=m) (mb:m<=b) (p:PermF a b f g) (r:Ris cl a b g):Ch cl a b g :=
 ⟨r,p.all (p:=fun v=>a<=v/\v<b) fun i p1 p2=>by
  rcases Nat.lt_or_ge i m with e|e
  ·have:=h1.2 i p1 e;omega
  ·have:=h2.2 i e p2;omega⟩
theorem Ch.start (hid:∀ i,a<=i->i<b->f i=i) (p:PermF a b f g) (r:Ris cl a b g):Ch cl a b g :=
 ⟨r,p.all (p:=fun v=>a<=v/\v<b) fun i p1 p2=>by rw[hid i p1 p2];omega⟩
end
def Chs (cl:Nat->Nat->Bool) (bs n lo hi:Nat) (f:Nat->Nat):Prop:=∀ c,lo<=bs*c->bs*c<hi->Ch cl (bs*c) (min (bs*c+bs) n) f
section
variable {cl : Nat → Nat → Bool} {bs n k : Nat} {f g : Nat → Nat}
theorem Chs.none:Chs cl bs n 0 0 f:=fun _ _ h=>absurd h (Nat.not_lt_zero _)
theorem mul_step {c:Nat} (h:bs*k<bs*c):bs*k+bs<=bs*c:=by
 have:k<c:=Nat.lt_of_mul_lt_mul_left h
 have:=Nat.mul_le_mul_left bs (show k+1<=c from this)
 rw[Nat.mul_succ]at this;exact this
theorem Chs.more (h:Chs cl bs n 0 (bs*k) f) (hb:bs*k+bs<=n) (e:∀ i,i<bs*k->g i=f i) (hc:Ch cl (bs*k) (bs*k+bs) g):Chs cl bs n 0 (bs*k+bs) g:=by
 intro c h1 h2
 rcases Nat.lt_trichotomy (bs*c) (bs*k) with q|q|q
 ·have:=mul_step q
  exact(h c h1 q).congr fun i p1 p2=>e i (by omega)
 ·rw[q,Nat.min_eq_left hb]
  exact hc
 ·have:=mul_step q
  omega
theorem Chs.last (h:Chs cl bs n 0 (bs*k) f) (hb:n<bs*k+bs) (e:∀ i,i<bs*k->g i=f i) (hc:Ch cl (bs*k) n g):Chs cl bs n 0 n g:=by
 intro c h1 h2
 rcases Nat.lt_trichotomy (bs*c) (bs*k) with q|q|q
 ·have:=mul_step q
  exact(h c h1 q).congr fun i p1 p2=>e i (by omega)
 ·rw[q,Nat.min_eq_right (by omega)]
  exact hc
 ·have:=mul_step q
  omega
theorem Chs.rest {lo lo':Nat} (h:Chs cl bs n lo n f) (hl:lo<=lo') (e:∀ i,lo'<=i->i<n->g i=f i):Chs cl bs n lo' n g:=by
 intro c h1 h2;exact(h c (by omega) h2).congr fun i p1 p2=>e i (by omega) (by omega)
theorem Chs.at0 {lo:Nat} (h:Chs cl bs n lo n f) (he:lo=bs*k) (hn:lo<n):Ch cl lo (min (lo+bs) n) f:=by
 subst he;exact h k nl hn
theorem Chs.at1 {lo:Nat} (h:Chs cl bs n lo n f) (he:lo=bs*k) (hn:lo+bs<n):Ch cl (lo+bs) (min (lo+bs+bs) n) f:=by
 subst he
 have:=h (k+1) (by rw[Nat.mul_succ];omega) (by rw[Nat.mul_succ];exact hn)
 rw[Nat.mul_succ]at this;exact this
theorem Chs.whole (h:Chs cl bs n 0 n f) (hn:n<=bs):Ris cl 0 n f:=by
 rcases Nat.eq_zero_or_pos n with e|e
 ·subst e
  exact fun i j _ _ h3=>absurd h3 (Nat.not_lt_zero _)
 ·have:=(h 0 (Nat.zero_le _) (by rw[Nat.mul_zero];exact e)).1
  rw[Nat.mul_zero,Nat.zero_add,Nat.min_eq_right hn]at this;exact this
end
end So
namespace So
open Go.RowKit Go.Sort Go.Proofs
open Sh (bt bt_get)
theorem cells_I {w:World} {blk:Nat} {d:Array Nat} (h:HoldsK encI 1 w blk 0 d) {i:Nat} (hi:i<d.size) :
  w.cell? ⟨blk,i,none⟩=some (.int .i64 (d[i]!:Nat))/\w.frozen? ⟨blk,i,none⟩=false:=by
 have x0:=h.cell (i:=i) (c:=0) hi (by omega);rw[Nat.zero_add,Nat.add_zero,Nat.mul_one]at x0;exact⟨x0.1,x0.2⟩
def clI (t:ByteArray) (x y:Nat):Bool:=decide (bt t x<bt t y)
theorem clI_weak (t:ByteArray):Weak (clI t) where
 irrefl x:=by simp[clI]
 trans x y z h1 h2:=by
  simp only[clI,decide_eq_true_eq]at *;omega
 ntrans x y z h1 h2:=by
  simp only[clI,decide_eq_false_iff_not]at *;omega
def cfI (t:ByteArray) (x y:Nat):Int:=if bt t x<bt t y then -1 else if bt t y<bt t x then 1 else 0
theorem cfI_neg (t:ByteArray) (x y:Nat):decide (cfI t x y<0)=clI t x y:=by
 unfold cfI clI;by_cases h:bt t x<bt t y
 ·simp[h]
 ·by_cases h2:bt t y<bt t x<;>simp[h,h2]
def Cap (w:World) (c:Nat) (t:ByteArray):Prop:=w.cell? ⟨c,0,none⟩=some (.string t)
theorem Cap.block {w w':World} {c:Nat} {t:ByteArray} (h:Cap w c t) (e:w'.heap[c]? = w.heap[c]?):Cap w' c t:=by
 unfold Cap at h ⊢;simp only[World.cell?]at h ⊢;rw[e];exact h
theorem Cap.lt {w:World} {c:Nat} {t:ByteArray} (h:Cap w c t):c<w.heap.size:=by
 refine Nat.lt_of_not_le fun hle=>?_;unfold Cap at h;simp only[World.cell?]at h;rw[Array.getElem?_eq_none hle]at h;simp at h
theorem PermF.bd {a b N:Nat} {f g:Nat->Nat} (h:PermF a b f g) (hf:∀ i,f i<N) (i:Nat):g i<N:=by
 by_cases h1:a<=i/\i<b
 ·exact h.all (p:=fun v=>v<N) (fun j _ _=>hf j) i h1.1 h1.2
 ·rw[h.2 i (by omega)]
  exact hf i
theorem nan_B (y:UInt8) (w:World):Calls prog 238 #[.int .u8 (y.toNat:Nat)] w fun e w'=>e=.returned (.bool false)/\w'=w:=by
 have h:(((y.toNat:Nat):Int) != ((y.toNat:Nat):Int))=false:=by simp
 go_enter func238,ntmps238
 go_wp2_with fail
 go_ret;exact⟨rfl,rfl⟩
theorem compare_B (s t:UInt8) (w:World):Calls prog 235 #[.int .u8 (s.toNat:Nat),.int .u8 (t.toNat:Nat)] w fun e w'=>e=.returned (.int .i64 (if s.toNat<t.toNat then -1 else if t.toNat<s.toNat then 1 else 0))/\w'=w:=by
 have HS:=hideO (nan_B s);have HT:=hideO (nan_B t);obtain⟨p,hp⟩:∃ p,p=s.toNat:=⟨_,rfl⟩;obtain⟨q,hq⟩:∃ q,q=t.toNat:=⟨_,rfl⟩;rw[<-hp]at HS;rw[<-hq]at HT;rw[<-hp,<-hq];clear hp hq;by_cases h1:p<q
 ·rw[if_pos h1]
  have h1':(p:Int)<(q:Int):=by omega
  have h2':¬(q:Int)<(p:Int):=by omega
  go_enter func235,ntmps235
  go_wp2_with fail
  refine(HS.o w).mono ?_;rintro e w' ⟨rfl,hw⟩;subst w'
  go_wp2_with fail
  refine(HT.o w).mono ?_;rintro e w' ⟨rfl,hw⟩;subst w'
  go_wp2_with fail
  go_ret;exact⟨rfl,rfl⟩
 ·rw[if_neg h1]
  have h1':¬(p:Int)<(q:Int):=by omega
  by_cases h2:q<p
  ·rw[if_pos h2]
   have h2':(q:Int)<(p:Int):=by omega
   go_enter func235,ntmps235
   go_wp2_with fail
   refine(HS.o w).mono ?_;rintro e w' ⟨rfl,hw⟩;subst w'
   go_wp2_with fail
   refine(HT.o w).mono ?_;rintro e w' ⟨rfl,hw⟩;subst w'
   go_wp2_with fail
   go_ret;exact⟨rfl,rfl⟩
  ·rw[if_neg h2]
   have h2':¬(q:Int)<(p:Int):=by omega
   go_enter func235,ntmps235
   go_wp2_with fail
   refine(HS.o w).mono ?_;rintro e w' ⟨rfl,hw⟩;subst w'
   go_wp2_with fail
   refine(HT.o w).mono ?_;rintro e w' ⟨rfl,hw⟩;subst w'
   go_wp2_with fail
   go_ret;exact⟨rfl,rfl⟩
theorem cmp_I (t:ByteArray) (c x y:Nat) (w:World) (hc:Cap w c t) (hx:x<t.size) (hy:y<t.size):Calls prog 234 #[.int .i64 x,.int .i64 y,.pointer (some ⟨c,0,none⟩)] w fun e w'=>e=.returned (.int .i64 (cfI t x y))/\∃ q os',w'=grow (w.drewN q) os':=by
 have mixed:=mixed
 have hx':(x:Int)<(t.size:Int):=by omega
 have hy':(y:Int)<(t.size:Int):=by omega
 obtain⟨p,hp,hpt⟩:∃ p:UInt8,t[x]=p/\p.toNat=bt t x:=⟨_,rfl,bt_get _ _ hx⟩;obtain⟨q,hq,hqt⟩:∃ q:UInt8,t[y]=q/\q.toNat=bt t y:=⟨_,rfl,bt_get _ _ hy⟩;have HC:=hideO (fun (W:World)=>(compare_B p q W).mono (fun e w' (h:_/\w'=W)=>(⟨h.1,0,h.2⟩:_/\∃ m,w'=W.drewN m)));unfold cfI;rw[hpt,hqt]at HC;generalize (if bt t x<bt t y then (-1:Int) else if bt t y<bt t x then 1 else 0)=r at HC ⊢;have hcw:∀ n,(w.drewN n).cell? ⟨c,0,none⟩=some (.string t):=fun n=>hc;have hcc:w.cell? ⟨c,0,none⟩=some (.string t):=hc;rw[<-hpt,<-hqt]at HC;clear hc hpt hqt;go_enter func234,ntmps234
 go_wp2_with fail
 go_quiet (first|(go_at_call 235;refine Calls.quiet_of (HC.o _)))
 all_goals (try go_wp2_with fail)
 go_ret;exact⟨rfl,nq,#[],(grow_empty _).symm⟩
end So
namespace So
open Go.RowKit Go.Sort Go.Proofs
theorem swapRange_I (blk cap a b n:Nat) (d:Array Nat) (w:World) (cv:Value) (hH:HoldsK encI 1 w blk 0 d) (hblk:blk<w.heap.size) (hab:a+n<=b) (hb:b+n<=d.size) (hsz:d.size<=1048576) :
  Calls prog 243 #[.slice (some ⟨blk,0,none⟩) d.size cap,.int .i64 a,.int .i64 b,.int .i64 n,cv] w fun e w' =>
   e=.returned (.tuple #[])/\∃ m d',w'=sortWorldK encI 1 w blk 0 m d' #[]/\d'.size=d.size/\dF d'=swpR a b n (dF d):=by
 have HST:=hideO (world_self hH);have HH:=hideO hH;clear hH;obtain⟨z,hz⟩:∃ z,z=d.size:=⟨_,rfl⟩;have HZ:=hideO hz;rw[<-hz]at hb hsz ⊢;clear hz;go_enter func243,ntmps243
 go_wp2_with fail
 go_loopw [10] (fun i wr=>∃ (k m:Nat) (dk:Array Nat),i=.int .i64 k/\k<=n/\dk.size=z/\dF dk=swpR a b k (dF d)/\wr=sortWorldK encI 1 w blk 0 m dk #[]) (fun i _=>n-(intOf i).toNat)
 case atStart=>exact⟨0,0,d,rfl,Nat.zero_le _,HZ.o.symm,(swpR_zero a b (dF d)).symm,HST.o⟩
 case round =>
  obtain⟨k,m,dk,rfl,hk,hsk,hfk,hwr⟩:=hrel;have HF:=hideO hfk;have HSK:=hideO hsk;have HHk:=hideO (world_holds HH.o hblk (m+1) dk #[] (by rw[hsk,HZ.o]));have HW:=hideO hwr
  have hdr:wr.drew=sortWorldK encI 1 w blk 0 (m+1) dk #[]:=by rw[hwr];rfl
  have HDR:=hideO hdr;clear hfk hwr;by_cases hlt:k<n
  ·obtain⟨p,hp⟩:∃ p,p=a+k:=⟨_,rfl⟩
   obtain⟨q,hq⟩:∃ q,q=b+k:=⟨_,rfl⟩
   have ep:(a:Int)+(k:Int)=(p:Int):=by omega
   have eq:(b:Int)+(k:Int)=(q:Int):=by omega
   have hpz:p<z:=by omega
   have hqz:q<z:=by omega
   have hpq:p<q:=by omega
   have HPQ:Hid (p=a+k/\q=b+k):=⟨hp,hq⟩;obtain⟨x,hx⟩:∃ x,x=dk[p]!:=⟨_,rfl⟩;obtain⟨y,hy⟩:∃ y,y=dk[q]!:=⟨_,rfl⟩;have hd:wr.drew=sortWorldK encI 1 w blk 0 (m+1) dk #[]:=hdr
   have hHd:HoldsK encI 1 wr blk 0 dk:=by
    have:HoldsK encI 1 wr.drew blk 0 dk:=by rw[hd];exact HHk.o
    exact this
   have hsw:((wr.drew.setCells blk (0+p*1) (encI y)).setCells blk (0+q*1) (encI x))=sortWorldK encI 1 w blk 0 (m+1) (Go.Sort.swp dk p q) #[]:=by
    rw[HW.o,hx,hy];exact sortWorldK_swp_c encI 1 w blk 0 encI_len m dk #[] hblk p q (by omega) (by omega)
   rw[Nat.zero_add,Nat.zero_add,Nat.mul_one,Nat.mul_one]at hsw;obtain⟨x0c,x0f⟩:=cells_I hHd (i:=p) (by omega);obtain⟨y0c,y0f⟩:=cells_I hHd (i:=q) (by omega);rw[<-hx]at x0c;rw[<-hy]at y0c
   have hpw:IntKind.i64.wrap (p:Int)=(p:Int):=by rw[IntKind.wrap_i64];omega
   have hqw:IntKind.i64.wrap (q:Int)=(q:Int):=by rw[IntKind.wrap_i64];omega
   have hpz':(p:Int)<(z:Int):=by omega
   have hqz':(q:Int)<(z:Int):=by omega
   have HSW:=hideO hsw;have HXY:Hid (x=dk[p]!/\y=dk[q]!):=⟨hx,hy⟩
   have HNX:Hid (So.swp (swpR a b k (dF d)) p q=swpR a b (k+1) (dF d)):=by
    unfold Hid;rw[hp,hq];exact swpR_next a b k (dF d) (by omega)
   clear hd hdr hx hy hp hq hsk hHd hsw
   go_wp2_with fail
   go_region
   all_goals (try go_wp2_with fail)
   all_goals go_roundw
   case rel =>
    refine⟨k+1,m+1,Go.Sort.swp dk p q,by go_num,by omega,by rw[Go.Sort.size_swp];exact HSK.o,?_,HSW.o⟩;rw[dF_swp dk p q (by have:=HSK.o;omega) (by have:=HSK.o;omega),HF.o];exact HNX.o
   case measure=>simp[intOf];omega
  ·obtain rfl:k=n:=by omega
   clear hdr hsk
   go_wp2_with fail
   refine bodyPost_end (v:=.tuple #[]) (by simp[results,results243,go_sem]) rfl ⟨rfl,m,dk,HW.o,HSK.o,HF.o⟩
end So
namespace So
open Go.RowKit Go.Sort Go.Proofs
theorem rotate_I (blk cap a m b:Nat) (d:Array Nat) (w:World) (cv:Value) (hH:HoldsK encI 1 w blk 0 d) (hblk:blk<w.heap.size) (ham:a<m) (hmb:m<b) (hb:b<=d.size) (hsz:d.size<=1048576) :
  Calls prog 242 #[.slice (some ⟨blk,0,none⟩) d.size cap,.int .i64 a,.int .i64 m,.int .i64 b,cv] w fun e w' =>
   e=.returned (.tuple #[])/\∃ n d',w'=sortWorldK encI 1 w blk 0 n d' #[]/\d'.size=d.size/\dF d'=rotF a m b (dF d):=by
 have HST:=hideO (world_self hH);have HH:=hideO hH;clear hH;obtain⟨z,hz⟩:∃ z,z=d.size:=⟨_,rfl⟩;have HZ:=hideO hz;rw[<-hz]at hb hsz ⊢;clear hz
 have HC:=hideO (fun (n:Nat) (dk:Array Nat) (hs:dk.size=z) (p q l:Nat) (h1:p+l<=q) (h2:q+l<=z) =>
  swapRange_I blk cap p q l dk (sortWorldK encI 1 w blk 0 n dk #[]) cv (world_holds HH.o hblk n dk #[] (hs.trans HZ.o)) (Nat.lt_of_lt_of_le hblk (world_size n dk #[])) h1 (by rw[hs];exact h2) (by rw[hs];exact hsz))
 have HWW:=hideO (fun (n n':Nat) (dk d':Array Nat) (hs:d'.size=dk.size)=>world_world (enc:=encI) (k:=1) (w:=w) (blk:=blk) (off:=0) n n' dk d' #[] #[] hblk hs);obtain⟨i0,hi0⟩:∃ i0,i0=m-a:=⟨_,rfl⟩;obtain⟨j0,hj0⟩:∃ j0,j0=b-m:=⟨_,rfl⟩
 have h1:((m:Int)-(a:Int))=(i0:Int):=by omega
 have h2:((b:Int)-(m:Int))=(j0:Int):=by omega
 have HIJ:Hid (i0=m-a/\j0=b-m):=⟨hi0,hj0⟩;clear hi0 hj0;go_enter func242,ntmps242
 go_wp2_with fail
 clear h1 h2
 go_loopw [10,11] (fun u v wr=>∃ (i j n:Nat) (dk:Array Nat),u=.int .i64 i/\v=.int .i64 j/\0<i/\0<j/\i<=m-a/\j<=b-m/\dk.size=z/\rotF (m-i) m (m+j) (dF dk)=rotF a m b (dF d)/\wr=sortWorldK encI 1 w blk 0 n dk #[]) (fun u v _=>(intOf u).toNat+(intOf v).toNat)
 case atStart =>
  have hij:=HIJ.o;exact⟨i0,j0,0,d,rfl,rfl,by omega,by omega,by omega,by omega,HZ.o.symm,by rw[hij.1,hij.2,show m-(m-a)=a by omega,show m+(b-m)=b by omega],HST.o⟩
 case round =>
  obtain⟨i,j,n,dk,rfl,rfl,hi,hj,hia,hjb,hsk,hrot,hwr⟩:=hrel;have HR:=hideO hrot;have HSK:=hideO hsk;have HW:=hideO hwr;have HCk:=hideO (fun p q l h1 h2=>HC.o n dk hsk p q l h1 h2);rw[<-hwr,hsk]at HCk;obtain⟨p,hp⟩:∃ p,p=m-i:=⟨_,rfl⟩
  have e1:(m:Int)-(i:Int)=(p:Int):=by omega
  rw[<-hp]at HR;have HP:=hideO hp;clear hrot hsk hwr hp;by_cases hij:i=j
  ·subst hij
   have hne:((i:Int) != (i:Int))=false:=by simp
   have HCC:=hideO (HCk.o p m i (by have:=HP.o;omega) (by omega))
   go_wp2_with fail
   refine HCC.o.mono ?_;rintro e w' ⟨rfl,n',d',hw',hs',hf'⟩
   have HX:Hid (w'=sortWorldK encI 1 w blk 0 (n+n') d' #[]):=by
    unfold Hid;rw[hw',HW.o,HWW.o n n' dk d' (hs'.trans HSK.o.symm)];rfl
   have HF:Hid (dF d'=rotF a m b (dF d)):=by
    unfold Hid;rw[hf',HP.o,rot_even m i (dF dk) (by omega),<-HR.o,HP.o]
   have HS':=hideO hs';clear hw' hs' hf'
   go_wp2_with fail
   refine bodyPost_end (v:=.tuple #[]) (by simp[results,results242,go_sem]) rfl ⟨rfl,n+n',d',HX.o,HS'.o,HF.o⟩
  ·have hne:((i:Int) != (j:Int))=true:=by simp;omega
   have HNE:=hideO hij;clear hij;by_cases hlt:j<i
   ·have hlt':(j:Int)<(i:Int):=by omega
    obtain⟨r,hr⟩:∃ r,r=i-j:=⟨_,rfl⟩;have e2:(i:Int)-(j:Int)=(r:Int):=(by omega);have HRR:=hideO hr;clear hr;have HCC:=hideO (HCk.o p m j (by have:=HP.o;omega) (by omega));(go_wp2_with fail);refine HCC.o.mono ?_;rintro e w' ⟨rfl,n',d',hw',hs',hf'⟩
    have HX:Hid (w'=sortWorldK encI 1 w blk 0 (n+n') d' #[]):=by
     unfold Hid;rw[hw',HW.o,HWW.o n n' dk d' (hs'.trans HSK.o.symm)];rfl
    have HF:Hid (rotF (m-r) m (m+j) (dF d')=rotF a m b (dF d)):=by
     unfold Hid;rw[hf',HRR.o,HP.o,rot_long m i j (dF dk) hlt (by omega),<-HR.o,HP.o]
    have HS':=hideO hs';clear hw' hs' hf';(go_wp2_with fail)
    go_roundw
    case rel=>exact⟨r,j,n+n',d',rfl,rfl,by have:=HRR.o;omega,hj,by have:=HRR.o;omega,hjb,HS'.o,HF.o,HX.o⟩
    case measure=>have:=HRR.o;simp[intOf];omega
   ·have hlt':¬(j:Int)<(i:Int):=by omega
    obtain⟨r,hr⟩:∃ r,r=j-i:=⟨_,rfl⟩;have e2:(j:Int)-(i:Int)=(r:Int):=(by omega);have HRR:=hideO hr;obtain⟨q,hq⟩:∃ q,q=m+j-i:=⟨_,rfl⟩;have e3:(m:Int)+(j:Int)-(i:Int)=(q:Int):=(by omega);have HQ:=hideO hq;clear hr hq;have HCC:=hideO (HCk.o p q i (by have:=HP.o;have:=HQ.o;omega) (by have:=HQ.o;omega));(go_wp2_with fail);refine HCC.o.mono ?_;rintro e w' ⟨rfl,n',d',hw',hs',hf'⟩
    have HX:Hid (w'=sortWorldK encI 1 w blk 0 (n+n') d' #[]):=by
     unfold Hid;rw[hw',HW.o,HWW.o n n' dk d' (hs'.trans HSK.o.symm)];rfl
    have HF:Hid (rotF (m-i) m (m+r) (dF d')=rotF a m b (dF d)):=by
     unfold Hid;rw[hf',HRR.o,HP.o,HQ.o,rot_short m i j (dF dk) (by have:=HNE.o;omega) (by omega),<-HR.o,HP.o]
    have HS':=hideO hs';clear hw' hs' hf';(go_wp2_with fail)
    go_roundw
    case rel=>exact⟨i,r,n+n',d',rfl,rfl,hi,by have:=HRR.o;have:=HNE.o;omega,hia,by have:=HRR.o;omega,HS'.o,HF.o,HX.o⟩
    case measure=>have:=HRR.o;simp[intOf];omega
end So
namespace So
open Go.RowKit Go.Sort Go.Proofs
theorem swapRange_T (T:Nat->ByteArray) (blk cap a b n:Nat) (d:Array Nat) (w:World) (cv:Value) (hH:HoldsK (encT T) 2 w blk 0 d) (hblk:blk<w.heap.size) (hab:a+n<=b) (hb:b+n<=d.size) (hsz:d.size<=1048576) :
  Calls prog 239 #[.slice (some ⟨blk,0,none⟩) d.size cap,.int .i64 a,.int .i64 b,.int .i64 n,cv] w fun e w' =>
   e=.returned (.tuple #[])/\∃ m d',w'=sortWorldK (encT T) 2 w blk 0 m d' #[]/\d'.size=d.size/\dF d'=swpR a b n (dF d):=by
 have HST:=hideO (world_self hH);have HH:=hideO hH;clear hH;obtain⟨z,hz⟩:∃ z,z=d.size:=⟨_,rfl⟩;have HZ:=hideO hz;rw[<-hz]at hb hsz ⊢;clear hz;go_enter func239,ntmps239
 go_wp2_with fail
 go_loopw [10] (fun i wr=>∃ (k m:Nat) (dk:Array Nat),i=.int .i64 k/\k<=n/\dk.size=z/\dF dk=swpR a b k (dF d)/\wr=sortWorldK (encT T) 2 w blk 0 m dk #[]) (fun i _=>n-(intOf i).toNat)
 case atStart=>exact⟨0,0,d,rfl,Nat.zero_le _,HZ.o.symm,(swpR_zero a b (dF d)).symm,HST.o⟩
 case round =>
  obtain⟨k,m,dk,rfl,hk,hsk,hfk,hwr⟩:=hrel;have HF:=hideO hfk;have HSK:=hideO hsk;have HHk:=hideO (world_holds HH.o hblk (m+1) dk #[] (by rw[hsk,HZ.o]));have HW:=hideO hwr
  have hdr:wr.drew=sortWorldK (encT T) 2 w blk 0 (m+1) dk #[]:=by rw[hwr];rfl
  have HDR:=hideO hdr;clear hfk hwr;by_cases hlt:k<n
  ·obtain⟨p,hp⟩:∃ p,p=a+k:=⟨_,rfl⟩
   obtain⟨q,hq⟩:∃ q,q=b+k:=⟨_,rfl⟩
   have ep:(a:Int)+(k:Int)=(p:Int):=by omega
   have eq:(b:Int)+(k:Int)=(q:Int):=by omega
   have hpz:p<z:=by omega
   have hqz:q<z:=by omega
   have hpq:p<q:=by omega
   have HPQ:Hid (p=a+k/\q=b+k):=⟨hp,hq⟩;obtain⟨x,hx⟩:∃ x,x=dk[p]!:=⟨_,rfl⟩;obtain⟨y,hy⟩:∃ y,y=dk[q]!:=⟨_,rfl⟩;have hd:wr.drew=sortWorldK (encT T) 2 w blk 0 (m+1) dk #[]:=hdr
   have hHd:HoldsK (encT T) 2 wr blk 0 dk:=by
    have:HoldsK (encT T) 2 wr.drew blk 0 dk:=by rw[hd];exact HHk.o
    exact this
   have hsw:((wr.drew.setCells blk (0+p*2) (encT T y)).setCells blk (0+q*2) (encT T x))=sortWorldK (encT T) 2 w blk 0 (m+1) (Go.Sort.swp dk p q) #[]:=by
    rw[HW.o,hx,hy];exact sortWorldK_swp_c (encT T) 2 w blk 0 (encT_len T) m dk #[] hblk p q (by omega) (by omega)
   rw[Nat.zero_add,Nat.zero_add]at hsw;obtain⟨x0c,x0f,x1c,x1f⟩:=cells_T hHd (i:=p) (by omega);obtain⟨y0c,y0f,y1c,y1f⟩:=cells_T hHd (i:=q) (by omega);rw[<-hx]at x0c x1c;rw[<-hy]at y0c y1c
   have hpw:IntKind.i64.wrap (p:Int)=(p:Int):=by rw[IntKind.wrap_i64];omega
   have hqw:IntKind.i64.wrap (q:Int)=(q:Int):=by rw[IntKind.wrap_i64];omega
   have hpz':(p:Int)<(z:Int):=by omega
   have hqz':(q:Int)<(z:Int):=by omega
   have HSW:=hideO hsw;have HXY:Hid (x=dk[p]!/\y=dk[q]!):=⟨hx,hy⟩
   have HNX:Hid (So.swp (swpR a b k (dF d)) p q=swpR a b (k+1) (dF d)):=by
    unfold Hid;rw[hp,hq];exact swpR_next a b k (dF d) (by omega)
   clear hd hdr hx hy hp hq hsk hHd hsw
   go_wp2_with fail
   go_region
   all_goals (try go_wp2_with fail)
   all_goals go_roundw
   case rel =>
    refine⟨k+1,m+1,Go.Sort.swp dk p q,by go_num,by omega,by rw[Go.Sort.size_swp];exact HSK.o,?_,HSW.o⟩;rw[dF_swp dk p q (by have:=HSK.o;omega) (by have:=HSK.o;omega),HF.o];exact HNX.o
   case measure=>simp[intOf];omega
  ·obtain rfl:k=n:=by omega
   clear hdr hsk
   go_wp2_with fail
   refine bodyPost_end (v:=.tuple #[]) (by simp[results,results239,go_sem]) rfl ⟨rfl,m,dk,HW.o,HSK.o,HF.o⟩
end So
namespace So
open Go.RowKit Go.Sort Go.Proofs
theorem rotate_T (T:Nat->ByteArray) (blk cap a m b:Nat) (d:Array Nat) (w:World) (cv:Value) (hH:HoldsK (encT T) 2 w blk 0 d) (hblk:blk<w.heap.size) (ham:a<m) (hmb:m<b) (hb:b<=d.size) (hsz:d.size<=1048576) :
  Calls prog 236 #[.slice (some ⟨blk,0,none⟩) d.size cap,.int .i64 a,.int .i64 m,.int .i64 b,cv] w fun e w' =>
   e=.returned (.tuple #[])/\∃ n d',w'=sortWorldK (encT T) 2 w blk 0 n d' #[]/\d'.size=d.size/\dF d'=rotF a m b (dF d):=by
 have HST:=hideO (world_self hH);have HH:=hideO hH;clear hH;obtain⟨z,hz⟩:∃ z,z=d.size:=⟨_,rfl⟩;have HZ:=hideO hz;rw[<-hz]at hb hsz ⊢;clear hz
 have HC:=hideO (fun (n:Nat) (dk:Array Nat) (hs:dk.size=z) (p q l:Nat) (h1:p+l<=q) (h2:q+l<=z) =>
  swapRange_T T blk cap p q l dk (sortWorldK (encT T) 2 w blk 0 n dk #[]) cv (world_holds HH.o hblk n dk #[] (hs.trans HZ.o)) (Nat.lt_of_lt_of_le hblk (world_size n dk #[])) h1 (by rw[hs];exact h2) (by rw[hs];exact hsz))
 have HWW:=hideO (fun (n n':Nat) (dk d':Array Nat) (hs:d'.size=dk.size)=>world_world (enc:=encT T) (k:=2) (w:=w) (blk:=blk) (off:=0) n n' dk d' #[] #[] hblk hs);obtain⟨i0,hi0⟩:∃ i0,i0=m-a:=⟨_,rfl⟩;obtain⟨j0,hj0⟩:∃ j0,j0=b-m:=⟨_,rfl⟩
 have h1:((m:Int)-(a:Int))=(i0:Int):=by omega
 have h2:((b:Int)-(m:Int))=(j0:Int):=by omega
 have HIJ:Hid (i0=m-a/\j0=b-m):=⟨hi0,hj0⟩;clear hi0 hj0;go_enter func236,ntmps236
 go_wp2_with fail
 clear h1 h2
 go_loopw [10,11] (fun u v wr=>∃ (i j n:Nat) (dk:Array Nat),u=.int .i64 i/\v=.int .i64 j/\0<i/\0<j/\i<=m-a/\j<=b-m/\dk.size=z/\rotF (m-i) m (m+j) (dF dk)=rotF a m b (dF d)/\wr=sortWorldK (encT T) 2 w blk 0 n dk #[]) (fun u v _=>(intOf u).toNat+(intOf v).toNat)
 case atStart =>
  have hij:=HIJ.o;exact⟨i0,j0,0,d,rfl,rfl,by omega,by omega,by omega,by omega,HZ.o.symm,by rw[hij.1,hij.2,show m-(m-a)=a by omega,show m+(b-m)=b by omega],HST.o⟩
 case round =>
  obtain⟨i,j,n,dk,rfl,rfl,hi,hj,hia,hjb,hsk,hrot,hwr⟩:=hrel;have HR:=hideO hrot;have HSK:=hideO hsk;have HW:=hideO hwr;have HCk:=hideO (fun p q l h1 h2=>HC.o n dk hsk p q l h1 h2);rw[<-hwr,hsk]at HCk;obtain⟨p,hp⟩:∃ p,p=m-i:=⟨_,rfl⟩
  have e1:(m:Int)-(i:Int)=(p:Int):=by omega
  rw[<-hp]at HR;have HP:=hideO hp;clear hrot hsk hwr hp;by_cases hij:i=j
  ·subst hij
   have hne:((i:Int) != (i:Int))=false:=by simp
   have HCC:=hideO (HCk.o p m i (by have:=HP.o;omega) (by omega))
   go_wp2_with fail
   refine HCC.o.mono ?_;rintro e w' ⟨rfl,n',d',hw',hs',hf'⟩
   have HX:Hid (w'=sortWorldK (encT T) 2 w blk 0 (n+n') d' #[]):=by
    unfold Hid;rw[hw',HW.o,HWW.o n n' dk d' (hs'.trans HSK.o.symm)];rfl
   have HF:Hid (dF d'=rotF a m b (dF d)):=by
    unfold Hid;rw[hf',HP.o,rot_even m i (dF dk) (by omega),<-HR.o,HP.o]
   have HS':=hideO hs';clear hw' hs' hf'
   go_wp2_with fail
   refine bodyPost_end (v:=.tuple #[]) (by simp[results,results236,go_sem]) rfl ⟨rfl,n+n',d',HX.o,HS'.o,HF.o⟩
  ·have hne:((i:Int) != (j:Int))=true:=by simp;omega
   have HNE:=hideO hij;clear hij;by_cases hlt:j<i
   ·have hlt':(j:Int)<(i:Int):=by omega
    obtain⟨r,hr⟩:∃ r,r=i-j:=⟨_,rfl⟩;have e2:(i:Int)-(j:Int)=(r:Int):=(by omega);have HRR:=hideO hr;clear hr;have HCC:=hideO (HCk.o p m j (by have:=HP.o;omega) (by omega));(go_wp2_with fail);refine HCC.o.mono ?_;rintro e w' ⟨rfl,n',d',hw',hs',hf'⟩
    have HX:Hid (w'=sortWorldK (encT T) 2 w blk 0 (n+n') d' #[]):=by
     unfold Hid;rw[hw',HW.o,HWW.o n n' dk d' (hs'.trans HSK.o.symm)];rfl
    have HF:Hid (rotF (m-r) m (m+j) (dF d')=rotF a m b (dF d)):=by
     unfold Hid;rw[hf',HRR.o,HP.o,rot_long m i j (dF dk) hlt (by omega),<-HR.o,HP.o]
    have HS':=hideO hs';clear hw' hs' hf';(go_wp2_with fail)
    go_roundw
    case rel=>exact⟨r,j,n+n',d',rfl,rfl,by have:=HRR.o;omega,hj,by have:=HRR.o;omega,hjb,HS'.o,HF.o,HX.o⟩
    case measure=>have:=HRR.o;simp[intOf];omega
   ·have hlt':¬(j:Int)<(i:Int):=by omega
    obtain⟨r,hr⟩:∃ r,r=j-i:=⟨_,rfl⟩;have e2:(j:Int)-(i:Int)=(r:Int):=(by omega);have HRR:=hideO hr;obtain⟨q,hq⟩:∃ q,q=m+j-i:=⟨_,rfl⟩;have e3:(m:Int)+(j:Int)-(i:Int)=(q:Int):=(by omega);have HQ:=hideO hq;clear hr hq;have HCC:=hideO (HCk.o p q i (by have:=HP.o;have:=HQ.o;omega) (by have:=HQ.o;omega));(go_wp2_with fail);refine HCC.o.mono ?_;rintro e w' ⟨rfl,n',d',hw',hs',hf'⟩
    have HX:Hid (w'=sortWorldK (encT T) 2 w blk 0 (n+n') d' #[]):=by
     unfold Hid;rw[hw',HW.o,HWW.o n n' dk d' (hs'.trans HSK.o.symm)];rfl
    have HF:Hid (rotF (m-i) m (m+r) (dF d')=rotF a m b (dF d)):=by
     unfold Hid;rw[hf',HRR.o,HP.o,HQ.o,rot_short m i j (dF dk) (by have:=HNE.o;omega) (by omega),<-HR.o,HP.o]
    have HS':=hideO hs';clear hw' hs' hf';(go_wp2_with fail)
    go_roundw
    case rel=>exact⟨i,r,n+n',d',rfl,rfl,hi,by have:=HRR.o;have:=HNE.o;omega,hia,by have:=HRR.o;omega,HS'.o,HF.o,HX.o⟩
    case measure=>have:=HRR.o;simp[intOf];omega
end So
namespace Sh
theorem made_zerosK (k:IntKind) (n:Nat):(madeCells (Value.int k 0).cells (n*1)).toList=(rowF k n (fun _=>0)).toList:=by
 apply List.ext_getElem?
 intro i;by_cases hi:i<n
 ·simp[madeCells,rowF,hi,Value.cells,Nat.mod_one]
 ·simp[madeCells,rowF,hi,Value.cells]
theorem made_rowK {k:IntKind} {w:World} {base e g n:Nat} (h:w.ownsRow base e 1 (.slice (some ⟨g,0,none⟩) n n) n (madeCells (Value.int k 0).cells (n*1)).toList):IsB w g e k n (fun _=>0):=by
 obtain⟨_,h⟩:=h
 rcases h with⟨h,_⟩|⟨g',cap,cur,hv,_,hb,_,_,hsz,htk⟩
 ·simp at h
 ·simp at hv
  obtain⟨rfl,rfl⟩:=hv;rw[made_zerosK,List.take_of_length_le (by simp[hsz])]at htk
  have:cur=rowF k n (fun _=>0):=by simpa using htk
  rw[this]at hb;exact hb
theorem own_cells {w:World} {base e n:Nat} {v:Value} {k:IntKind} {f:Nat->Int} (hn:0<n) (h:w.ownsRow base e 1 v n (rowF k n f).toList) :
  ∃ g c,v=.slice (some ⟨g,0,none⟩) n c/\base<=g/\g<w.heap.size/\∀ j,j<n->w.cell? ⟨g,j,none⟩=some (.int k (f j)):=by
 obtain⟨_,h⟩:=h
 rcases h with⟨_,h⟩|⟨g,cap,cur,hv,hg,hb,hnc,_,hsz,htk⟩
 ·omega
 ·refine⟨g,cap,hv,hg,(Array.getElem?_eq_some_iff.1 hb).1,fun j hj=>?_⟩
  rw[cell_of_row w g j cur e (0,0) hb]
  have h1:cur.toList[j]? = (cur.toList.take (n*1))[j]?:=by rw[List.getElem?_take_of_lt (by omega)]
  rw[<-Array.getElem?_toList,h1,htk,Array.getElem?_toList];exact rowF_get k n f j hj
theorem rowF_snoc (k:IntKind) (n:Nat) (f:Nat->Int):(rowF k n f).toList++[.int k (f n)]=(rowF k (n+1) f).toList:=by
 simp[rowF,List.range_succ]
theorem byte_at (t:ByteArray) (j:Nat) (h:j<t.size):∃ y:UInt8,t[j]=y/\y.toNat=bt t j:=⟨t[j],rfl,bt_get t j h⟩
theorem word_spec (B:Nat->Nat) (k:Nat) (y0 y1 y2 y3:Nat) (h0:y0=B (4*k)) (h1:y1=B (4*k+1)) (h2:y2=B (4*k+2)) (h3:y3=B (4*k+3)) (hB:∀ j,B j<256) :
  bits BinOp.or IntKind.u32 (bits BinOp.or IntKind.u32 (bits BinOp.or IntKind.u32 ((y0:Int)*16777216) ((y1:Int)*65536))
   ((y2:Int)*256)) (y3:Int)=((word B k:Nat):Int):=by
 have b0:=hB (4*k);have b1:=hB (4*k+1);have b2:=hB (4*k+2);have b3:=hB (4*k+3);rw[<-h0]at b0;rw[<-h1]at b1;rw[<-h2]at b2;rw[<-h3]at b3;rw[show (y0:Int)*16777216=((y0*16777216:Nat):Int) by simp,show (y1:Int)*65536=((y1*65536:Nat):Int) by simp,show (y2:Int)*256=((y2*256:Nat):Int) by simp]
 rw[u32_or_nat _ _ (by omega) (by omega),nat_join 24 (y0*16777216) (y1*65536) (by omega) (by omega),
  u32_or_nat _ _ (by omega) (by omega),nat_join 16 (y0*16777216+y1*65536) (y2*256) (by omega) (by omega),
  u32_or_nat _ _ (by omega) (by omega),nat_join 8 (y0*16777216+y1*65536+y2*256) y3 (by omega) (by omega)]
 simp only[word,part,Nat.add_zero,<-h0,<-h1,<-h2,<-h3];omega
theorem step_append_own {P:Program} {ops:Array Oper} {o:Oper} {a:Act} {w:World} {K:Act->World->Prop} {Q:Exit->Act->World->Prop} {E:Prop}
  (hg:o.guard=none) (s x:Operand) (t:TypeId) (ho:o.op=.call { callee:=.builtin .append,args:=#[s,x],argTypes:=#[t,t] })
  (base:Nat) (e:TypeId) (i:TypeInfo) (z:Value) (size bytes:Nat) (ht:P.underlying t=some (.slice e)) (hi:P.info? e=some i) (hz:i.zero=some z)
  (hsize:i.size=size) (hby:i.bytes=bytes) (hzs:z.cells.size=size) (hsz:0<size)
  (v:Value) (n:Nat) (xs:List Value) (hs:a.eval s=v) (hown:w.ownsRow base e size v n xs)
  (ad:Addr) (m c:Nat) (news:List Value) (hx:a.eval x=.slice (some ad) m c) (hl:news.length=m*size) (hnews:∀ j u,news[j]? = some u->w.cell? (ad.add j)=some u) (h1:∀ u∈news,u.oneCell'=true)
  (h63:n+m<=maxLen) (hbytes:(n+m)*bytes<=140737488355328) (hbase:base<=w.heap.size)
  (h:∀ v' w',w'.ownsRow base e size v' (n+m) (xs++news)->w.grownBy w' v.ownBlock->K (a.put o.dst v') w') :
  if Region.wanted o (yielded ops a.tmps)=true then Oper.wp P o a w K Q else E:=by
 have hw:Region.wanted o (yielded ops a.tmps)=true:=by simp[Region.wanted,hg]
 rw[if_pos hw];exact wp_append_own w s x t ho base e i z size bytes ht hi hz hsize hby hzs hsz v n xs hs hown ad m c news hx hl hnews h1 h63 hbytes hbase fun v' w' h2 h3 _=>h v' w' h2 h3
theorem one_new (W:World) (x:Value) (t:TypeId):∀ (j:Nat) (u:Value),[x][j]? = some u->(W.alloc (.cells #[x] t)).cell? ((⟨W.heap.size,0,none⟩:Addr).add j)=some u:=by
 intro j u hj
 match j,hj with
 |0,hj=>simp at hj;subst hj;simp[Addr.add]
theorem one_cell (k:IntKind) (x:Int):∀ u∈[Value.int k x],u.oneCell'=true:=by
 intro u hu;simp at hu;subst hu;rfl
theorem own_empty (W:World) (base t:Nat) (h:base<=W.heap.size):(W.alloc (.cells #[] t)).ownsRow base t 1 (.slice (some ⟨W.heap.size,0,none⟩) 0 0) 0 [] :=
 ⟨rfl,Or.inr ⟨W.heap.size,0,#[],rfl,h,heap_alloc_last W _,nl,by decide,rfl,rfl⟩⟩
theorem app_low {B:Nat} {e:TypeId} {w wr w1:World} {v:Value} {n size:Nat} {xs:List Value} {o:Obj} (hbel:Below B w wr) (hB:B<=wr.heap.size)
  (hown:wr.ownsRow B e size v n xs) (hgrow:(wr.drew.alloc o).grownBy w1 v.ownBlock):Below B w w1:=by
 refine(hbel.drew.alloc hB o).grown hgrow (by simp;omega) ?_;intro k hk;exact(hown.lt k hk).1
end Sh
namespace Dr
theorem hideD {p:Prop} (h:p):Hid p:=h
def Row (w:World) (B:Nat) (a:Option Addr) (len:Nat):Prop :=
 len=0∨∃ b off,a=some ⟨b,off,none⟩/\b<B/\∀ i,i<len->∃ z:Int,w.cell? ⟨b,off+i,none⟩=some (.int .u8 z)/\0<=z/\z<=255
def Src (w:World) (B:Nat) (a:Option Addr) (len cap:Nat):Prop :=
 Row w B a len/\∃ at_ mix size:Int,w.heap[B]? = some (.cells #[.slice a len cap,.int .i64 at_,.int .u64 mix,.int .i64 size] 78 (0,0)) /\
  0<=at_/\at_<=len/\0<=mix/\mix<=18446744073709551615/\0<=size/\size<=12
theorem wrap64_bd (x:Int):0<=IntKind.u64.wrap x/\IntKind.u64.wrap x<=18446744073709551615:=by rw[IntKind.wrap_u64];omega
theorem xor_bd (x y:Int) (h0:0<=x) (h1:x<=18446744073709551615) (h2:0<=y) (h3:y<=18446744073709551615) :
  0<=bits BinOp.xor IntKind.u64 x y/\bits BinOp.xor IntKind.u64 x y<=18446744073709551615:=by
 obtain⟨m,rfl⟩:=Int.eq_ofNat_of_zero_le h0;obtain⟨n,rfl⟩:=Int.eq_ofNat_of_zero_le h2;rw[u64_xor_nat m n (by omega) (by omega)]
 have:=Nat.xor_lt_two_pow (n:=64) (x:=m) (y:=n) (by omega) (by omega)
 omega
theorem sc1 {W:World} {p:Addr} {x:Value} (h:W.cell? p=some x) (v:Value):(W.setCell p v).cell? p=some v:=by
 exact World.cell?_setCell_same W p v h
theorem sc2 {W:World} {p:Addr} {x:Value} (h:W.cell? p=some x) (v v2:Value):((W.setCell p v).setCell p v2).cell? p=some v2:=sc1 (sc1 h v) v2
theorem sc3 {W:World} {p:Addr} {x:Value} (h:W.cell? p=some x) (v v2 v3:Value):(((W.setCell p v).setCell p v2).setCell p v3).cell? p=some v3:=sc1 (sc2 h v v2) v3
def Only (B:Nat) (w w':World):Prop:=w'.os=w.os/\w'.tape=w.tape/\w'.output=w.output/\w'.heap.size=w.heap.size/\∀ k,k≠B->w'.heap[k]? = w.heap[k]?
theorem Only.refl (B:Nat) (w:World):Only B w w:=⟨rfl,rfl,rfl,rfl,fun _ _=>rfl⟩
theorem Only.drew {B:Nat} {w w':World} (h:Only B w w'):Only B w w'.drew:=h
theorem Only.drewN {B:Nat} (w:World) (n:Nat):Only B w (w.drewN n):=⟨rfl,rfl,rfl,rfl,fun _ _=>rfl⟩
theorem Only.set {B:Nat} {w w':World} (h:Only B w w') (o:Nat) (v:Value):Only B w (w'.setCell ⟨B,o,none⟩ v) :=
 ⟨h.1,h.2.1,h.2.2.1,by simpa [World.setCell] using h.2.2.2.1,fun k hk=>(heap_setCell_other w' ⟨B,o,none⟩ k v hk).trans (h.2.2.2.2 k hk)⟩
theorem Only.trans {B:Nat} {a b c:World} (h:Only B a b) (k:Only B b c):Only B a c :=
 ⟨k.1.trans h.1,k.2.1.trans h.2.1,k.2.2.1.trans h.2.2.1,k.2.2.2.1.trans h.2.2.2.1,fun i hi=>(k.2.2.2.2 i hi).trans (h.2.2.2.2 i hi)⟩
theorem Only.below {B C:Nat} {w0 w w':World} (hb:Below C w0 w) (h:Only B w w') (hC:C<=B):Below C w0 w' :=
 hb.trans ⟨h.1,h.2.1,h.2.2.1,by rw[h.2.2.2.1];exact nl,fun k hk=>h.2.2.2.2 k (by omega)⟩
theorem Only.row {B:Nat} {w w':World} {a:Option Addr} {len:Nat} (h:Only B w w') (hr:Row w B a len):Row w' B a len:=by
 rcases hr with h0|⟨b,off,rfl,hb,hc⟩
 ·exact .inl h0
 ·refine .inr ⟨b,off,rfl,hb,fun i hi=>?_⟩
  obtain⟨z,hz,h1,h2⟩:=hc i hi;exact⟨z,(World.cell?_of_block (w:=w) (a:=⟨b,off+i,none⟩) (h.2.2.2.2 b (Nat.ne_of_lt hb))).trans hz,h1,h2⟩
theorem rem_bd (y most:Int) (h0:0<=y) (h1:1<most) (h2:most<=9223372036854775807):0<=wrap64 (y.tmod most)/\wrap64 (y.tmod most)<most:=by
 rw[Int.tmod_eq_emod_of_nonneg h0];have a1:=Int.emod_nonneg y (show most≠0 by omega);have a2:=Int.emod_lt_of_pos y (show 0<most by omega);simp only[wrap64];omega
theorem src_set {w w':World} {B:Nat} {a:Option Addr} {len cap:Nat} {at_ mix size:Int} (hr:Row w B a len) (ho:Only B w w')
  (hb:w'.heap[B]? = some (.cells #[.slice a len cap,.int .i64 at_,.int .u64 mix,.int .i64 size] 78 (0,0)))
  (h1:0<=at_) (h2:at_<=len) (h3:0<=mix/\mix<=18446744073709551615) (h4:0<=size) (h5:size<=12):Src w' B a len cap :=
 ⟨ho.row hr,at_,mix,size,hb,h1,h2,h3.1,h3.2,h4,h5⟩
theorem blk_set {W:World} {B:Nat} {x0 x1 x2 x3:Value} {T:TypeId} (h:W.heap[B]? = some (.cells #[x0,x1,x2,x3] T (0,0))) (v:Value) :
  (W.setCell ⟨B,2,none⟩ v).heap[B]? = some (.cells #[x0,x1,v,x3] T (0,0)):=by
 rw[heap_setCell_same W B 2 _ T v h];rfl
theorem blk_set1 {W:World} {B:Nat} {x0 x1 x2 x3:Value} {T:TypeId} (h:W.heap[B]? = some (.cells #[x0,x1,x2,x3] T (0,0))) (v:Value) :
  (W.setCell ⟨B,1,none⟩ v).heap[B]? = some (.cells #[x0,v,x2,x3] T (0,0)):=by
 rw[heap_setCell_same W B 1 _ T v h];rfl
theorem step1 (m:Int) (h:0<=m/\m<=18446744073709551615) (y:Int):0<=bits BinOp.xor IntKind.u64 m (IntKind.u64.wrap y)/\bits BinOp.xor IntKind.u64 m (IntKind.u64.wrap y)<=18446744073709551615 :=
 xor_bd m _ h.1 h.2 (wrap64_bd y).1 (wrap64_bd y).2
theorem step2 (m:Int) (h:0<=m/\m<=18446744073709551615):0<=bits BinOp.xor IntKind.u64 m (m/128)/\bits BinOp.xor IntKind.u64 m (m/128)<=18446744073709551615 :=
 xor_bd m _ h.1 h.2 (by omega) (by omega)
theorem n_past (B:Nat) (a:Option Addr) (len cap:Nat) (most at_ mix size:Int) (w:World) (hm:1<most) (hm2:most<=9223372036854775807) (hr:Row w B a len)
  (hb:w.heap[B]? = some (.cells #[.slice a len cap,.int .i64 at_,.int .u64 mix,.int .i64 size] 78 (0,0)))
  (h0:0<=at_) (h1:¬at_<len) (h1':at_<=len) (h2:0<=mix) (h3:mix<=18446744073709551615) (h4:0<=size) (h5:size<=12) :
  Calls prog 34 #[.pointer (some ⟨B,0,none⟩),.int .i64 most] w fun e w'=>∃ r,e=.returned (.int .i64 r)/\0<=r/\r<most/\Src w' B a len cap/\Only B w w':=by
 have c0:w.cell? ⟨B,0,none⟩=some (.slice a len cap):=by rw[cell_of_row w B 0 _ _ _ hb];rfl
 have c1:w.cell? ⟨B,1,none⟩=some (.int .i64 at_):=by rw[cell_of_row w B 1 _ _ _ hb];rfl
 have c2:w.cell? ⟨B,2,none⟩=some (.int .u64 mix):=by rw[cell_of_row w B 2 _ _ _ hb];rfl
 have f:=fun o=>frozen_of_row w B o _ _ hb;have HB:=hideD hb;have HR:=hideD hr;clear hb hr;have s1:=fun n=>sc1 (W:=w.drewN n) (p:=⟨B,2,none⟩) (x:=.int .u64 mix) (by simpa using c2);have s2:=fun n=>sc2 (W:=w.drewN n) (p:=⟨B,2,none⟩) (x:=.int .u64 mix) (by simpa using c2);have s3:=fun n=>sc3 (W:=w.drewN n) (p:=⟨B,2,none⟩) (x:=.int .u64 mix) (by simpa using c2);go_enter func34,ntmps34
 go_wp2
 go_quiet (fail)
 go_wp2
 go_region
 go_wp2
 go_region
 go_wp2
 go_region
 go_wp2
 go_ret;have k1:=step1 mix ⟨h2,h3⟩ (mix*8192);have k2:=step2 _ k1;have k3:=step1 _ k2 (bits BinOp.xor IntKind.u64 (bits BinOp.xor IntKind.u64 mix (IntKind.u64.wrap (mix*8192))) (bits BinOp.xor IntKind.u64 mix (IntKind.u64.wrap (mix*8192))/128)*131072)
 exact⟨_,rfl,(rem_bd _ most (wrap64_bd _).1 hm hm2).1,(rem_bd _ most (wrap64_bd _).1 hm hm2).2,
  src_set HR.o ((((Only.drewN w _).set 2 _).set 2 _).set 2 _).drew.drew (blk_set (blk_set (blk_set (W:=w.drewN _) HB.o _) _) _) h0 h1' k3 h4 h5,((((Only.drewN w _).set 2 _).set 2 _).set 2 _).drew.drew⟩
theorem c1_other {W:World} {B:Nat} {x:Value} (h:W.cell? ⟨B,2,none⟩=some x) (v:Value):(W.setCell ⟨B,1,none⟩ v).cell? ⟨B,2,none⟩=some x :=
 (World.cell?_setCell_other W _ _ _ (by simp)).trans h
theorem n_within (B b off i:Nat) (len cap:Nat) (most z mix size:Int) (w:World) (hl:len<=1048576) (hm:1<most) (hm2:most<=9223372036854775807) (hr:Row w B (some ⟨b,off,none⟩) len)
  (hb:w.heap[B]? = some (.cells #[.slice (some ⟨b,off,none⟩) len cap,.int .i64 (i:Int),.int .u64 mix,.int .i64 size] 78 (0,0)))
  (h1:i<len) (h2:0<=mix) (h3:mix<=18446744073709551615) (h4:0<=size) (h5:size<=12) (hc:w.cell? ⟨b,off+i,none⟩=some (.int .u8 z)) (hz1:0<=z) (hz2:z<=255) :
  Calls prog 34 #[.pointer (some ⟨B,0,none⟩),.int .i64 most] w fun e w'=>∃ r,e=.returned (.int .i64 r)/\0<=r/\r<most/\Src w' B (some ⟨b,off,none⟩) len cap/\Only B w w':=by
 have c0:w.cell? ⟨B,0,none⟩=some (.slice (some ⟨b,off,none⟩) len cap):=by rw[cell_of_row w B 0 _ _ _ hb];rfl
 have c1:w.cell? ⟨B,1,none⟩=some (.int .i64 (i:Int)):=by rw[cell_of_row w B 1 _ _ _ hb];rfl
 have c2:w.cell? ⟨B,2,none⟩=some (.int .u64 mix):=by rw[cell_of_row w B 2 _ _ _ hb];rfl
 have f:=fun o=>frozen_of_row w B o _ _ hb;have HB:=hideD hb;have HR:=hideD hr;clear hb hr
 have g1:(i:Int)<(len:Int):=by omega
 go_enter func34,ntmps34
 go_wp2
 go_quiet (fail)
 obtain⟨q1,rfl⟩:∃ q,q=nq:=⟨_,rfl⟩
 go_wp2
 go_quiet (fail)
 go_wp2
 have e2:((w.drewN (q1+nq)).setCell ⟨B,1,none⟩ (.int .i64 ((i:Int)+1))).cell? ⟨B,2,none⟩=some (.int .u64 mix):=c1_other (by simpa using c2) _;have ef:∀ o,((w.drewN (q1+nq)).setCell ⟨B,1,none⟩ (.int .i64 ((i:Int)+1))).frozen? ⟨B,o,none⟩=false:=fun o=>frozen_of_row _ B o _ _ (blk_set1 (W:=w.drewN _) HB.o _);have EB:=hideD (blk_set1 (W:=w.drewN (q1+nq)) HB.o (.int .i64 ((i:Int)+1)));have EO:=hideD ((Only.drewN (B:=B) w (q1+nq)).set 1 (.int .i64 ((i:Int)+1)));generalize (w.drewN (q1+nq)).setCell ⟨B,1,none⟩ (.int .i64 ((i:Int)+1))=W1 at e2 ef EB EO ⊢;clear c0 c1 c2 f hc;have s1:=sc1 (W:=W1) (p:=⟨B,2,none⟩) (x:=.int .u64 mix) e2;have s2:=sc2 (W:=W1) (p:=⟨B,2,none⟩) (x:=.int .u64 mix) e2;have s3:=sc3 (W:=W1) (p:=⟨B,2,none⟩) (x:=.int .u64 mix) e2
 go_region
 go_wp2
 go_region
 go_wp2
 go_region
 go_wp2
 go_ret;have k1:=step1 mix ⟨h2,h3⟩ (mix*8192);have k2:=step2 _ k1;have k3:=step1 _ k2 (bits BinOp.xor IntKind.u64 (bits BinOp.xor IntKind.u64 mix (IntKind.u64.wrap (mix*8192))) (bits BinOp.xor IntKind.u64 mix (IntKind.u64.wrap (mix*8192))/128)*131072)
 exact⟨_,rfl,(rem_bd _ most (wrap64_bd _).1 hm hm2).1,(rem_bd _ most (wrap64_bd _).1 hm hm2).2,
  src_set HR.o (((EO.o.set 2 _).set 2 _).set 2 _).drew.drew.drew (blk_set (blk_set (blk_set EB.o _) _) _) (by omega) (by omega) k3 h4 h5,(((EO.o.set 2 _).set 2 _).set 2 _).drew.drew.drew⟩
theorem n_any (B:Nat) (a:Option Addr) (len cap:Nat) (most:Int) (w:World) (hl:len<=1048576) (hm2:most<=9223372036854775807) (hs:Src w B a len cap) :
  Calls prog 34 #[.pointer (some ⟨B,0,none⟩),.int .i64 most] w fun e w'=>∃ r,e=.returned (.int .i64 r)/\0<=r/\(r<most∨r=0)/\Src w' B a len cap/\Only B w w':=by
 by_cases hm:1<most
 ·obtain⟨hr,at_,mix,size,hb,h0,h1,h2,h3,h4,h5⟩:=hs
  by_cases hlt:at_<len
  ·obtain⟨i,rfl⟩:=Int.eq_ofNat_of_zero_le h0
   rcases hr with h|⟨b,off,rfl,hne,hc⟩
   ·exfalso;omega
   ·obtain⟨z,hz,z1,z2⟩:=hc i (by omega)
    exact(n_within B b off i len cap most z mix size w hl hm hm2 (.inr ⟨b,off,rfl,hne,hc⟩) hb (by omega) h2 h3 h4 h5 hz z1 z2).mono fun e w' ⟨r,e1,e2,e3,e4,e5⟩=>⟨r,e1,e2,.inl e3,e4,e5⟩
  ·exact(n_past B a len cap most at_ mix size w hm hm2 hr hb h0 hlt h1 h2 h3 h4 h5).mono fun e w' ⟨r,e1,e2,e3,e4,e5⟩=>⟨r,e1,e2,.inl e3,e4,e5⟩
 ·have HS:=hideD hs
  clear hs;go_enter func34,ntmps34
  go_wp2
  go_ret;exact⟨0,rfl,Int.le_refl _,.inr rfl,HS.o,Only.refl _ _⟩
end Dr
end Go.Proofs.YtaejgfdkfcmjeaaGreatDoor
