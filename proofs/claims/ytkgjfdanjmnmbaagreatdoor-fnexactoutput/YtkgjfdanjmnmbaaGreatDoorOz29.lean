/- Texts put together: SortPlain. -/
import Derived.WalkKit
/- Plain mathematics of a stable sort in place: rows as functions, parts turned round, and what a merge of two sorted parts needs. -/
namespace Go.Proofs.YtkgjfdanjmnmbaaGreatDoor.So
open Go.RowKit
def seg (f:Nat->Nat) (a b:Nat):List Nat:=(List.range' a (b-a)).map f
theorem seg_mem {f:Nat->Nat} {a b x:Nat}:x∈seg f a b↔∃ i,a<=i/\i<b/\f i=x:=by
 unfold seg
 rw[List.mem_map]
 constructor
 ·rintro⟨i,hi,e⟩
  have:=List.mem_range'_1.1 hi
  exact⟨i,by omega,by omega,e⟩
 ·rintro⟨i,h1,h2,e⟩
  exact⟨i,List.mem_range'_1.2 ⟨h1,by omega⟩,e⟩
theorem seg_split (f:Nat->Nat) {a m b:Nat} (h1:a<=m) (h2:m<=b):seg f a b=seg f a m++seg f m b:=by
 unfold seg
 have:=List.range'_append_1 (s:=a) (m:=m-a) (n:=b-m)
 rw[show a+(m-a)=m by omega,show m-a+(b-m)=b-a by omega]at this
 rw[<-this,List.map_append]
theorem seg_congr {f g:Nat->Nat} {a b:Nat} (h:∀ i,a<=i->i<b->f i=g i):seg f a b=seg g a b:=by
 unfold seg
 apply List.map_congr_left
 intro i hi
 have:=List.mem_range'_1.1 hi
 exact h i (by omega) (by omega)
theorem seg_shift {f g:Nat->Nat} {a a' n:Nat} (h:∀ i,i<n->g (a' + i)=f (a+i)):seg g a' (a' + n)=seg f a (a+n):=by
 unfold seg
 apply List.ext_getElem
 ·simp
 ·intro k h1 h2
  simp at h1 h2
  simp
  exact h k (by omega)
def PermF (a b:Nat) (f g:Nat->Nat):Prop:=(seg g a b).Perm (seg f a b)/\∀ i,i<a∨b<=i->g i=f i
theorem PermF.refl (a b:Nat) (f:Nat->Nat):PermF a b f f:=⟨List.Perm.refl _,fun _ _=>rfl⟩
theorem PermF.trans {a b:Nat} {f g h:Nat->Nat} (h1:PermF a b f g) (h2:PermF a b g h):PermF a b f h :=
 ⟨h2.1.trans h1.1,fun i hi=>(h2.2 i hi).trans (h1.2 i hi)⟩
theorem PermF.mono {a b a' b':Nat} {f g:Nat->Nat} (h:PermF a b f g) (ha:a'<=a) (hab:a<=b) (hb:b<=b'):PermF a' b' f g:=by
 refine⟨?_,fun i hi=>h.2 i (by omega)⟩
 rw[seg_split g (show a'<=a from ha) (show a<=b' by omega),seg_split f (show a'<=a from ha) (show a<=b' by omega),seg_split g hab hb,seg_split f hab hb]
 rw[seg_congr (f:=g) (g:=f) (a:=a') (b:=a) fun i _ h2=>h.2 i (by omega),seg_congr (f:=g) (g:=f) (a:=b) (b:=b') fun i h1 _=>h.2 i (by omega)]
 exact(List.Perm.refl _).append (h.1.append (List.Perm.refl _))
theorem PermF.all {a b:Nat} {f g:Nat->Nat} (h:PermF a b f g) {p:Nat->Prop} (hp:∀ i,a<=i->i<b->p (f i)):∀ i,a<=i->i<b->p (g i):=by
 intro i h1 h2
 have hm:g i∈seg g a b:=seg_mem.2 ⟨i,h1,h2,rfl⟩
 obtain⟨k,k1,k2,e⟩:=seg_mem.1 (h.1.mem_iff.1 hm)
 rw[<-e]
 exact hp k k1 k2
def rotF (a m b:Nat) (f:Nat->Nat):Nat->Nat:=fun k =>
 if k<a then f k else if k<a+(b-m) then f (k-a+m) else if k<b then f (k-(b-m)) else f k
theorem rot_out {a m b:Nat} (f:Nat->Nat) (k:Nat) (h:k<a∨b<=k) (h1:a<=m) (h2:m<=b):rotF a m b f k=f k:=by
 unfold rotF
 rcases h with h|h
 ·rw[if_pos h]
 ·rw[if_neg (by omega),if_neg (by omega),if_neg (by omega)]
theorem rot_first {a m b:Nat} (f:Nat->Nat) (k:Nat) (h1:a<=k) (h2:k<a+(b-m)):rotF a m b f k=f (k-a+m):=by
 unfold rotF
 rw[if_neg (by omega),if_pos h2]
theorem rot_second {a m b:Nat} (f:Nat->Nat) (k:Nat) (h0:a<=k) (h1:a+(b-m)<=k) (h2:k<b):rotF a m b f k=f (k-(b-m)):=by
 unfold rotF
 rw[if_neg (by omega),if_neg (by omega),if_pos h2]
theorem rot_perm {a m b:Nat} (f:Nat->Nat) (h1:a<=m) (h2:m<=b):PermF a b f (rotF a m b f):=by
 refine⟨?_,fun i hi=>rot_out f i hi h1 h2⟩
 rw[seg_split (rotF a m b f) (show a<=a+(b-m) by omega) (show a+(b-m)<=b by omega),seg_split f h1 h2]
 have e1:seg (rotF a m b f) a (a+(b-m))=seg f m b:=by
  have:=seg_shift (f:=f) (g:=rotF a m b f) (a:=m) (a':=a) (n:=b-m) fun i hi=>by
   rw[rot_first f (a+i) (by omega) (by omega)]
   congr 1
   omega
  rw[this]
  congr 1
  omega
 have e2:seg (rotF a m b f) (a+(b-m)) b=seg f a m:=by
  have:=seg_shift (f:=f) (g:=rotF a m b f) (a:=a) (a':=a+(b-m)) (n:=m-a) fun i hi=>by
   rw[rot_second f (a+(b-m)+i) (by omega) (by omega) (by omega)]
   congr 1
   omega
  rw[show a+(b-m)+(m-a)=b by omega]at this
  rw[this]
  congr 1
  omega
 rw[e1,e2]
 exact List.perm_append_comm
def swpR (p q n:Nat) (f:Nat->Nat):Nat->Nat:=fun k =>
 if p<=k/\k<p+n then f (k-p+q) else if q<=k/\k<q+n then f (k-q+p) else f k
def swp (f:Nat->Nat) (i j:Nat):Nat->Nat:=fun k=>if k=j then f i else if k=i then f j else f k
theorem swpR_zero (p q:Nat) (f:Nat->Nat):swpR p q 0 f=f:=by
 funext k
 unfold swpR
 rw[if_neg (by omega),if_neg (by omega)]
theorem swpR_next (p q n:Nat) (f:Nat->Nat) (h:p+n<q):swp (swpR p q n f) (p+n) (q+n)=swpR p q (n+1) f:=by
 funext k
 unfold swp
 by_cases e1:k=q+n
 ·subst e1
  rw[if_pos rfl]
  unfold swpR
  rw[if_neg (by omega),if_neg (by omega),if_neg (by omega),if_pos (by omega)]
  congr 1
  omega
 ·rw[if_neg e1]
  by_cases e2:k=p+n
  ·subst e2
   rw[if_pos rfl]
   unfold swpR
   rw[if_neg (by omega),if_neg (by omega),if_pos (by omega)]
   congr 1
   omega
  ·rw[if_neg e2]
   unfold swpR
   by_cases h1:p<=k/\k<p+n
   ·rw[if_pos h1,if_pos (by omega)]
   ·rw[if_neg h1,if_neg (show ¬(p<=k/\k<p+(n+1)) by omega)]
    by_cases h2:q<=k/\k<q+n
    ·rw[if_pos h2,if_pos (by omega)]
    ·rw[if_neg h2,if_neg (by omega)]
theorem rot_long (m i j:Nat) (f:Nat->Nat) (hj:j<i) (hi:i<=m):rotF (m-(i-j)) m (m+j) (swpR (m-i) m j f)=rotF (m-i) m (m+j) f:=by
 funext k
 unfold rotF swpR
 repeat' split
 all_goals first|omega|(congr 1;omega)|rfl
theorem rot_short (m i j:Nat) (f:Nat->Nat) (hj:i<j) (hi:i<=m):rotF (m-i) m (m+(j-i)) (swpR (m-i) (m+j-i) i f)=rotF (m-i) m (m+j) f:=by
 funext k
 unfold rotF swpR
 repeat' split
 all_goals first|omega|(congr 1;omega)|rfl
theorem rot_even (m i:Nat) (f:Nat->Nat) (hi:i<=m):swpR (m-i) m i f=rotF (m-i) m (m+i) f:=by
 funext k
 unfold rotF swpR
 repeat' split
 all_goals first|omega|(congr 1;omega)|rfl
theorem rot_up (a k:Nat) (f:Nat->Nat) (h:a<=k):swp (rotF a (a+1) (k+1) f) k (k+1)=rotF a (a+1) (k+2) f:=by
 funext i
 unfold swp rotF
 repeat' split
 all_goals first|omega|(congr 1;omega)|rfl
theorem rot_up0 (a:Nat) (f:Nat->Nat):rotF a (a+1) (a+1) f=f:=by
 funext i
 unfold rotF
 repeat' split
 all_goals first|omega|(congr 1;omega)|rfl
theorem rot_down (k m:Nat) (f:Nat->Nat) (h:k+1<=m):swp (rotF (k+1) m (m+1) f) (k+1) k=rotF k m (m+1) f:=by
 funext i
 unfold swp rotF
 repeat' split
 all_goals first|omega|(congr 1;omega)|rfl
theorem rot_down0 (m:Nat) (f:Nat->Nat):rotF m m (m+1) f=f:=by
 funext i
 unfold rotF
 repeat' split
 all_goals first|omega|(congr 1;omega)|rfl
structure Weak (cl:Nat->Nat->Bool):Prop where
 irrefl:∀ x,cl x x=false
 trans:∀ x y z,cl x y=true->cl y z=true->cl x z=true
 ntrans:∀ x y z,cl x y=false->cl y z=false->cl x z=false
def lx (cl:Nat->Nat->Bool) (x y:Nat):Prop:=cl x y=true∨cl y x=false/\x<y
theorem lx_trans {cl:Nat->Nat->Bool} (h:Weak cl) {x y z:Nat} (h1:lx cl x y) (h2:lx cl y z):lx cl x z:=by
 rcases h1 with h1|⟨h1,l1⟩
 ·rcases h2 with h2|⟨h2,l2⟩
  ·exact .inl (h.trans _ _ _ h1 h2)
  ·cases e:cl x z with
   |true=>exact .inl e
   |false=>have:=h.ntrans _ _ _ e h2;rw[this]at h1;cases h1
 ·rcases h2 with h2|⟨h2,l2⟩
  ·cases e:cl x z with
   |true=>exact .inl e
   |false=>have:=h.ntrans _ _ _ h1 e;rw[this]at h2;cases h2
  ·exact .inr ⟨h.ntrans _ _ _ h2 h1,by omega⟩
theorem lx_asymm {cl:Nat->Nat->Bool} (h:Weak cl) {x y:Nat} (h1:lx cl x y) (h2:lx cl y x):False:=by
 have:=lx_trans h h1 h2
 rcases this with e|⟨_,e⟩
 ·rw[h.irrefl]at e;cases e
 ·omega
theorem lx_yes {cl:Nat->Nat->Bool} {x y:Nat} (e:cl x y=true):lx cl x y:=.inl e
theorem lx_no {cl:Nat->Nat->Bool} {x y:Nat} (e:cl x y=false) (h:y<x):lx cl y x:=.inr ⟨e,h⟩
def Ris (cl:Nat->Nat->Bool) (a b:Nat) (f:Nat->Nat):Prop:=∀ i j,a<=i->i<j->j<b->lx cl (f i) (f j)
theorem Ris.sub {cl:Nat->Nat->Bool} {a b a' b':Nat} {f:Nat->Nat} (h:Ris cl a b f) (ha:a<=a') (hb:b'<=b):Ris cl a' b' f :=
 fun i j h1 h2 h3=>h i j (by omega) h2 (by omega)
theorem Ris.congr {cl:Nat->Nat->Bool} {a b:Nat} {f g:Nat->Nat} (h:Ris cl a b f) (e:∀ i,a<=i->i<b->g i=f i):Ris cl a b g :=
 fun i j h1 h2 h3=>by rw[e i h1 (by omega),e j (by omega) h3];exact h i j h1 h2 h3
theorem Ris.le {cl:Nat->Nat->Bool} {a b:Nat} {f:Nat->Nat} (h:Ris cl a b f) {i j:Nat} (h1:a<=i) (h2:i<=j) (h3:j<b) {x:Nat} (hw:Weak cl) (hx:lx cl (f j) x):lx cl (f i) x:=by
 rcases Nat.lt_or_ge i j with e|e
 ·exact lx_trans hw (h i j h1 e h3) hx
 ·rw[show i=j by omega];exact hx
theorem Ris.ge {cl:Nat->Nat->Bool} {a b:Nat} {f:Nat->Nat} (h:Ris cl a b f) {i j:Nat} (h1:a<=i) (h2:i<=j) (h3:j<b) {x:Nat} (hw:Weak cl) (hx:lx cl x (f i)):lx cl x (f j):=by
 rcases Nat.lt_or_ge i j with e|e
 ·exact lx_trans hw hx (h i j h1 e h3)
 ·rw[<-show i=j by omega];exact hx
theorem Ris.join {cl:Nat->Nat->Bool} {a m b:Nat} {f:Nat->Nat} (h1:Ris cl a m f) (h2:Ris cl m b f) (h:∀ i j,a<=i->i<m->m<=j->j<b->lx cl (f i) (f j)):Ris cl a b f:=by
 intro i j hi hij hj
 rcases Nat.lt_or_ge j m with e|e
 ·exact h1 i j hi hij e
 ·rcases Nat.lt_or_ge i m with e2|e2
  ·exact h i j hi e2 e hj
  ·exact h2 i j e2 hij hj
def Sep (a m b:Nat) (f:Nat->Nat):Prop:=∀ i j,a<=i->i<m->m<=j->j<b->f i<f j
theorem down_ris {cl:Nat->Nat->Bool} (hw:Weak cl) {a m i:Nat} {f:Nat->Nat} (hr:Ris cl a m f) (hai:a<=i) (him:i<=m)
  (hlo:∀ k,a<=k->k<i->lx cl (f k) (f m)) (hhi:∀ k,i<=k->k<m->lx cl (f m) (f k)):Ris cl a (m+1) (rotF i m (m+1) f):=by
 have _:=hw
 intro p q h1 h2 h3
 have e:∀ k,a<=k->k<m+1->rotF i m (m+1) f k=if k<i then f k else if k=i then f m else f (k-1):=by
  intro k k1 k2
  unfold rotF
  repeat' split
  all_goals first|omega|(congr 1;omega)|rfl
 rw[e p h1 (by omega),e q (by omega) h3]
 repeat' split
 all_goals first|omega|exact hr _ _ (by omega) (by omega) (by omega)|exact hlo _ (by omega) (by omega)|exact hhi _ (by omega) (by omega)
theorem up_ris {cl:Nat->Nat->Bool} (hw:Weak cl) {a b i:Nat} {f:Nat->Nat} (hr:Ris cl (a+1) b f) (hai:a+1<=i) (hib:i<=b)
  (hlo:∀ k,a+1<=k->k<i->lx cl (f k) (f a)) (hhi:∀ k,i<=k->k<b->lx cl (f a) (f k)):Ris cl a b (rotF a (a+1) i f):=by
 have _:=hw
 intro p q h1 h2 h3
 have e:∀ k,a<=k->k<b->rotF a (a+1) i f k=if k+1<i then f (k+1) else if k+1=i then f a else f k:=by
  intro k k1 k2
  unfold rotF
  repeat' split
  all_goals first|omega|(congr 1;omega)|rfl
 rw[e p h1 (by omega),e q (by omega) h3]
 repeat' split
 all_goals first|omega|exact hr _ _ (by omega) (by omega) (by omega)|exact hlo _ (by omega) (by omega)|exact hhi _ (by omega) (by omega)
end Go.Proofs.YtkgjfdanjmnmbaaGreatDoor.So

