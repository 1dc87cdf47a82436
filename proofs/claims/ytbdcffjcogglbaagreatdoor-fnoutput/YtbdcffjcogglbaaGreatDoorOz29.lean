import Derived.Shelf.SlSortCmp.InsertionK
import Derived.BigRegion
import Derived.BigQuiet
import Derived.Deep.QuietTactic
import Derived.Test.YtbdcffjcogglbaaGreatDoorOz7
set_option maxRecDepth 100000
set_option maxHeartbeats 8000000
namespace Go.Proofs.YtbdcffjcogglbaaGreatDoor
open Go.RowKit
open Go.Proofs.Tryz
namespace So
def seg (f:Nat->Nat) (a b:Nat):List Nat:=(List.range' a (b-a)).map f
theorem seg_mem {f:Nat->Nat} {a b x:Nat}:x∈seg f a b↔∃ i,a<=i/\i<b/\f i=x:=by
 unfold seg;rw[List.mem_map]
 constructor
 ·rintro⟨i,hi,e⟩
  have:=List.mem_range'_1.1 hi
  exact⟨i,by omega,by omega,e⟩
 ·rintro⟨i,h1,h2,e⟩
  exact⟨i,List.mem_range'_1.2 ⟨h1,by omega⟩,e⟩
theorem seg_split (f:Nat->Nat) {a m b:Nat} (h1:a<=m) (h2:m<=b):seg f a b=seg f a m++seg f m b:=by
 unfold seg
 have:=List.range'_append_1 (s:=a) (m:=m-a) (n:=b-m)
 rw[show a+(m-a)=m by omega,show m-a+(b-m)=b-a by omega]at this;rw[<-this,List.map_append]
theorem seg_congr {f g:Nat->Nat} {a b:Nat} (h:∀ i,a<=i->i<b->f i=g i):seg f a b=seg g a b:=by
 unfold seg
 apply List.map_congr_left
 intro i hi
 have:=List.mem_range'_1.1 hi
 exact h i (by omega) (by omega)
theorem seg_shift {f g:Nat->Nat} {a a' n:Nat} (h:∀ i,i<n->g (a' + i)=f (a+i)):seg g a' (a' + n)=seg f a (a+n):=by
 unfold seg
 apply List.ext_getElem
 ·simp
 ·intro k h1 h2
  simp at h1 h2;simp;exact h k (by omega)
def PermF (a b:Nat) (f g:Nat->Nat):Prop:=(seg g a b).Perm (seg f a b)/\∀ i,i<a∨b<=i->g i=f i
theorem PermF.refl (a b:Nat) (f:Nat->Nat):PermF a b f f:=⟨List.Perm.refl _,fun _ _=>rfl⟩
theorem PermF.trans {a b:Nat} {f g h:Nat->Nat} (h1:PermF a b f g) (h2:PermF a b g h):PermF a b f h :=
 ⟨h2.1.trans h1.1,fun i hi=>(h2.2 i hi).trans (h1.2 i hi)⟩
theorem PermF.mono {a b a' b':Nat} {f g:Nat->Nat} (h:PermF a b f g) (ha:a'<=a) (hab:a<=b) (hb:b<=b'):PermF a' b' f g:=by
 refine⟨?_,fun i hi=>h.2 i (by omega)⟩;rw[seg_split g (show a'<=a from ha) (show a<=b' by omega),seg_split f (show a'<=a from ha) (show a<=b' by omega),seg_split g hab hb,seg_split f hab hb];rw[seg_congr (f:=g) (g:=f) (a:=a') (b:=a) fun i _ h2=>h.2 i (by omega),seg_congr (f:=g) (g:=f) (a:=b) (b:=b') fun i h1 _=>h.2 i (by omega)];exact(List.Perm.refl _).append (h.1.append (List.Perm.refl _))
theorem PermF.all {a b:Nat} {f g:Nat->Nat} (h:PermF a b f g) {p:Nat->Prop} (hp:∀ i,a<=i->i<b->p (f i)):∀ i,a<=i->i<b->p (g i):=by
 intro i h1 h2;have hm:g i∈seg g a b:=seg_mem.2 ⟨i,h1,h2,rfl⟩;obtain⟨k,k1,k2,e⟩:=seg_mem.1 (h.1.mem_iff.1 hm);rw[<-e];exact hp k k1 k2
def rotF (a m b:Nat) (f:Nat->Nat):Nat->Nat:=fun k =>
 if k<a then f k else if k<a+(b-m) then f (k-a+m) else if k<b then f (k-(b-m)) else f k
theorem rot_out {a m b:Nat} (f:Nat->Nat) (k:Nat) (h:k<a∨b<=k) (h1:a<=m) (h2:m<=b):rotF a m b f k=f k:=by
 unfold rotF
 rcases h with h|h
 ·rw[if_pos h]
 ·rw[if_neg (by omega),if_neg (by omega),if_neg (by omega)]
theorem rot_first {a m b:Nat} (f:Nat->Nat) (k:Nat) (h1:a<=k) (h2:k<a+(b-m)):rotF a m b f k=f (k-a+m):=by
 unfold rotF;rw[if_neg (by omega),if_pos h2]
theorem rot_second {a m b:Nat} (f:Nat->Nat) (k:Nat) (h0:a<=k) (h1:a+(b-m)<=k) (h2:k<b):rotF a m b f k=f (k-(b-m)):=by
 unfold rotF;rw[if_neg (by omega),if_neg (by omega),if_pos h2]
theorem rot_perm {a m b:Nat} (f:Nat->Nat) (h1:a<=m) (h2:m<=b):PermF a b f (rotF a m b f):=by
 refine⟨?_,fun i hi=>rot_out f i hi h1 h2⟩;rw[seg_split (rotF a m b f) (show a<=a+(b-m) by omega) (show a+(b-m)<=b by omega),seg_split f h1 h2]
 have e1:seg (rotF a m b f) a (a+(b-m))=seg f m b:=by
  have:=seg_shift (f:=f) (g:=rotF a m b f) (a:=m) (a':=a) (n:=b-m) fun i hi=>by
   rw[rot_first f (a+i) (by omega) (by omega)]
   congr 1
   omega
  rw[this]
  congr 1
  omega
 have e2:seg (rotF a m b f) (a+(b-m)) b=seg f a m:=by
  have:=seg_shift (f:=f) (g:=rotF a m b f) (a:=a) (a':=a+(b-m)) (n:=m-a) fun i hi=>by
   rw[rot_second f (a+(b-m)+i) (by omega) (by omega) (by omega)]
   congr 1
   omega
  rw[show a+(b-m)+(m-a)=b by omega]at this;rw[this]
  congr 1
  omega
 rw[e1,e2];exact List.perm_append_comm
def swpR (p q n:Nat) (f:Nat->Nat):Nat->Nat:=fun k =>
 if p<=k/\k<p+n then f (k-p+q) else if q<=k/\k<q+n then f (k-q+p) else f k
def swp (f:Nat->Nat) (i j:Nat):Nat->Nat:=fun k=>if k=j then f i else if k=i then f j else f k
theorem swpR_zero (p q:Nat) (f:Nat->Nat):swpR p q 0 f=f:=by
 funext k
 unfold swpR;rw[if_neg (by omega),if_neg (by omega)]
theorem swpR_next (p q n:Nat) (f:Nat->Nat) (h:p+n<q):swp (swpR p q n f) (p+n) (q+n)=swpR p q (n+1) f:=by
 funext k
 unfold swp;by_cases e1:k=q+n
 ·subst e1
  rw[if_pos rfl];unfold swpR;rw[if_neg (by omega),if_neg (by omega),if_neg (by omega),if_pos (by omega)]
  congr 1
  omega
 ·rw[if_neg e1]
  by_cases e2:k=p+n
  ·subst e2
   rw[if_pos rfl];unfold swpR;rw[if_neg (by omega),if_neg (by omega),if_pos (by omega)]
   congr 1
   omega
  ·rw[if_neg e2]
   unfold swpR;by_cases h1:p<=k/\k<p+n
   ·rw[if_pos h1,if_pos (by omega)]
   ·rw[if_neg h1,if_neg (show ¬(p<=k/\k<p+(n+1)) by omega)]
    by_cases h2:q<=k/\k<q+n
    ·rw[if_pos h2,if_pos (by omega)]
    ·rw[if_neg h2,if_neg (by omega)]
theorem rot_long (m i j:Nat) (f:Nat->Nat) (hj:j<i) (hi:i<=m):rotF (m-(i-j)) m (m+j) (swpR (m-i) m j f)=rotF (m-i) m (m+j) f:=by
 funext k
 unfold rotF swpR
 repeat' split
 all_goals first|omega|(congr 1;omega)|rfl
theorem rot_short (m i j:Nat) (f:Nat->Nat) (hj:i<j) (hi:i<=m):rotF (m-i) m (m+(j-i)) (swpR (m-i) (m+j-i) i f)=rotF (m-i) m (m+j) f:=by
 funext k
 unfold rotF swpR
 repeat' split
 all_goals first|omega|(congr 1;omega)|rfl
theorem rot_even (m i:Nat) (f:Nat->Nat) (hi:i<=m):swpR (m-i) m i f=rotF (m-i) m (m+i) f:=by
 funext k
 unfold rotF swpR
 repeat' split
 all_goals first|omega|(congr 1;omega)|rfl
theorem rot_up (a k:Nat) (f:Nat->Nat) (h:a<=k):swp (rotF a (a+1) (k+1) f) k (k+1)=rotF a (a+1) (k+2) f:=by
 funext i
 unfold swp rotF
 repeat' split
 all_goals first|omega|(congr 1;omega)|rfl
theorem rot_up0 (a:Nat) (f:Nat->Nat):rotF a (a+1) (a+1) f=f:=by
 funext i
 unfold rotF
 repeat' split
 all_goals first|omega|(congr 1;omega)|rfl
theorem rot_down (k m:Nat) (f:Nat->Nat) (h:k+1<=m):swp (rotF (k+1) m (m+1) f) (k+1) k=rotF k m (m+1) f:=by
 funext i
 unfold swp rotF
 repeat' split
 all_goals first|omega|(congr 1;omega)|rfl
theorem rot_down0 (m:Nat) (f:Nat->Nat):rotF m m (m+1) f=f:=by
 funext i
 unfold rotF
 repeat' split
 all_goals first|omega|(congr 1;omega)|rfl
structure Weak (cl:Nat->Nat->Bool):Prop where
 irrefl:∀ x,cl x x=false
 trans:∀ x y z,cl x y=true->cl y z=true->cl x z=true
 ntrans:∀ x y z,cl x y=false->cl y z=false->cl x z=false
def lx (cl:Nat->Nat->Bool) (x y:Nat):Prop:=cl x y=true∨cl y x=false/\x<y
theorem lx_trans {cl:Nat->Nat->Bool} (h:Weak cl) {x y z:Nat} (h1:lx cl x y) (h2:lx cl y z):lx cl x z:=by
 rcases h1 with h1|⟨h1,l1⟩
 ·rcases h2 with h2|⟨h2,l2⟩
  ·exact .inl (h.trans _ _ _ h1 h2)
  ·cases e:cl x z with
   |true=>exact .inl e
   |false=>have:=h.ntrans _ _ _ e h2;rw[this]at h1;cases h1
 ·rcases h2 with h2|⟨h2,l2⟩
  ·cases e:cl x z with
   |true=>exact .inl e
   |false=>have:=h.ntrans _ _ _ h1 e;rw[this]at h2;cases h2
  ·exact .inr ⟨h.ntrans _ _ _ h2 h1,by omega⟩
theorem lx_asymm {cl:Nat->Nat->Bool} (h:Weak cl) {x y:Nat} (h1:lx cl x y) (h2:lx cl y x):False:=by
 have:=lx_trans h h1 h2
 rcases this with e|⟨_,e⟩
 ·rw[h.irrefl]at e;cases e
 ·omega
theorem lx_yes {cl:Nat->Nat->Bool} {x y:Nat} (e:cl x y=true):lx cl x y:=.inl e
theorem lx_no {cl:Nat->Nat->Bool} {x y:Nat} (e:cl x y=false) (h:y<x):lx cl y x:=.inr ⟨e,h⟩
def Ris (cl:Nat->Nat->Bool) (a b:Nat) (f:Nat->Nat):Prop:=∀ i j,a<=i->i<j->j<b->lx cl (f i) (f j)
theorem Ris.sub {cl:Nat->Nat->Bool} {a b a' b':Nat} {f:Nat->Nat} (h:Ris cl a b f) (ha:a<=a') (hb:b'<=b):Ris cl a' b' f :=
 fun i j h1 h2 h3=>h i j (by omega) h2 (by omega)
theorem Ris.congr {cl:Nat->Nat->Bool} {a b:Nat} {f g:Nat->Nat} (h:Ris cl a b f) (e:∀ i,a<=i->i<b->g i=f i):Ris cl a b g :=
 fun i j h1 h2 h3=>by rw[e i h1 (by omega),e j (by omega) h3];exact h i j h1 h2 h3
theorem Ris.le {cl:Nat->Nat->Bool} {a b:Nat} {f:Nat->Nat} (h:Ris cl a b f) {i j:Nat} (h1:a<=i) (h2:i<=j) (h3:j<b) {x:Nat} (hw:Weak cl) (hx:lx cl (f j) x):lx cl (f i) x:=by
 rcases Nat.lt_or_ge i j with e|e
 ·exact lx_trans hw (h i j h1 e h3) hx
 ·rw[show i=j by omega];exact hx
theorem Ris.ge {cl:Nat->Nat->Bool} {a b:Nat} {f:Nat->Nat} (h:Ris cl a b f) {i j:Nat} (h1:a<=i) (h2:i<=j) (h3:j<b) {x:Nat} (hw:Weak cl) (hx:lx cl x (f i)):lx cl x (f j):=by
 rcases Nat.lt_or_ge i j with e|e
 ·exact lx_trans hw hx (h i j h1 e h3)
 ·rw[<-show i=j by omega];exact hx
theorem Ris.join {cl:Nat->Nat->Bool} {a m b:Nat} {f:Nat->Nat} (h1:Ris cl a m f) (h2:Ris cl m b f) (h:∀ i j,a<=i->i<m->m<=j->j<b->lx cl (f i) (f j)):Ris cl a b f:=by
 intro i j hi hij hj
 rcases Nat.lt_or_ge j m with e|e
 ·exact h1 i j hi hij e
 ·rcases Nat.lt_or_ge i m with e2|e2
  ·exact h i j hi e2 e hj
  ·exact h2 i j e2 hij hj
def Sep (a m b:Nat) (f:Nat->Nat):Prop:=∀ i j,a<=i->i<m->m<=j->j<b->f i<f j
theorem down_ris {cl:Nat->Nat->Bool} (hw:Weak cl) {a m i:Nat} {f:Nat->Nat} (hr:Ris cl a m f) (hai:a<=i) (him:i<=m)
  (hlo:∀ k,a<=k->k<i->lx cl (f k) (f m)) (hhi:∀ k,i<=k->k<m->lx cl (f m) (f k)):Ris cl a (m+1) (rotF i m (m+1) f):=by
 have _:=hw;intro p q h1 h2 h3
 have e:∀ k,a<=k->k<m+1->rotF i m (m+1) f k=if k<i then f k else if k=i then f m else f (k-1):=by
  intro k k1 k2;unfold rotF
  repeat' split
  all_goals first|omega|(congr 1;omega)|rfl
 rw[e p h1 (by omega),e q (by omega) h3]
 repeat' split
 all_goals first|omega|exact hr _ _ (by omega) (by omega) (by omega)|exact hlo _ (by omega) (by omega)|exact hhi _ (by omega) (by omega)
theorem up_ris {cl:Nat->Nat->Bool} (hw:Weak cl) {a b i:Nat} {f:Nat->Nat} (hr:Ris cl (a+1) b f) (hai:a+1<=i) (hib:i<=b)
  (hlo:∀ k,a+1<=k->k<i->lx cl (f k) (f a)) (hhi:∀ k,i<=k->k<b->lx cl (f a) (f k)):Ris cl a b (rotF a (a+1) i f):=by
 have _:=hw;intro p q h1 h2 h3
 have e:∀ k,a<=k->k<b->rotF a (a+1) i f k=if k+1<i then f (k+1) else if k+1=i then f a else f k:=by
  intro k k1 k2;unfold rotF
  repeat' split
  all_goals first|omega|(congr 1;omega)|rfl
 rw[e p h1 (by omega),e q (by omega) h3]
 repeat' split
 all_goals first|omega|exact hr _ _ (by omega) (by omega) (by omega)|exact hlo _ (by omega) (by omega)|exact hhi _ (by omega) (by omega)
end So
namespace So
open Go.RowKit Go.Sort Go.Proofs
theorem hideO {p:Prop} (h:p):Hid p:=h
def dF (d:Array Nat):Nat->Nat:=fun i=>d[i]!
theorem dF_swp (d:Array Nat) (i j:Nat) (hi:i<d.size) (hj:j<d.size):dF (Go.Sort.swp d i j)=So.swp (dF d) i j:=by
 funext k
 unfold dF So.swp;rw[Go.Sort.swp_get d hi hj]
theorem dF_out (d:Array Nat) (i:Nat) (h:d.size<=i):dF d i=0:=by
 unfold dF;rw[getElem!_neg d i (by omega)];rfl
theorem mixed:prog.follows .mixedOrders=true:=by kernel_rfl
def encT (T:Nat->ByteArray) (x:Nat):List Value:=[.int .i64 x,.string (T x)]
theorem encT_len (T:Nat->ByteArray):∀ x,(encT T x).length=2:=fun _=>rfl
theorem cells_T {T:Nat->ByteArray} {w:World} {blk:Nat} {d:Array Nat} (h:HoldsK (encT T) 2 w blk 0 d) {i:Nat} (hi:i<d.size) :
  w.cell? ⟨blk,i*2,none⟩=some (.int .i64 (d[i]!:Nat))/\w.frozen? ⟨blk,i*2,none⟩=false/\w.cell? ⟨blk,i*2+1,none⟩=some (.string (T d[i]!))/\w.frozen? ⟨blk,i*2+1,none⟩=false:=by
 have x0:=h.cell (i:=i) (c:=0) hi (by omega);have x1:=h.cell (i:=i) (c:=1) hi (by omega);rw[Nat.zero_add,Nat.add_zero]at x0;rw[Nat.zero_add]at x1;exact⟨x0.1,x0.2,x1.1,x1.2⟩
def encI (x:Nat):List Value:=[.int .i64 x]
theorem encI_len:∀ x,(encI x).length=1:=fun _=>rfl
section
variable {enc : Nat → List Value} {k : Nat} {w : World} {blk off : Nat} {d : Array Nat}
theorem world_self (h:HoldsK enc k w blk off d):w=sortWorldK enc k w blk off 0 d #[]:=by
 unfold sortWorldK;rw[grow_empty];exact(putRowK_self enc k w blk off d h).symm
theorem world_holds (h:HoldsK enc k w blk off d) (hb:blk<w.heap.size) (m:Nat) (d':Array Nat) (os:Array Obj) (hs:d'.size=d.size):HoldsK enc k (sortWorldK enc k w blk off m d' os) blk off d' :=
 holdsK_sortWorldK_c enc k w blk off d d' m os h hb hs
theorem world_size (m:Nat) (d':Array Nat) (os:Array Obj):w.heap.size<=(sortWorldK enc k w blk off m d' os).heap.size:=size_sortWorldK_c enc k w blk off m d' os
theorem world_world (m n:Nat) (d' d'':Array Nat) (os os':Array Obj) (hb:blk<w.heap.size) (hs:d''.size=d'.size) :
  sortWorldK enc k (sortWorldK enc k w blk off m d' os) blk off n d'' os'=sortWorldK enc k w blk off (m+n) d'' (os++os'):=by
 unfold sortWorldK;exact grow_step_growK enc k w os os' m n blk off d' d'' hb hs
theorem world_block (m:Nat) (d':Array Nat) (os:Array Obj) {j:Nat} (hj:j<w.heap.size) (hne:j≠blk):(sortWorldK enc k w blk off m d' os).heap[j]? = w.heap[j]?:=by
 unfold sortWorldK;rw[heap_grow_old _ _ (by rw[size_putRowK];exact hj)];unfold putRowK putRow mapBlock;simp only[Array.getElem?_modify];rw[if_neg (fun h=>hne h.symm)];rfl
theorem world_below (m:Nat) (d':Array Nat) (os:Array Obj) {B:Nat} (hB:B<=blk) (hw:B<=w.heap.size):Below B w (sortWorldK enc k w blk off m d' os) :=
 ⟨rfl,rfl,rfl,world_size m d' os,fun j hj=>world_block m d' os (by omega) (by omega)⟩
theorem holds_block {w':World} (h:HoldsK enc k w blk off d) (e:w'.heap[blk]? = w.heap[blk]?):HoldsK enc k w' blk off d:=by
 intro j hj
 have:=h j hj
 simp only[World.cell?,World.frozen?]at this ⊢;rw[e];exact this
end
end So
namespace So
open Go.RowKit Go.Sort Go.Proofs
theorem bless_eq:∀ (x y:List UInt8),Op.bytesLess x y=decide (x<y)
 |[],[]=>by simp[Op.bytesLess]
 |_ :: _,[]=>by simp[Op.bytesLess]
 |[],_ :: _=>by simp[Op.bytesLess]
 |a :: x,b :: y=>by
  rw[Op.bytesLess,bless_eq x y];simp only[List.cons_lt_cons_iff];by_cases h1:a<b<;>by_cases h2:a=b<;>simp[h1,h2]
def clT (T:Nat->ByteArray) (x y:Nat):Bool:=Op.bytesLess (T x).toList (T y).toList
theorem clT_weak (T:Nat->ByteArray):Weak (clT T) where
 irrefl x:=by simp[clT,bless_eq,List.lt_irrefl]
 trans x y z h1 h2:=by
  simp only[clT,bless_eq,decide_eq_true_eq]at *;exact List.lt_trans h1 h2
 ntrans x y z h1 h2:=by
  simp only[clT,bless_eq,decide_eq_false_iff_not,List.not_lt]at *;exact List.le_trans h2 h1
def cfT (T:Nat->ByteArray) (x y:Nat):Int:=if Op.bytesLess (T x).toList (T y).toList=true then -1 else if ((T x).toList==(T y).toList)=true then 0 else 1
theorem cfT_neg (T:Nat->ByteArray) (x y:Nat):decide (cfT T x y<0)=clT T x y:=by
 unfold cfT clT
 cases Op.bytesLess (T x).toList (T y).toList with
 |true=>rfl
 |false =>
  cases ((T x).toList==(T y).toList)<;>rfl
theorem nan_S (s:ByteArray) (w:World):Calls prog 206 #[.string s] w fun e w'=>e=.returned (.bool false)/\w'=w:=by
 go_enter func206,ntmps206
 go_wp2_with fail
 go_ret;exact⟨rfl,rfl⟩
theorem compare_S (s t:ByteArray) (w:World):Calls prog 189 #[.string s,.string t] w fun e w'=>e=.returned (.int .i64 (if Op.bytesLess s.toList t.toList=true then -1 else if (s.toList==t.toList)=true then 0 else 1))/\w'=w:=by
 cases h1:Op.bytesLess s.toList t.toList with
 |true =>
  rw[if_pos rfl];go_enter func189,ntmps189
  go_wp2_with fail
  refine(nan_S s w).mono ?_;rintro e w' ⟨rfl,hw⟩;subst w'
  go_wp2_with fail
  refine(nan_S t w).mono ?_;rintro e w' ⟨rfl,hw⟩;subst w'
  go_wp2_with fail
  go_ret;exact⟨rfl,rfl⟩
 |false =>
  rw[if_neg Bool.false_ne_true]
  cases h2:(s.toList==t.toList) with
  |true =>
   rw[if_pos rfl]
   have h3:(!(Op.bytesLess s.toList t.toList || s.toList==t.toList))=false:=by rw[h1,h2];rfl
   go_enter func189,ntmps189
   go_wp2_with fail
   refine(nan_S s w).mono ?_;rintro e w' ⟨rfl,hw⟩;subst w'
   go_wp2_with fail
   refine(nan_S t w).mono ?_;rintro e w' ⟨rfl,hw⟩;subst w'
   go_wp2_with fail
   go_ret;exact⟨rfl,rfl⟩
  |false =>
   rw[if_neg Bool.false_ne_true]
   have h3:(!(Op.bytesLess s.toList t.toList || s.toList==t.toList))=true:=by rw[h1,h2];rfl
   go_enter func189,ntmps189
   go_wp2_with fail
   refine(nan_S s w).mono ?_;rintro e w' ⟨rfl,hw⟩;subst w'
   go_wp2_with fail
   refine(nan_S t w).mono ?_;rintro e w' ⟨rfl,hw⟩;subst w'
   go_wp2_with fail
   go_ret;exact⟨rfl,rfl⟩
theorem alloc2_grow (w:World) (o p:Obj):(w.alloc o).alloc p=grow (w.drewN 0) #[o,p]:=by
 have e:(w.heap.push o).push p=w.heap++#[o,p]:=by
  apply Array.ext'
  simp
 unfold World.alloc grow World.drewN
 simp only
 rw[e];rfl
theorem cmp_T (T:Nat->ByteArray) (x y:Nat) (w:World):Calls prog 159 #[.agg (encT T x).toArray,.agg (encT T y).toArray] w fun e w'=>e=.returned (.int .i64 (cfT T x y))/\∃ q os',w'=grow (w.drewN q) os':=by
 have HC:=hideO (fun W=>compare_S (T x) (T y) W);unfold cfT;generalize (if Op.bytesLess (T x).toList (T y).toList=true then (-1:Int) else if ((T x).toList==(T y).toList)=true then 0 else 1)=r at HC ⊢;unfold encT;go_enter func159,ntmps159
 go_wp2_with fail
 refine(HC.o _).mono ?_;rintro e w' ⟨rfl,hw⟩;subst w'
 go_wp2_with fail
 go_ret;exact⟨rfl,0,_,alloc2_grow _ _ _⟩
theorem rot_none {s m e:Nat} (f:Nat->Nat) (h1:s<=m) (h2:m<=e) (h:s=m∨m=e):rotF s m e f=f:=by
 funext k
 unfold rotF
 rcases h with rfl|rfl
 ·repeat' split
  all_goals first|omega|(congr 1;omega)|rfl
 ·repeat' split
  all_goals first|omega|(congr 1;omega)|rfl
structure Cut (cl:Nat->Nat->Bool) (a m b mid s e:Nat) (f:Nat->Nat):Prop where
 lo0:a<=s
 smid:s<=mid
 mide:mid<=e
 eb:e<=b
 sm:s<=m
 me:m<=e
 sum:s+e=mid+m
 low:a<s->e<b->lx cl (f (s-1)) (f e)
 high:s<m->m<e->lx cl (f (e-1)) (f s)
section
variable {cl : Nat → Nat → Bool} {a m b mid s e : Nat} {f : Nat → Nat}
theorem Cut.perm (c:Cut cl a m b mid s e f):PermF a b f (rotF s m e f):=(rot_perm f c.sm c.me).mono c.lo0 (Nat.le_trans c.sm c.me) c.eb
theorem Cut.g1 (c:Cut cl a m b mid s e f) (k:Nat) (h:k<s):rotF s m e f k=f k:=rot_out f k (Or.inl h) c.sm c.me
theorem Cut.g2 (c:Cut cl a m b mid s e f) (k:Nat) (h1:s<=k) (h2:k<mid):rotF s m e f k=f (k-s+m):=rot_first f k h1 (by have:=c.sum;have:=c.me;omega)
theorem Cut.g3 (c:Cut cl a m b mid s e f) (k:Nat) (h1:mid<=k) (h2:k<e):rotF s m e f k=f (k-(e-m)):=rot_second f k (by have:=c.smid;omega) (by have:=c.sum;have:=c.me;omega) h2
theorem Cut.g4 (c:Cut cl a m b mid s e f) (k:Nat) (h:e<=k):rotF s m e f k=f k:=rot_out f k (Or.inr h) c.sm c.me
theorem Cut.ris1 (c:Cut cl a m b mid s e f) (h:Ris cl a m f):Ris cl a s (rotF s m e f):=fun i j h1 h2 h3=>by
 rw[c.g1 i (by omega),c.g1 j h3];exact h i j h1 h2 (by have:=c.sm;omega)
theorem Cut.ris2 (c:Cut cl a m b mid s e f) (h:Ris cl m b f):Ris cl s mid (rotF s m e f):=fun i j h1 h2 h3=>by
 rw[c.g2 i h1 (by omega),c.g2 j (by omega) h3];exact h _ _ (by omega) (by omega) (by have:=c.sum;have:=c.eb;omega)
theorem Cut.ris3 (c:Cut cl a m b mid s e f) (h:Ris cl a m f):Ris cl mid e (rotF s m e f):=fun i j h1 h2 h3=>by
 have:=c.sum
 have:=c.me
 rw[c.g3 i h1 (by omega),c.g3 j (by omega) h3];exact h _ _ (by have:=c.lo0;omega) (by omega) (by omega)
theorem Cut.ris4 (c:Cut cl a m b mid s e f) (h:Ris cl m b f):Ris cl e b (rotF s m e f):=fun i j h1 h2 h3=>by
 rw[c.g4 i h1,c.g4 j (by omega)];exact h i j (by have:=c.me;omega) h2 h3
theorem Cut.sep1 (c:Cut cl a m b mid s e f) (h:Sep a m b f):Sep a s mid (rotF s m e f):=fun i j h1 h2 h3 h4=>by
 rw[c.g1 i h2,c.g2 j h3 h4];exact h _ _ h1 (by have:=c.sm;omega) (by omega) (by have:=c.sum;have:=c.eb;omega)
theorem Cut.sep2 (c:Cut cl a m b mid s e f) (h:Sep a m b f):Sep mid e b (rotF s m e f):=fun i j h1 h2 h3 h4=>by
 have:=c.sum
 have:=c.me
 rw[c.g3 i h1 h2,c.g4 j h3];exact h _ _ (by have:=c.lo0;omega) (by omega) (by omega) h4
theorem Cut.cross (c:Cut cl a m b mid s e f) (hw:Weak cl) (h1:Ris cl a m f) (h2:Ris cl m b f) (i j:Nat) (hi:a<=i) (hi2:i<mid) (hj:mid<=j) (hj2:j<b):lx cl (rotF s m e f i) (rotF s m e f j):=by
 have hs:=c.sum;have hme:=c.me;have hsm:=c.sm;have hse:=c.smid;have hme2:=c.mide;by_cases a1:i<s
 ·rw[c.g1 i a1]
  by_cases a2:j<e
  ·rw[c.g3 j hj a2]
   exact h1 _ _ hi (by omega) (by omega)
  ·rw[c.g4 j (by omega)]
   have:=c.low (by omega) (by omega)
   have q1:lx cl (f i) (f e):=h1.le (j:=s-1) hi (by omega) (by omega) hw this;exact h2.ge (i:=e) hme (by omega) hj2 hw q1
 ·rw[c.g2 i (by omega) hi2]
  by_cases a2:j<e
  ·rw[c.g3 j hj a2]
   have:=c.high (by omega) (by omega)
   have q1:lx cl (f (i-s+m)) (f s):=h2.le (j:=e-1) (by omega) (by omega) (by have:=c.eb;omega) hw this;exact h1.ge (i:=s) c.lo0 (by omega) (by omega) hw q1
  ·rw[c.g4 j (by omega)]
   exact h2 _ _ (by omega) (by omega) hj2
end
theorem halves {cl:Nat->Nat->Bool} {a mid b:Nat} {g g1 g2:Nat->Nat} (hx:∀ i j,a<=i->i<mid->mid<=j->j<b->lx cl (g i) (g j)) (ha:a<=mid) (hb:mid<=b)
  (p1:PermF a mid g g1) (p2:PermF mid b g1 g2) (r1:Ris cl a mid g1) (r2:Ris cl mid b g2):PermF a b g g2/\Ris cl a b g2:=by
 refine⟨(p1.mono nl ha hb).trans (p2.mono ha hb nl),?_⟩;have e1:∀ i,a<=i->i<mid->g2 i=g1 i:=fun i _ h=>p2.2 i (Or.inl h);refine Ris.join (r1.congr e1) r2 (fun i j h1 h2 h3 h4=>?_);rw[e1 i h1 h2]
 have q:∀ j,mid<=j->j<b->lx cl (g1 i) (g2 j):=by
  refine p2.all (p:=fun v=>lx cl (g1 i) v) (fun j h3 h4=>?_);rw[p1.2 j (Or.inr h3)];exact p1.all (p:=fun v=>lx cl v (g j)) (fun k h5 h6=>hx k j h5 h6 h3 h4) i h1 h2
 exact q j h3 h4
def Ch (cl:Nat->Nat->Bool) (a b:Nat) (f:Nat->Nat):Prop:=Ris cl a b f/\∀ i,a<=i->i<b->a<=f i/\f i<b
section
variable {cl : Nat → Nat → Bool} {a m b : Nat} {f g : Nat → Nat}
theorem Ch.congr (h:Ch cl a b f) (e:∀ i,a<=i->i<b->g i=f i):Ch cl a b g :=
 ⟨h.1.congr e,fun i h1 h2=>by rw[e i h1 h2];exact h.2 i h1 h2⟩
theorem Ch.sep (h1:Ch cl a m f) (h2:Ch cl m b f):Sep a m b f:=fun i j p1 p2 p3 p4=>by
 have:=(h1.2 i p1 p2).2
 have:=(h2.2 j p3 p4).1
 omega
theorem Ch.merge (h1:Ch cl a m f) (h2:Ch cl m b f) (am:a<=m) (mb:m<=b) (p:PermF a b f g) (r:Ris cl a b g):Ch cl a b g :=
 ⟨r,p.all (p:=fun v=>a<=v/\v<b) fun i p1 p2=>by
  rcases Nat.lt_or_ge i m with e|e
  ·have:=h1.2 i p1 e;omega
  ·have:=h2.2 i e p2;omega⟩
theorem Ch.start (hid:∀ i,a<=i->i<b->f i=i) (p:PermF a b f g) (r:Ris cl a b g):Ch cl a b g :=
 ⟨r,p.all (p:=fun v=>a<=v/\v<b) fun i p1 p2=>by rw[hid i p1 p2];omega⟩
end
def Chs (cl:Nat->Nat->Bool) (bs n lo hi:Nat) (f:Nat->Nat):Prop:=∀ c,lo<=bs*c->bs*c<hi->Ch cl (bs*c) (min (bs*c+bs) n) f
section
variable {cl : Nat → Nat → Bool} {bs n k : Nat} {f g : Nat → Nat}
theorem Chs.none:Chs cl bs n 0 0 f:=fun _ _ h=>absurd h (Nat.not_lt_zero _)
theorem mul_step {c:Nat} (h:bs*k<bs*c):bs*k+bs<=bs*c:=by
 have:k<c:=Nat.lt_of_mul_lt_mul_left h
 have:=Nat.mul_le_mul_left bs (show k+1<=c from this)
 rw[Nat.mul_succ]at this;exact this
theorem Chs.more (h:Chs cl bs n 0 (bs*k) f) (hb:bs*k+bs<=n) (e:∀ i,i<bs*k->g i=f i) (hc:Ch cl (bs*k) (bs*k+bs) g):Chs cl bs n 0 (bs*k+bs) g:=by
 intro c h1 h2
 rcases Nat.lt_trichotomy (bs*c) (bs*k) with q|q|q
 ·have:=mul_step q
  exact(h c h1 q).congr fun i p1 p2=>e i (by omega)
 ·rw[q,Nat.min_eq_left hb]
  exact hc
 ·have:=mul_step q
  omega
theorem Chs.last (h:Chs cl bs n 0 (bs*k) f) (hb:n<bs*k+bs) (e:∀ i,i<bs*k->g i=f i) (hc:Ch cl (bs*k) n g):Chs cl bs n 0 n g:=by
 intro c h1 h2
 rcases Nat.lt_trichotomy (bs*c) (bs*k) with q|q|q
 ·have:=mul_step q
  exact(h c h1 q).congr fun i p1 p2=>e i (by omega)
 ·rw[q,Nat.min_eq_right (by omega)]
  exact hc
 ·have:=mul_step q
  omega
theorem Chs.rest {lo lo':Nat} (h:Chs cl bs n lo n f) (hl:lo<=lo') (e:∀ i,lo'<=i->i<n->g i=f i):Chs cl bs n lo' n g:=by
 intro c h1 h2;exact(h c (by omega) h2).congr fun i p1 p2=>e i (by omega) (by omega)
theorem Chs.at0 {lo:Nat} (h:Chs cl bs n lo n f) (he:lo=bs*k) (hn:lo<n):Ch cl lo (min (lo+bs) n) f:=by
 subst he;exact h k nl hn
theorem Chs.at1 {lo:Nat} (h:Chs cl bs n lo n f) (he:lo=bs*k) (hn:lo+bs<n):Ch cl (lo+bs) (min (lo+bs+bs) n) f:=by
 subst he
 have:=h (k+1) (by rw[Nat.mul_succ];omega) (by rw[Nat.mul_succ];exact hn)
 rw[Nat.mul_succ]at this;exact this
theorem Chs.whole (h:Chs cl bs n 0 n f) (hn:n<=bs):Ris cl 0 n f:=by
 rcases Nat.eq_zero_or_pos n with e|e
 ·subst e
  exact fun i j _ _ h3=>absurd h3 (Nat.not_lt_zero _)
 ·have:=(h 0 (Nat.zero_le _) (by rw[Nat.mul_zero];exact e)).1
  rw[Nat.mul_zero,Nat.zero_add,Nat.min_eq_right hn]at this;exact this
end
end So
namespace So
open Go.RowKit Go.Sort Go.Proofs
open Sh (bt bt_get)
theorem cells_I {w:World} {blk:Nat} {d:Array Nat} (h:HoldsK encI 1 w blk 0 d) {i:Nat} (hi:i<d.size) :
  w.cell? ⟨blk,i,none⟩=some (.int .i64 (d[i]!:Nat))/\w.frozen? ⟨blk,i,none⟩=false:=by
 have x0:=h.cell (i:=i) (c:=0) hi (by omega);rw[Nat.zero_add,Nat.add_zero,Nat.mul_one]at x0;exact⟨x0.1,x0.2⟩
def clI (t:ByteArray) (x y:Nat):Bool:=decide (bt t x<bt t y)
theorem clI_weak (t:ByteArray):Weak (clI t) where
 irrefl x:=by simp[clI]
 trans x y z h1 h2:=by
  simp only[clI,decide_eq_true_eq]at *;omega
 ntrans x y z h1 h2:=by
  simp only[clI,decide_eq_false_iff_not]at *;omega
def cfI (t:ByteArray) (x y:Nat):Int:=if bt t x<bt t y then -1 else if bt t y<bt t x then 1 else 0
theorem cfI_neg (t:ByteArray) (x y:Nat):decide (cfI t x y<0)=clI t x y:=by
 unfold cfI clI;by_cases h:bt t x<bt t y
 ·simp[h]
 ·by_cases h2:bt t y<bt t x<;>simp[h,h2]
def Cap (w:World) (c:Nat) (t:ByteArray):Prop:=w.cell? ⟨c,0,none⟩=some (.string t)
theorem Cap.block {w w':World} {c:Nat} {t:ByteArray} (h:Cap w c t) (e:w'.heap[c]? = w.heap[c]?):Cap w' c t:=by
 unfold Cap at h ⊢;simp only[World.cell?]at h ⊢;rw[e];exact h
theorem Cap.lt {w:World} {c:Nat} {t:ByteArray} (h:Cap w c t):c<w.heap.size:=by
 refine Nat.lt_of_not_le fun hle=>?_;unfold Cap at h;simp only[World.cell?]at h;rw[Array.getElem?_eq_none hle]at h;simp at h
theorem PermF.bd {a b N:Nat} {f g:Nat->Nat} (h:PermF a b f g) (hf:∀ i,f i<N) (i:Nat):g i<N:=by
 by_cases h1:a<=i/\i<b
 ·exact h.all (p:=fun v=>v<N) (fun j _ _=>hf j) i h1.1 h1.2
 ·rw[h.2 i (by omega)]
  exact hf i
theorem nan_B (y:UInt8) (w:World):Calls prog 214 #[.int .u8 (y.toNat:Nat)] w fun e w'=>e=.returned (.bool false)/\w'=w:=by
 have h:(((y.toNat:Nat):Int) != ((y.toNat:Nat):Int))=false:=by simp
 go_enter func214,ntmps214
 go_wp2_with fail
 go_ret;exact⟨rfl,rfl⟩
theorem compare_B (s t:UInt8) (w:World):Calls prog 211 #[.int .u8 (s.toNat:Nat),.int .u8 (t.toNat:Nat)] w fun e w'=>e=.returned (.int .i64 (if s.toNat<t.toNat then -1 else if t.toNat<s.toNat then 1 else 0))/\w'=w:=by
 have HS:=hideO (nan_B s);have HT:=hideO (nan_B t);obtain⟨p,hp⟩:∃ p,p=s.toNat:=⟨_,rfl⟩;obtain⟨q,hq⟩:∃ q,q=t.toNat:=⟨_,rfl⟩;rw[<-hp]at HS;rw[<-hq]at HT;rw[<-hp,<-hq];clear hp hq;by_cases h1:p<q
 ·rw[if_pos h1]
  have h1':(p:Int)<(q:Int):=by omega
  have h2':¬(q:Int)<(p:Int):=by omega
  go_enter func211,ntmps211
  go_wp2_with fail
  refine(HS.o w).mono ?_;rintro e w' ⟨rfl,hw⟩;subst w'
  go_wp2_with fail
  refine(HT.o w).mono ?_;rintro e w' ⟨rfl,hw⟩;subst w'
  go_wp2_with fail
  go_ret;exact⟨rfl,rfl⟩
 ·rw[if_neg h1]
  have h1':¬(p:Int)<(q:Int):=by omega
  by_cases h2:q<p
  ·rw[if_pos h2]
   have h2':(q:Int)<(p:Int):=by omega
   go_enter func211,ntmps211
   go_wp2_with fail
   refine(HS.o w).mono ?_;rintro e w' ⟨rfl,hw⟩;subst w'
   go_wp2_with fail
   refine(HT.o w).mono ?_;rintro e w' ⟨rfl,hw⟩;subst w'
   go_wp2_with fail
   go_ret;exact⟨rfl,rfl⟩
  ·rw[if_neg h2]
   have h2':¬(q:Int)<(p:Int):=by omega
   go_enter func211,ntmps211
   go_wp2_with fail
   refine(HS.o w).mono ?_;rintro e w' ⟨rfl,hw⟩;subst w'
   go_wp2_with fail
   refine(HT.o w).mono ?_;rintro e w' ⟨rfl,hw⟩;subst w'
   go_wp2_with fail
   go_ret;exact⟨rfl,rfl⟩
theorem cmp_I (t:ByteArray) (c x y:Nat) (w:World) (hc:Cap w c t) (hx:x<t.size) (hy:y<t.size):Calls prog 210 #[.int .i64 x,.int .i64 y,.pointer (some ⟨c,0,none⟩)] w fun e w'=>e=.returned (.int .i64 (cfI t x y))/\∃ q os',w'=grow (w.drewN q) os':=by
 have mixed:=mixed
 have hx':(x:Int)<(t.size:Int):=by omega
 have hy':(y:Int)<(t.size:Int):=by omega
 obtain⟨p,hp,hpt⟩:∃ p:UInt8,t[x]=p/\p.toNat=bt t x:=⟨_,rfl,bt_get _ _ hx⟩;obtain⟨q,hq,hqt⟩:∃ q:UInt8,t[y]=q/\q.toNat=bt t y:=⟨_,rfl,bt_get _ _ hy⟩;have HC:=hideO (fun (W:World)=>(compare_B p q W).mono (fun e w' (h:_/\w'=W)=>(⟨h.1,0,h.2⟩:_/\∃ m,w'=W.drewN m)));unfold cfI;rw[hpt,hqt]at HC;generalize (if bt t x<bt t y then (-1:Int) else if bt t y<bt t x then 1 else 0)=r at HC ⊢;have hcw:∀ n,(w.drewN n).cell? ⟨c,0,none⟩=some (.string t):=fun n=>hc;have hcc:w.cell? ⟨c,0,none⟩=some (.string t):=hc;rw[<-hpt,<-hqt]at HC;clear hc hpt hqt;go_enter func210,ntmps210
 go_wp2_with fail
 go_quiet (first|(go_at_call 211;refine Calls.quiet_of (HC.o _)))
 all_goals (try go_wp2_with fail)
 go_ret;exact⟨rfl,nq,#[],(grow_empty _).symm⟩
end So
namespace So
open Go.RowKit Go.Sort Go.Proofs
theorem swapRange_I (blk cap a b n:Nat) (d:Array Nat) (w:World) (cv:Value) (hH:HoldsK encI 1 w blk 0 d) (hblk:blk<w.heap.size) (hab:a+n<=b) (hb:b+n<=d.size) (hsz:d.size<=1048576) :
  Calls prog 218 #[.slice (some ⟨blk,0,none⟩) d.size cap,.int .i64 a,.int .i64 b,.int .i64 n,cv] w fun e w' =>
   e=.returned (.tuple #[])/\∃ m d',w'=sortWorldK encI 1 w blk 0 m d' #[]/\d'.size=d.size/\dF d'=swpR a b n (dF d):=by
 have HST:=hideO (world_self hH);have HH:=hideO hH;clear hH;obtain⟨z,hz⟩:∃ z,z=d.size:=⟨_,rfl⟩;have HZ:=hideO hz;rw[<-hz]at hb hsz ⊢;clear hz;go_enter func218,ntmps218
 go_wp2_with fail
 go_loopw [10] (fun i wr=>∃ (k m:Nat) (dk:Array Nat),i=.int .i64 k/\k<=n/\dk.size=z/\dF dk=swpR a b k (dF d)/\wr=sortWorldK encI 1 w blk 0 m dk #[]) (fun i _=>n-(intOf i).toNat)
 case atStart=>exact⟨0,0,d,rfl,Nat.zero_le _,HZ.o.symm,(swpR_zero a b (dF d)).symm,HST.o⟩
 case round =>
  obtain⟨k,m,dk,rfl,hk,hsk,hfk,hwr⟩:=hrel;have HF:=hideO hfk;have HSK:=hideO hsk;have HHk:=hideO (world_holds HH.o hblk (m+1) dk #[] (by rw[hsk,HZ.o]));have HW:=hideO hwr
  have hdr:wr.drew=sortWorldK encI 1 w blk 0 (m+1) dk #[]:=by rw[hwr];rfl
  have HDR:=hideO hdr;clear hfk hwr;by_cases hlt:k<n
  ·obtain⟨p,hp⟩:∃ p,p=a+k:=⟨_,rfl⟩
   obtain⟨q,hq⟩:∃ q,q=b+k:=⟨_,rfl⟩
   have ep:(a:Int)+(k:Int)=(p:Int):=by omega
   have eq:(b:Int)+(k:Int)=(q:Int):=by omega
   have hpz:p<z:=by omega
   have hqz:q<z:=by omega
   have hpq:p<q:=by omega
   have HPQ:Hid (p=a+k/\q=b+k):=⟨hp,hq⟩;obtain⟨x,hx⟩:∃ x,x=dk[p]!:=⟨_,rfl⟩;obtain⟨y,hy⟩:∃ y,y=dk[q]!:=⟨_,rfl⟩;have hd:wr.drew=sortWorldK encI 1 w blk 0 (m+1) dk #[]:=hdr
   have hHd:HoldsK encI 1 wr blk 0 dk:=by
    have:HoldsK encI 1 wr.drew blk 0 dk:=by rw[hd];exact HHk.o
    exact this
   have hsw:((wr.drew.setCells blk (0+p*1) (encI y)).setCells blk (0+q*1) (encI x))=sortWorldK encI 1 w blk 0 (m+1) (Go.Sort.swp dk p q) #[]:=by
    rw[HW.o,hx,hy];exact sortWorldK_swp_c encI 1 w blk 0 encI_len m dk #[] hblk p q (by omega) (by omega)
   rw[Nat.zero_add,Nat.zero_add,Nat.mul_one,Nat.mul_one]at hsw;obtain⟨x0c,x0f⟩:=cells_I hHd (i:=p) (by omega);obtain⟨y0c,y0f⟩:=cells_I hHd (i:=q) (by omega);rw[<-hx]at x0c;rw[<-hy]at y0c
   have hpw:IntKind.i64.wrap (p:Int)=(p:Int):=by rw[IntKind.wrap_i64];omega
   have hqw:IntKind.i64.wrap (q:Int)=(q:Int):=by rw[IntKind.wrap_i64];omega
   have hpz':(p:Int)<(z:Int):=by omega
   have hqz':(q:Int)<(z:Int):=by omega
   have HSW:=hideO hsw;have HXY:Hid (x=dk[p]!/\y=dk[q]!):=⟨hx,hy⟩
   have HNX:Hid (So.swp (swpR a b k (dF d)) p q=swpR a b (k+1) (dF d)):=by
    unfold Hid;rw[hp,hq];exact swpR_next a b k (dF d) (by omega)
   clear hd hdr hx hy hp hq hsk hHd hsw
   go_wp2_with fail
   go_region
   all_goals (try go_wp2_with fail)
   all_goals go_roundw
   case rel =>
    refine⟨k+1,m+1,Go.Sort.swp dk p q,by go_num,by omega,by rw[Go.Sort.size_swp];exact HSK.o,?_,HSW.o⟩;rw[dF_swp dk p q (by have:=HSK.o;omega) (by have:=HSK.o;omega),HF.o];exact HNX.o
   case measure=>simp[intOf];omega
  ·obtain rfl:k=n:=by omega
   clear hdr hsk
   go_wp2_with fail
   refine bodyPost_end (v:=.tuple #[]) (by simp[results,results218,go_sem]) rfl ⟨rfl,m,dk,HW.o,HSK.o,HF.o⟩
end So
namespace So
open Go.RowKit Go.Sort Go.Proofs
theorem rotate_I (blk cap a m b:Nat) (d:Array Nat) (w:World) (cv:Value) (hH:HoldsK encI 1 w blk 0 d) (hblk:blk<w.heap.size) (ham:a<m) (hmb:m<b) (hb:b<=d.size) (hsz:d.size<=1048576) :
  Calls prog 217 #[.slice (some ⟨blk,0,none⟩) d.size cap,.int .i64 a,.int .i64 m,.int .i64 b,cv] w fun e w' =>
   e=.returned (.tuple #[])/\∃ n d',w'=sortWorldK encI 1 w blk 0 n d' #[]/\d'.size=d.size/\dF d'=rotF a m b (dF d):=by
 have HST:=hideO (world_self hH);have HH:=hideO hH;clear hH;obtain⟨z,hz⟩:∃ z,z=d.size:=⟨_,rfl⟩;have HZ:=hideO hz;rw[<-hz]at hb hsz ⊢;clear hz
 have HC:=hideO (fun (n:Nat) (dk:Array Nat) (hs:dk.size=z) (p q l:Nat) (h1:p+l<=q) (h2:q+l<=z) =>
  swapRange_I blk cap p q l dk (sortWorldK encI 1 w blk 0 n dk #[]) cv (world_holds HH.o hblk n dk #[] (hs.trans HZ.o)) (Nat.lt_of_lt_of_le hblk (world_size n dk #[])) h1 (by rw[hs];exact h2) (by rw[hs];exact hsz))
 have HWW:=hideO (fun (n n':Nat) (dk d':Array Nat) (hs:d'.size=dk.size)=>world_world (enc:=encI) (k:=1) (w:=w) (blk:=blk) (off:=0) n n' dk d' #[] #[] hblk hs);obtain⟨i0,hi0⟩:∃ i0,i0=m-a:=⟨_,rfl⟩;obtain⟨j0,hj0⟩:∃ j0,j0=b-m:=⟨_,rfl⟩
 have h1:((m:Int)-(a:Int))=(i0:Int):=by omega
 have h2:((b:Int)-(m:Int))=(j0:Int):=by omega
 have HIJ:Hid (i0=m-a/\j0=b-m):=⟨hi0,hj0⟩;clear hi0 hj0;go_enter func217,ntmps217
 go_wp2_with fail
 clear h1 h2
 go_loopw [10,11] (fun u v wr=>∃ (i j n:Nat) (dk:Array Nat),u=.int .i64 i/\v=.int .i64 j/\0<i/\0<j/\i<=m-a/\j<=b-m/\dk.size=z/\rotF (m-i) m (m+j) (dF dk)=rotF a m b (dF d)/\wr=sortWorldK encI 1 w blk 0 n dk #[]) (fun u v _=>(intOf u).toNat+(intOf v).toNat)
 case atStart =>
  have hij:=HIJ.o;exact⟨i0,j0,0,d,rfl,rfl,by omega,by omega,by omega,by omega,HZ.o.symm,by rw[hij.1,hij.2,show m-(m-a)=a by omega,show m+(b-m)=b by omega],HST.o⟩
 case round =>
  obtain⟨i,j,n,dk,rfl,rfl,hi,hj,hia,hjb,hsk,hrot,hwr⟩:=hrel;have HR:=hideO hrot;have HSK:=hideO hsk;have HW:=hideO hwr;have HCk:=hideO (fun p q l h1 h2=>HC.o n dk hsk p q l h1 h2);rw[<-hwr,hsk]at HCk;obtain⟨p,hp⟩:∃ p,p=m-i:=⟨_,rfl⟩
  have e1:(m:Int)-(i:Int)=(p:Int):=by omega
  rw[<-hp]at HR;have HP:=hideO hp;clear hrot hsk hwr hp;by_cases hij:i=j
  ·subst hij
   have hne:((i:Int) != (i:Int))=false:=by simp
   have HCC:=hideO (HCk.o p m i (by have:=HP.o;omega) (by omega))
   go_wp2_with fail
   refine HCC.o.mono ?_;rintro e w' ⟨rfl,n',d',hw',hs',hf'⟩
   have HX:Hid (w'=sortWorldK encI 1 w blk 0 (n+n') d' #[]):=by
    unfold Hid;rw[hw',HW.o,HWW.o n n' dk d' (hs'.trans HSK.o.symm)];rfl
   have HF:Hid (dF d'=rotF a m b (dF d)):=by
    unfold Hid;rw[hf',HP.o,rot_even m i (dF dk) (by omega),<-HR.o,HP.o]
   have HS':=hideO hs';clear hw' hs' hf'
   go_wp2_with fail
   refine bodyPost_end (v:=.tuple #[]) (by simp[results,results217,go_sem]) rfl ⟨rfl,n+n',d',HX.o,HS'.o,HF.o⟩
  ·have hne:((i:Int) != (j:Int))=true:=by simp;omega
   have HNE:=hideO hij;clear hij;by_cases hlt:j<i
   ·have hlt':(j:Int)<(i:Int):=by omega
    obtain⟨r,hr⟩:∃ r,r=i-j:=⟨_,rfl⟩;have e2:(i:Int)-(j:Int)=(r:Int):=(by omega);have HRR:=hideO hr;clear hr;have HCC:=hideO (HCk.o p m j (by have:=HP.o;omega) (by omega));(go_wp2_with fail);refine HCC.o.mono ?_;rintro e w' ⟨rfl,n',d',hw',hs',hf'⟩
    have HX:Hid (w'=sortWorldK encI 1 w blk 0 (n+n') d' #[]):=by
     unfold Hid;rw[hw',HW.o,HWW.o n n' dk d' (hs'.trans HSK.o.symm)];rfl
    have HF:Hid (rotF (m-r) m (m+j) (dF d')=rotF a m b (dF d)):=by
     unfold Hid;rw[hf',HRR.o,HP.o,rot_long m i j (dF dk) hlt (by omega),<-HR.o,HP.o]
    have HS':=hideO hs';clear hw' hs' hf';(go_wp2_with fail)
    go_roundw
    case rel=>exact⟨r,j,n+n',d',rfl,rfl,by have:=HRR.o;omega,hj,by have:=HRR.o;omega,hjb,HS'.o,HF.o,HX.o⟩
    case measure=>have:=HRR.o;simp[intOf];omega
   ·have hlt':¬(j:Int)<(i:Int):=by omega
    obtain⟨r,hr⟩:∃ r,r=j-i:=⟨_,rfl⟩;have e2:(j:Int)-(i:Int)=(r:Int):=(by omega);have HRR:=hideO hr;obtain⟨q,hq⟩:∃ q,q=m+j-i:=⟨_,rfl⟩;have e3:(m:Int)+(j:Int)-(i:Int)=(q:Int):=(by omega);have HQ:=hideO hq;clear hr hq;have HCC:=hideO (HCk.o p q i (by have:=HP.o;have:=HQ.o;omega) (by have:=HQ.o;omega));(go_wp2_with fail);refine HCC.o.mono ?_;rintro e w' ⟨rfl,n',d',hw',hs',hf'⟩
    have HX:Hid (w'=sortWorldK encI 1 w blk 0 (n+n') d' #[]):=by
     unfold Hid;rw[hw',HW.o,HWW.o n n' dk d' (hs'.trans HSK.o.symm)];rfl
    have HF:Hid (rotF (m-i) m (m+r) (dF d')=rotF a m b (dF d)):=by
     unfold Hid;rw[hf',HRR.o,HP.o,HQ.o,rot_short m i j (dF dk) (by have:=HNE.o;omega) (by omega),<-HR.o,HP.o]
    have HS':=hideO hs';clear hw' hs' hf';(go_wp2_with fail)
    go_roundw
    case rel=>exact⟨i,r,n+n',d',rfl,rfl,hi,by have:=HRR.o;have:=HNE.o;omega,hia,by have:=HRR.o;omega,HS'.o,HF.o,HX.o⟩
    case measure=>have:=HRR.o;simp[intOf];omega
end So
namespace So
open Go.RowKit Go.Sort Go.Proofs
theorem swapRange_T (T:Nat->ByteArray) (blk cap a b n:Nat) (d:Array Nat) (w:World) (cv:Value) (hH:HoldsK (encT T) 2 w blk 0 d) (hblk:blk<w.heap.size) (hab:a+n<=b) (hb:b+n<=d.size) (hsz:d.size<=1048576) :
  Calls prog 212 #[.slice (some ⟨blk,0,none⟩) d.size cap,.int .i64 a,.int .i64 b,.int .i64 n,cv] w fun e w' =>
   e=.returned (.tuple #[])/\∃ m d',w'=sortWorldK (encT T) 2 w blk 0 m d' #[]/\d'.size=d.size/\dF d'=swpR a b n (dF d):=by
 have HST:=hideO (world_self hH);have HH:=hideO hH;clear hH;obtain⟨z,hz⟩:∃ z,z=d.size:=⟨_,rfl⟩;have HZ:=hideO hz;rw[<-hz]at hb hsz ⊢;clear hz;go_enter func212,ntmps212
 go_wp2_with fail
 go_loopw [10] (fun i wr=>∃ (k m:Nat) (dk:Array Nat),i=.int .i64 k/\k<=n/\dk.size=z/\dF dk=swpR a b k (dF d)/\wr=sortWorldK (encT T) 2 w blk 0 m dk #[]) (fun i _=>n-(intOf i).toNat)
 case atStart=>exact⟨0,0,d,rfl,Nat.zero_le _,HZ.o.symm,(swpR_zero a b (dF d)).symm,HST.o⟩
 case round =>
  obtain⟨k,m,dk,rfl,hk,hsk,hfk,hwr⟩:=hrel;have HF:=hideO hfk;have HSK:=hideO hsk;have HHk:=hideO (world_holds HH.o hblk (m+1) dk #[] (by rw[hsk,HZ.o]));have HW:=hideO hwr
  have hdr:wr.drew=sortWorldK (encT T) 2 w blk 0 (m+1) dk #[]:=by rw[hwr];rfl
  have HDR:=hideO hdr;clear hfk hwr;by_cases hlt:k<n
  ·obtain⟨p,hp⟩:∃ p,p=a+k:=⟨_,rfl⟩
   obtain⟨q,hq⟩:∃ q,q=b+k:=⟨_,rfl⟩
   have ep:(a:Int)+(k:Int)=(p:Int):=by omega
   have eq:(b:Int)+(k:Int)=(q:Int):=by omega
   have hpz:p<z:=by omega
   have hqz:q<z:=by omega
   have hpq:p<q:=by omega
   have HPQ:Hid (p=a+k/\q=b+k):=⟨hp,hq⟩;obtain⟨x,hx⟩:∃ x,x=dk[p]!:=⟨_,rfl⟩;obtain⟨y,hy⟩:∃ y,y=dk[q]!:=⟨_,rfl⟩;have hd:wr.drew=sortWorldK (encT T) 2 w blk 0 (m+1) dk #[]:=hdr
   have hHd:HoldsK (encT T) 2 wr blk 0 dk:=by
    have:HoldsK (encT T) 2 wr.drew blk 0 dk:=by rw[hd];exact HHk.o
    exact this
   have hsw:((wr.drew.setCells blk (0+p*2) (encT T y)).setCells blk (0+q*2) (encT T x))=sortWorldK (encT T) 2 w blk 0 (m+1) (Go.Sort.swp dk p q) #[]:=by
    rw[HW.o,hx,hy];exact sortWorldK_swp_c (encT T) 2 w blk 0 (encT_len T) m dk #[] hblk p q (by omega) (by omega)
   rw[Nat.zero_add,Nat.zero_add]at hsw;obtain⟨x0c,x0f,x1c,x1f⟩:=cells_T hHd (i:=p) (by omega);obtain⟨y0c,y0f,y1c,y1f⟩:=cells_T hHd (i:=q) (by omega);rw[<-hx]at x0c x1c;rw[<-hy]at y0c y1c
   have hpw:IntKind.i64.wrap (p:Int)=(p:Int):=by rw[IntKind.wrap_i64];omega
   have hqw:IntKind.i64.wrap (q:Int)=(q:Int):=by rw[IntKind.wrap_i64];omega
   have hpz':(p:Int)<(z:Int):=by omega
   have hqz':(q:Int)<(z:Int):=by omega
   have HSW:=hideO hsw;have HXY:Hid (x=dk[p]!/\y=dk[q]!):=⟨hx,hy⟩
   have HNX:Hid (So.swp (swpR a b k (dF d)) p q=swpR a b (k+1) (dF d)):=by
    unfold Hid;rw[hp,hq];exact swpR_next a b k (dF d) (by omega)
   clear hd hdr hx hy hp hq hsk hHd hsw
   go_wp2_with fail
   go_region
   all_goals (try go_wp2_with fail)
   all_goals go_roundw
   case rel =>
    refine⟨k+1,m+1,Go.Sort.swp dk p q,by go_num,by omega,by rw[Go.Sort.size_swp];exact HSK.o,?_,HSW.o⟩;rw[dF_swp dk p q (by have:=HSK.o;omega) (by have:=HSK.o;omega),HF.o];exact HNX.o
   case measure=>simp[intOf];omega
  ·obtain rfl:k=n:=by omega
   clear hdr hsk
   go_wp2_with fail
   refine bodyPost_end (v:=.tuple #[]) (by simp[results,results212,go_sem]) rfl ⟨rfl,m,dk,HW.o,HSK.o,HF.o⟩
end So
namespace So
open Go.RowKit Go.Sort Go.Proofs
theorem rotate_T (T:Nat->ByteArray) (blk cap a m b:Nat) (d:Array Nat) (w:World) (cv:Value) (hH:HoldsK (encT T) 2 w blk 0 d) (hblk:blk<w.heap.size) (ham:a<m) (hmb:m<b) (hb:b<=d.size) (hsz:d.size<=1048576) :
  Calls prog 208 #[.slice (some ⟨blk,0,none⟩) d.size cap,.int .i64 a,.int .i64 m,.int .i64 b,cv] w fun e w' =>
   e=.returned (.tuple #[])/\∃ n d',w'=sortWorldK (encT T) 2 w blk 0 n d' #[]/\d'.size=d.size/\dF d'=rotF a m b (dF d):=by
 have HST:=hideO (world_self hH);have HH:=hideO hH;clear hH;obtain⟨z,hz⟩:∃ z,z=d.size:=⟨_,rfl⟩;have HZ:=hideO hz;rw[<-hz]at hb hsz ⊢;clear hz
 have HC:=hideO (fun (n:Nat) (dk:Array Nat) (hs:dk.size=z) (p q l:Nat) (h1:p+l<=q) (h2:q+l<=z) =>
  swapRange_T T blk cap p q l dk (sortWorldK (encT T) 2 w blk 0 n dk #[]) cv (world_holds HH.o hblk n dk #[] (hs.trans HZ.o)) (Nat.lt_of_lt_of_le hblk (world_size n dk #[])) h1 (by rw[hs];exact h2) (by rw[hs];exact hsz))
 have HWW:=hideO (fun (n n':Nat) (dk d':Array Nat) (hs:d'.size=dk.size)=>world_world (enc:=encT T) (k:=2) (w:=w) (blk:=blk) (off:=0) n n' dk d' #[] #[] hblk hs);obtain⟨i0,hi0⟩:∃ i0,i0=m-a:=⟨_,rfl⟩;obtain⟨j0,hj0⟩:∃ j0,j0=b-m:=⟨_,rfl⟩
 have h1:((m:Int)-(a:Int))=(i0:Int):=by omega
 have h2:((b:Int)-(m:Int))=(j0:Int):=by omega
 have HIJ:Hid (i0=m-a/\j0=b-m):=⟨hi0,hj0⟩;clear hi0 hj0;go_enter func208,ntmps208
 go_wp2_with fail
 clear h1 h2
 go_loopw [10,11] (fun u v wr=>∃ (i j n:Nat) (dk:Array Nat),u=.int .i64 i/\v=.int .i64 j/\0<i/\0<j/\i<=m-a/\j<=b-m/\dk.size=z/\rotF (m-i) m (m+j) (dF dk)=rotF a m b (dF d)/\wr=sortWorldK (encT T) 2 w blk 0 n dk #[]) (fun u v _=>(intOf u).toNat+(intOf v).toNat)
 case atStart =>
  have hij:=HIJ.o;exact⟨i0,j0,0,d,rfl,rfl,by omega,by omega,by omega,by omega,HZ.o.symm,by rw[hij.1,hij.2,show m-(m-a)=a by omega,show m+(b-m)=b by omega],HST.o⟩
 case round =>
  obtain⟨i,j,n,dk,rfl,rfl,hi,hj,hia,hjb,hsk,hrot,hwr⟩:=hrel;have HR:=hideO hrot;have HSK:=hideO hsk;have HW:=hideO hwr;have HCk:=hideO (fun p q l h1 h2=>HC.o n dk hsk p q l h1 h2);rw[<-hwr,hsk]at HCk;obtain⟨p,hp⟩:∃ p,p=m-i:=⟨_,rfl⟩
  have e1:(m:Int)-(i:Int)=(p:Int):=by omega
  rw[<-hp]at HR;have HP:=hideO hp;clear hrot hsk hwr hp;by_cases hij:i=j
  ·subst hij
   have hne:((i:Int) != (i:Int))=false:=by simp
   have HCC:=hideO (HCk.o p m i (by have:=HP.o;omega) (by omega))
   go_wp2_with fail
   refine HCC.o.mono ?_;rintro e w' ⟨rfl,n',d',hw',hs',hf'⟩
   have HX:Hid (w'=sortWorldK (encT T) 2 w blk 0 (n+n') d' #[]):=by
    unfold Hid;rw[hw',HW.o,HWW.o n n' dk d' (hs'.trans HSK.o.symm)];rfl
   have HF:Hid (dF d'=rotF a m b (dF d)):=by
    unfold Hid;rw[hf',HP.o,rot_even m i (dF dk) (by omega),<-HR.o,HP.o]
   have HS':=hideO hs';clear hw' hs' hf'
   go_wp2_with fail
   refine bodyPost_end (v:=.tuple #[]) (by simp[results,results208,go_sem]) rfl ⟨rfl,n+n',d',HX.o,HS'.o,HF.o⟩
  ·have hne:((i:Int) != (j:Int))=true:=by simp;omega
   have HNE:=hideO hij;clear hij;by_cases hlt:j<i
   ·have hlt':(j:Int)<(i:Int):=by omega
    obtain⟨r,hr⟩:∃ r,r=i-j:=⟨_,rfl⟩;have e2:(i:Int)-(j:Int)=(r:Int):=(by omega);have HRR:=hideO hr;clear hr;have HCC:=hideO (HCk.o p m j (by have:=HP.o;omega) (by omega));(go_wp2_with fail);refine HCC.o.mono ?_;rintro e w' ⟨rfl,n',d',hw',hs',hf'⟩
    have HX:Hid (w'=sortWorldK (encT T) 2 w blk 0 (n+n') d' #[]):=by
     unfold Hid;rw[hw',HW.o,HWW.o n n' dk d' (hs'.trans HSK.o.symm)];rfl
    have HF:Hid (rotF (m-r) m (m+j) (dF d')=rotF a m b (dF d)):=by
     unfold Hid;rw[hf',HRR.o,HP.o,rot_long m i j (dF dk) hlt (by omega),<-HR.o,HP.o]
    have HS':=hideO hs';clear hw' hs' hf';(go_wp2_with fail)
    go_roundw
    case rel=>exact⟨r,j,n+n',d',rfl,rfl,by have:=HRR.o;omega,hj,by have:=HRR.o;omega,hjb,HS'.o,HF.o,HX.o⟩
    case measure=>have:=HRR.o;simp[intOf];omega
   ·have hlt':¬(j:Int)<(i:Int):=by omega
    obtain⟨r,hr⟩:∃ r,r=j-i:=⟨_,rfl⟩;have e2:(j:Int)-(i:Int)=(r:Int):=(by omega);have HRR:=hideO hr;obtain⟨q,hq⟩:∃ q,q=m+j-i:=⟨_,rfl⟩;have e3:(m:Int)+(j:Int)-(i:Int)=(q:Int):=(by omega);have HQ:=hideO hq;clear hr hq;have HCC:=hideO (HCk.o p q i (by have:=HP.o;have:=HQ.o;omega) (by have:=HQ.o;omega));(go_wp2_with fail);refine HCC.o.mono ?_;rintro e w' ⟨rfl,n',d',hw',hs',hf'⟩
    have HX:Hid (w'=sortWorldK (encT T) 2 w blk 0 (n+n') d' #[]):=by
     unfold Hid;rw[hw',HW.o,HWW.o n n' dk d' (hs'.trans HSK.o.symm)];rfl
    have HF:Hid (rotF (m-i) m (m+r) (dF d')=rotF a m b (dF d)):=by
     unfold Hid;rw[hf',HRR.o,HP.o,HQ.o,rot_short m i j (dF dk) (by have:=HNE.o;omega) (by omega),<-HR.o,HP.o]
    have HS':=hideO hs';clear hw' hs' hf';(go_wp2_with fail)
    go_roundw
    case rel=>exact⟨i,r,n+n',d',rfl,rfl,hi,by have:=HRR.o;have:=HNE.o;omega,hia,by have:=HRR.o;omega,HS'.o,HF.o,HX.o⟩
    case measure=>have:=HRR.o;simp[intOf];omega
end So
end Go.Proofs.YtbdcffjcogglbaaGreatDoor
