import Derived.Test.YthhacleplhaihaaGreatDoorPv1
import Derived.Test.YthhacleplhaihaaGreatDoorPv16
import Derived.Test.YthhacleplhaihaaGreatDoorPv17
import Derived.Test.YthhacleplhaihaaGreatDoorPv18
import Derived.Lib.QuietBelow
import Derived.Deep.RegionHeld3
import Derived.Deep.CutRange
import Derived.Shelf.SortG.Plain
import Derived.Shelf.SortG.SortNone
import Derived.Sort.OwnSortedInts
set_option maxRecDepth 100000
set_option maxHeartbeats 8000000
set_option linter.unusedSimpArgs false
set_option linter.defProp false
namespace Go.Proofs.YthhacleplhaihaaGreatDoor
open Go.RowKit
open Go.Proofs.Tryz
variable{B g i j k n:Nat}{C:zW->Prop}{K Q:Act->zW->Prop}{P:Program}{Q':Exit->Act->zW->Prop}{T dst e t:TypeId}{W W' w w' w0 w1:zW}{a:Act}{b u v x x0 y z:Value}{c m:Int}{d:List Nat}{f:Nat->Nat}{l:List Int}{md:Region.Mode}{p:Prop}{r:zY}
def ztZ(t:zY)(w:zW)(Y:t.size<=1048576): Calls prog 248 #[.string t] w fun e w'=>e=.returned (.slice (zx w.heap.size) (chunks t.size*64) (chunks t.size*64)) /\ IsB w' w.heap.size 5 .u8 (chunks t.size*64) (fun j=>(pad t j:Nat))/\zU w w':=by have⟨O,L,s,u,v⟩:=Fp Tryz.infoJ5;obtain⟨ch,l⟩:∃c,c=chunks t.size:=⟨_,rfl⟩;have M:=JJ t.size;have r:=zbA t.size;have W:((t.size:Int)+1+8+64-1)/64=(ch:Int):=by{rw[l];unfold chunks;omega};have I:((ch:Int)*64).toNat=ch*64:=by{omega};rw[<-l]at M r ⊢;have n:=JV l;clear l;go_enter func248,ntmps248;(go_wp2_with (at_make;refine Lu _ rfl (.tmp 15) (.tmp 15) 22 rfl w.heap.size 5 O (.int .u8 0) 1 underlying22 L s u .i64 .i64 _ _ (ch*64) rfl rfl (by simp) (by simp) (by rw[v];omega) (by unfold maxLen;omega) (Ea _) ?_;intro w1 g d;have h:=zdw g;have f:=(Eb w.heap.size w).grown d (Ea _) (by simp);have⟨Q,R,b,y,z,B,C,D⟩:=QO (P:=prog) w1 22 9 3 5 (zx w.heap.size) w.heap.size 0 (ch*64) (ch*64) t (Zl .u8 (ch*64) (fun _=>0)).toList 5 underlying22 Tryz.sizeJ5 (by unfold IsB at h;simpa using h) (fun _=>rfl) (by omega) (by simp[QI];omega);rw[zoo _ _ _ (by omega)]at b;have a:IsB Q w.heap.size 5 .u8 (ch*64) (fun j=>if j<t.size then (bt t j:Nat) else 0):=b;have E:=JV a;have F:=JV (zcd f y z B C D);have H:=a.cell (j:=t.size) (by omega);have K:=a.frozen t.size;clear g d h f y z B C D b a));(go_loopw [28] (fun i wr=>∃k:Nat,i=zI k/\k<=8/\IsB wr w.heap.size 5 .u8 (ch*64) (fun j=>(zpN t k j:Nat))/\zU w wr) (fun i _=>8-(intOf i).toNat));(case atStart=>refine⟨0,rfl,by omega,IsB.congr (E.o.set t.size 128) (fun j p=>zqJ t j (by rw[<-n.o];exact p)),F.o.setCell (Ea _) _⟩);(case round=>obtain⟨k,rfl,X,o,m⟩:=hrel;have x:=JV o;by_cases q:k<8;{have V:((ch:Int)*64-1-(k:Int)).toNat=ch*64-1-k:=by{omega};have S:=o.cell (j:=ch*64-1-k) (by omega);have U:=o.frozen (ch*64-1-k);have G:Hid (((t.size:Int)*8/2 ^ (8*k))%256=((t.size*8/2 ^ (8*k)%256:Nat):Int)):=zh0 (by{simp});clear o;go_wp2_with fail;go_roundw;(case rel=>refine⟨k+1,by go_num,by omega,IsB.congr (x.o.set (ch*64-1-k) _) (fun j p=>?_),m.setCell (Ea _) _⟩;rw[n.o]at p ⊢;exact zvq t k q _ G.o j p);(case measure=>simp[intOf];omega)};{obtain rfl:k=8:=by{omega};clear o;go_wp2_with fail;go_ret;exact⟨rfl,x.o,m⟩})
def qW(h:p):Hid p:=h
def zF(z b:Int)(r:zY):Bool:=decide (0<=z/\z<=1000/\1<=b/\b<=48/\r.size=32/\z<=b*64)
def lV(z b:Int)(r:zY):Value:=.agg #[.int .i64 z,.int .i64 b,.string r]
def zi(z b:Int)(r:zY):Nat:=if zF z b r=true then qE z.toNat b.toNat else 0
def Zx{z b:Int}(h:zF z b r=true):0<=z/\z<=1000/\1<=b/\b<=48/\r.size=32/\z<=b*64:=Fy h
def zaA{p:Nat}(h:zF p k r=true):zi p k r=qE p k/\qE p k<=64:=by have a:=Zx h;unfold zi;rw[Em h];refine⟨rfl,(zbn (by omega)).2 (by omega)⟩
def zc8{z b:Int}(h:zF z b r=false):zi z b r=0:=by unfold zi;rw[h];rfl
def Zg(z b:Int)(r:zY):zi z b r<=64:=by cases h:zF z b r with|false=>{rw[zc8 h];omega}|true=>{have a:=Zx h;obtain⟨p,rfl⟩:=Er a.1;obtain⟨k,rfl⟩:=Er (show 0<=b by omega);have:=zaA h;omega}
def zb0(z b:Int)(r:zY)(w:zW): Calls prog 53 #[lV z b r] w (zB w (.bool (zF z b r))):=by unfold lV;by_cases f:z<0;{have a:Hid (zF z b r=false):=by{unfold Hid zF;simp;omega};rw[a.o];go_enter func53,ntmps53;go_wp2_with fail;go_ret;exact⟨rfl,(Eb _ _).alloc (Ea _) _⟩};{by_cases g:1000<z;{have a:Hid (zF z b r=false):=by{unfold Hid zF;simp;omega};rw[a.o];go_enter func53,ntmps53;go_wp2_with fail;go_ret;exact⟨rfl,(Eb _ _).alloc (Ea _) _⟩};{by_cases h:b<1;{have a:Hid (zF z b r=false):=by{unfold Hid zF;simp;omega};rw[a.o];go_enter func53,ntmps53;go_wp2_with fail;go_ret;exact⟨rfl,(Eb _ _).alloc (Ea _) _⟩};{by_cases i:48<b;{have a:Hid (zF z b r=false):=by{unfold Hid zF;simp;omega};rw[a.o];go_enter func53,ntmps53;go_wp2_with fail;go_ret;exact⟨rfl,(Eb _ _).alloc (Ea _) _⟩};{by_cases c:r.size=32;{have a:Hid (zF z b r=decide (z<=b*64)):=by{unfold Hid zF;rw[Up];omega};rw[a.o];have d:((r.size:Int)==32)=true:=by{rw[c];rfl};have e:=qW c;clear c;have j:IntKind.i64.wrap (b*64)=b*64:=by{rw[E7];omega};go_enter func53,ntmps53;go_wp2_with fail;go_ret;exact⟨rfl,(Eb _ _).alloc (Ea _) _⟩};{have a:Hid (zF z b r=false):=by{unfold Hid zF;simp;omega};rw[a.o];have d:((r.size:Int)==32)=false:=Ez.2 (by omega);go_enter func53,ntmps53;go_wp2_with fail;go_ret;exact⟨rfl,(Eb _ _).alloc (Ea _) _⟩}}}}}
def QD(z b:Int)(r:zY)(w:zW): Calls prog 55 #[lV z b r] w (zB w (.bool (zF z b r))):=by unfold lV;have d:∀o,zU w (w.alloc o):=fun o=>(Eb _ _).alloc (Ea _) _;by_cases j:0<=z/\z<=1000;{have i:=qW (fun W=>zbE z 0 1000 W j.1 j.2);obtain⟨p,rfl⟩:=Er j.1;by_cases m:1<=b/\b<=48;{have l:=qW (fun W=>zbE b 1 48 W m.1 m.2);obtain⟨k,rfl⟩:=Er (show 0<=b by omega);by_cases t:r.size=32;{have u:((r.size:Int)==32)=true:=by{rw[t];rfl};have q:=qW (fun W=>zau p k W (by omega) (by omega) (by omega));have s:=qW (zbn (p:=p) (k:=k) (by omega));have g:=qW (And.intro j m);have n:=qW t;clear j m t;by_cases v:qE p k<=64;{have a:Hid (zF p k r=true):=by{unfold Hid zF;have:=s.o.1 v;have:=g.o;have:=n.o;simp;omega};have h:((qE p k:Nat):Int)<=64:=by{omega};rw[a.o];generalize qE p k=c at q h;clear v s a g n;go_enter func55,ntmps55;go_wp2_with fail;refine(i.o _).mono ?_;rintro e w1 ⟨rfl,f⟩;subst w1;go_wp2_with fail;refine(l.o _).mono ?_;rintro e w1 ⟨rfl,f⟩;subst w1;go_wp2_with fail;refine(q.o _).mono ?_;rintro e w1 ⟨rfl,f⟩;subst w1;go_wp2_with fail;go_ret;exact⟨rfl,d _⟩};{have a:Hid (zF p k r=false):=by{unfold Hid zF;have:=s.o.2;have:=g.o;have:=n.o;simp;omega};have h:decide (((qE p k:Nat):Int)<=64)=false:=by{simp;omega};rw[a.o];generalize qE p k=c at q h;clear v s a g n;go_enter func55,ntmps55;go_wp2_with fail;refine(i.o _).mono ?_;rintro e w1 ⟨rfl,f⟩;subst w1;go_wp2_with fail;refine(l.o _).mono ?_;rintro e w1 ⟨rfl,f⟩;subst w1;go_wp2_with fail;refine(q.o _).mono ?_;rintro e w1 ⟨rfl,f⟩;subst w1;go_wp2_with fail;go_ret;exact⟨rfl,d _⟩}};{have a:Hid (zF p k r=false):=by{unfold Hid zF;simp;omega};rw[a.o];have u:((r.size:Int)==32)=false:=Ez.2 (by omega);clear a;go_enter func55,ntmps55;go_wp2_with fail;refine(i.o _).mono ?_;rintro e w1 ⟨rfl,f⟩;subst w1;go_wp2_with fail;refine(l.o _).mono ?_;rintro e w1 ⟨rfl,f⟩;subst w1;go_wp2_with fail;go_ret;exact⟨rfl,d _⟩}};{have l:=qW (fun W=>zgy b 1 48 W (by omega));have a:Hid (zF p b r=false):=by{unfold Hid zF;simp;omega};rw[a.o];clear a m;go_enter func55,ntmps55;go_wp2_with fail;refine(i.o _).mono ?_;rintro e w1 ⟨rfl,f⟩;subst w1;go_wp2_with fail;refine(l.o _).mono ?_;rintro e w1 ⟨rfl,f⟩;subst w1;go_wp2_with fail;go_ret;exact⟨rfl,d _⟩}};{have i:=qW (fun W=>zgy z 0 1000 W (by omega));have a:Hid (zF z b r=false):=by{unfold Hid zF;simp;omega};rw[a.o];clear a j;go_enter func55,ntmps55;go_wp2_with fail;refine(i.o _).mono ?_;rintro e w1 ⟨rfl,f⟩;subst w1;go_wp2_with fail;go_ret;exact⟨rfl,d _⟩}
def zb3(z b:Int)(r:zY)(w:zW): Calls prog 71 #[lV z b r] w (zB w (zI (zi z b r:Nat))):=by have h:=qW (fun W=>zb0 z b r W);cases g:zF z b r with|false=>{have f:=qW (zc8 g);rw[g]at h;rw[f.o];clear f g;unfold lV at h ⊢;go_enter func71,ntmps71;go_wp2_with fail;refine(h.o _).mono ?_;rintro e w1 ⟨rfl,a⟩;have d:=qW (((Eb w.heap.size w).alloc (Ea _) _).trans (a.mono (by simp)));clear a;go_wp2_with fail;go_ret;exact⟨rfl,d.o⟩}|true=>{have m:=Zx g;obtain⟨p,rfl⟩:=Er m.1;obtain⟨k,rfl⟩:=Er (show 0<=b by omega);have⟨f,j⟩:=zaA g;have f:=qW f;rw[f.o];have o:((p:Int)+k-1).tdiv k=((qE p k:Nat):Int):=by{unfold qE;rw[M1 (by omega),Uo];congr 1;omega};have n:((k:Int)==0)=false:=by{simp;omega};rw[g]at h;clear f g;generalize qE p k=c at o j ⊢;obtain⟨v,t⟩:∃v,v=lV p k r:=⟨_,rfl⟩;unfold lV at h ⊢;go_enter func71,ntmps71;go_wp2_with fail;have l:Hid ((w.alloc (zL p k r)).heap[w.heap.size]?=some (zL p k r)):=Ep w _;refine(h.o _).mono ?_;rintro e w1 ⟨rfl,a⟩;have d:=qW (((Eb w.heap.size w).alloc (Ea _) _).trans (a.mono (by simp)));have i:=qW ((a.block _ (by simp)).trans l.o);clear a l;have q:zc w1 w.heap.size 0 (zI p):=Ed w1 _ 0 _ _ _ i.o;have s:zc w1 w.heap.size 1 (zI k):=Ed w1 _ 1 _ _ _ i.o;go_wp2_with fail;go_ret;exact⟨rfl,d.o⟩}
def zb5(z b:Int)(r:zY)(w:zW): Calls prog 60 #[lV z b r] w (zB w (zI (zi z b r:Nat))):=by have h:=qW (fun W=>QD z b r W);cases g:zF z b r with|false=>{have f:=qW (zc8 g);rw[g]at h;rw[f.o];clear f g;unfold lV at h ⊢;go_enter func60,ntmps60;go_wp2_with fail;refine(h.o _).mono ?_;rintro e w1 ⟨rfl,a⟩;have d:=qW (((Eb w.heap.size w).alloc (Ea _) _).trans (a.mono (by simp)));clear a;go_wp2_with fail;go_ret;exact⟨rfl,d.o⟩}|true=>{have n:=Zx g;obtain⟨p,rfl⟩:=Er n.1;obtain⟨k,rfl⟩:=Er (show 0<=b by omega);have⟨f,j⟩:=zaA g;have f:=qW f;rw[f.o];have l:=qW (fun W=>zau p k W (by omega) (by omega) (by omega));rw[g]at h;clear f g;generalize qE p k=c at j l ⊢;unfold lV at h ⊢;go_enter func60,ntmps60;go_wp2_with fail;have m:Hid ((w.alloc (zL p k r)).heap[w.heap.size]?=some (zL p k r)):=Ep w _;refine(h.o _).mono ?_;rintro e w1 ⟨rfl,a⟩;have d:=qW (((Eb w.heap.size w).alloc (Ea _) _).trans (a.mono (by simp)));have i:=qW ((a.block _ (by simp)).trans m.o);clear a m;have q:zc w1 w.heap.size 0 (zI p):=Ed w1 _ 0 _ _ _ i.o;have s:zc w1 w.heap.size 1 (zI k):=Ed w1 _ 1 _ _ _ i.o;go_wp2_with fail;refine(l.o _).mono ?_;rintro e o ⟨rfl,t⟩;subst o;go_wp2_with fail;go_ret;exact⟨rfl,d.o⟩}
def zi4{x:Obj}(h:w.heap[g]?=some x)(a:zU w w'):w'.heap[g]?=some x:=(a.block g (Fd.1 h).1).trans h
def Zc(h:zU w0 w)(a:zU w w'):zU w0 w':=h.trans (a.mono h.size)
def zk(h:W.heap[g]?=some (.cells #[x,y,z] t (0,0))):W.cell? (zA g 0)=some x/\W.cell? (zA g 1)=some y/\W.cell? (zA g 2)=some z :=
 ⟨Ed W g 0 _ _ _ h,Ed W g 1 _ _ _ h,Ed W g 2 _ _ _ h⟩
def oV(z b:Int)(r:zY)(c:Int):Value:=.agg #[.int .i64 z,.int .i64 b,.string r,.int .i64 c]
def jA(h:W.heap[g]?=some (.cells #[x,y,z,u] t (0,0))):W.cell? (zA g 0)=some x/\W.cell? (zA g 1)=some y/\W.cell? (zA g 2)=some z/\W.cell? (zA g 3)=some u :=
 ⟨Ed W g 0 _ _ _ h,Ed W g 1 _ _ _ h,Ed W g 2 _ _ _ h,Ed W g 3 _ _ _ h⟩
def zn4(h:W.heap[g]?=some (.cells #[x,y,z,u] T (0,0)))(v:Value):(zw W g 0 v).heap[g]?=some (.cells #[v,y,z,u] T (0,0))/\(zw W g 1 v).heap[g]?=some (.cells #[x,v,z,u] T (0,0))/\(zw W g 2 v).heap[g]?=some (.cells #[x,y,v,u] T (0,0))/\(zw W g 3 v).heap[g]?=some (.cells #[x,y,z,v] T (0,0)):=by refine⟨?_,?_,?_,?_⟩;{rw[En W g 0 _ T v h];rfl};{rw[En W g 1 _ T v h];rfl};{rw[En W g 2 _ T v h];rfl};{rw[En W g 3 _ T v h];rfl}
def zg1(h:W.heap[g]?=some (.cells #[x,y,z,u] T (0,0)))(a b c d:Value):
  (zw (zw (zw (zw W g 0 a) g 1 b) g 2 c) g 3 d).cell? (zA g 0)=some a/\(zw (zw (zw (zw W g 0 a) g 1 b) g 2 c) g 3 d).cell? (zA g 1)=some b/\(zw (zw (zw (zw W g 0 a) g 1 b) g 2 c) g 3 d).cell? (zA g 2)=some c/\(zw (zw (zw (zw W g 0 a) g 1 b) g 2 c) g 3 d).cell? (zA g 3)=some d :=
 jA (zn4 (zn4 (zn4 (zn4 h a).1 b).2.1 c).2.2.1 d).2.2.2
def zod(h:Below B w W)(a b c d:Value):Below B w (zw (zw (zw (zw W B 0 a) B 1 b) B 2 c) B 3 d):=(((h.setCell (p:=zA B 0) (Ea _) a).setCell (p:=zA B 1) (Ea _) b).setCell (p:=zA B 2) (Ea _) c).setCell (p:=zA B 3) (Ea _) d
def zBF(a:w0.heap.size=B)(h:Below B w0 w)(b:zU w w'):Below B w0 w':=h.trans (b.mono (by rw[<-a];exact h.size))
def qy{x:Obj}(h:W.heap[g]?=some x)(o:Obj):(W.alloc o).heap[g]?=some x:=zi4 h ((Eb _ _).alloc (Ea _) o)
def zb(h:p):Hid p:=h
structure Cx (w0 W:zW) (l:List (Nat × Obj)):Prop where
 low:zU w0 W
 blk:∀x∈l,W.heap[x.1]?=some x.2
def Cx.nil(w:zW):Cx w w []:=⟨Eb _ _,fun _ h=>absurd h Ev⟩
def Cx.call{l:List (Nat × Obj)}(h:Cx w0 W l)(a:zU W W'):Cx w0 W' l:=⟨Zc h.low a,fun x b=>zi4 (h.blk x b) a⟩
def Cx.new{l:List (Nat × Obj)}(h:Cx w0 W l)(o:Obj):Cx w0 (W.alloc o) ((W.heap.size,o) :: l) :=
 ⟨h.low.alloc h.low.size o,fun x a=>by
  rcases Ew.1 a with rfl|a
  ·exact Ep W o
  ·exact qy (h.blk x a) o⟩
theorem Cx.drew{l:List (Nat × Obj)}(h:Cx w0 W l):Cx w0 W.drew l:=⟨h.low.drew,h.blk⟩
def Cx.get{l:List (Nat × Obj)}(h:Cx w0 W l)(i:Nat){o:Obj}(a:l[i]?=some (g,o)):W.heap[g]?=some o:=h.blk (g,o) (Pn a)
def qV(h:zU w0 W)(d:w0.heap.size<=g)(a b c:Value):zU w0 (zw (zw (zw W g 0 a) g 1 b) g 2 c) :=
 ((h.setCell (p:=zA g 0) d a).setCell (p:=zA g 1) d b).setCell (p:=zA g 2) d c
def Zu{h:Nat}{cs b:Array Value}{U:TypeId}(d:W.heap[g]?=some (.cells cs T (0,0)))(a:W.heap[h]?=some (.cells b U (0,0)))(c:T≠U):¬g=h:=by rintro rfl;rw[d]at a;simp at a;exact c a.2
def zh{o:Obj}(h:w.heap[g]?=some o):g<w.heap.size:=(Fd.1 h).1
def Cx.grown{l:List (Nat × Obj)}{row:Option Nat}(h:Cx w W l)(c:W.grownBy W' row)(d:∀k,row=some k->w.heap.size<=k)(a:∀x∈l,row≠some x.1):Cx w W' l :=
 ⟨h.low.grown c h.low.size d,fun x b=>(c.block x.1 (zh (h.blk x b)) (fun e=>a x b e.symm)).trans (h.blk x b)⟩
def Cx.set{l:List (Nat × Obj)}(h:Cx w W l)(c:w.heap.size<=g)(a:∀x∈l,x.1≠g)(i:Nat)(v:Value):Cx w (zw W g i v) l :=
 ⟨h.low.setCell (p:=zA g i) c v,fun x b=>by rw[Ei _ _ x.1 _ (by exact a x b)];exact h.blk x b⟩
def kV(z b:Int)(r s:zY)(y:Int):Value:=.agg #[.int .i64 z,.int .i64 b,.string r,.string s,.int .i64 y]
def kB(z b:Int)(r s:zY)(y:Int):Obj:=.cells #[.int .i64 z,.int .i64 b,.string r,.string s,.int .i64 y] 26
def qk{z b:Int}{s:zY}{y:Int}(h:W.heap[g]?=some (kB z b r s y)):W.cell? (zA g 0)=some (zI z)/\W.cell? (zA g 1)=some (zI b)/\W.cell? (zA g 2)=some (.string r)/\W.cell? (zA g 3)=some (.string s)/\W.cell? (zA g 4)=some (zI y) :=
 ⟨Ed W g 0 _ _ _ h,Ed W g 1 _ _ _ h,Ed W g 2 _ _ _ h,Ed W g 3 _ _ _ h,Ed W g 4 _ _ _ h⟩
def zyW{f i j k:Value}(h:W.heap[g]?=some (.cells #[x0,f,i,j,k] T (0,0)))(a b c d e:Value): (zw (zw (zw (zw (zw W g 0 a) g 1 b) g 2 c) g 3 d) g 4 e).heap[g]?=some (.cells #[a,b,c,d,e] T (0,0)):=by have l:(zw W g 0 a).heap[g]?=some (.cells #[a,f,i,j,k] T (0,0)):=by{rw[En W g 0 _ T a h];rfl};have m:=En _ g 1 _ T b l;have n:=En _ g 2 _ T c m;have o:=En _ g 3 _ T d n;have p:=En _ g 4 _ T e o;exact p
def zbP(h:zU w0 W)(a:w0.heap.size<=g)(b c d e f:Value):
  zU w0 (zw (zw (zw (zw (zw W g 0 b) g 1 c) g 2 d) g 3 e) g 4 f) :=
 ((((h.setCell (p:=zA g 0) a b).setCell (p:=zA g 1) a c).setCell (p:=zA g 2) a d).setCell (p:=zA g 3) a e).setCell (p:=zA g 4) a f
def zu{a c d:Value}(h:W.heap[g]?=some (.cells #[x0,a,b,c,d] T (0,0))):W.cell? (zA g 0)=some x0/\W.cell? (zA g 1)=some a/\W.cell? (zA g 2)=some b/\W.cell? (zA g 3)=some c/\W.cell? (zA g 4)=some d :=
 ⟨Ed W g 0 _ _ _ h,Ed W g 1 _ _ _ h,Ed W g 2 _ _ _ h,Ed W g 3 _ _ _ h,Ed W g 4 _ _ _ h⟩
def zBW(W:zW)(g:Nat)(x0 x1 x2 x3 x4:Value):Prop :=
 (W.cell? (zA g 0)=some x0/\W.cell? (zA g 1)=some x1/\W.cell? (zA g 2)=some x2/\W.cell? (zA g 3)=some x3/\W.cell? (zA g 4)=some x4)/\W.frozen? (zA g 0)=false/\W.frozen? (zA g 1)=false/\W.frozen? (zA g 2)=false/\W.frozen? (zA g 3)=false/\W.frozen? (zA g 4)=false
def zyP{a c d:Value}(h:W.heap[g]?=some (.cells #[x0,a,b,c,d] T (0,0))):zBW W g x0 a b c d :=
 ⟨zu h,Ec W g 0 _ _ h,Ec W g 1 _ _ h,Ec W g 2 _ _ h,Ec W g 3 _ _ h,Ec W g 4 _ _ h⟩
def kZ:Obj:=.cells #[.int .i64 0,.int .i64 0,zt0,zt0,.int .i64 0] 26
def zzf{j k l m:Value}(h:W.heap[g]?=some (.cells #[x0,j,k,l,m] 26 (0,0)))(i:zU w W)(f:w.heap.size<=g)(a b c d e:Value):
  zU w (zw (zw (zw (zw (zw W g 0 a) g 1 b) g 2 c) g 3 d) g 4 e)/\(zw (zw (zw (zw (zw W g 0 a) g 1 b) g 2 c) g 3 d) g 4 e).heap[g]?=some (.cells #[a,b,c,d,e] 26 (0,0)) :=
 ⟨zbP i f _ _ _ _ _,zyW h _ _ _ _ _⟩
def qf(h:p):Hid p:=h
def cat(l:List zY):List UInt8:=l.flatMap fun s=>s.data.toList
def zvA(l:List zY)(k:Nat)(h:k<l.length):cat (l.take (k+1))=cat (l.take k)++l[k].data.toList:=by rw[Me,Eg h];unfold cat;rw[Pw];simp
def zlY(l:List zY)(k:Nat):(cat (l.take k)).length<=(cat l).length:=by have:cat l=cat (l.take k)++cat (l.drop k):=by{unfold cat;rw[<-Pw,M6]};rw[this,Ee];omega
def zfs(l:List zY)(a:Option Addr)(D n:Nat)(w:zW)(h:Strs w w.heap.size a l)(K:l.length=n)(R:n<=1048576)(I:(cat l).length<=1048576): Calls prog 210 #[.slice a n D] w (zB w (.string ⟨(cat l).toArray⟩)):=by have H:=qf K;have O:=qf h;have L:=qf (fun k=>Fb (zlY l k) I);clear h K I;go_enter func210,ntmps210;go_wp2_with fail;(go_loopw [8,5] (fun i _ wr=>∃k:Nat,i=zI k/\k<=n/\Lib.IsBuilder 275 5 w.heap.size w.heap.size (Lib.byteCells (cat (l.take k))) wr/\zU w wr/\w.heap.size<=wr.heap.size) (fun i _ _=>n-(intOf i).toNat));(case atStart=>exact⟨0,rfl,Es _,Lib.fresh_isBuilder _ _ w,(Eb _ _).alloc (Ea _) _,by simp⟩);(case round=>obtain⟨k,rfl,V,r,f,t⟩:=hrel;have p:=qf r;have x:=qf f;clear r f;by_cases F:k<n;{have d:k<l.length:=by{rw[H.o];exact F};obtain⟨b,o,rfl,U,u⟩:∃b o,a=some (zA b o)/\b<w.heap.size/\∀j (h:j<l.length),zc wr b (o+j) (.string l[j]):=by{rcases O.o.below x.o with Q|h;{subst Q;simp at d};{exact h}};have P:=u k d;have g:=qf (zvA l k d);have E:=L.o (k+1);rw[g.o,Ee]at E;generalize l[k]=s at P g E;have G:s.data.toList.length=s.size:=by{simp};have z:Hid ((Lib.byteCells (cat (l.take k))).length+s.size<=140737488355328):=zh0 (by{rw[Lib.byteCells_length];omega});have B:Hid (Lib.byteCells (cat (l.take k))++Lib.strCells s=Lib.byteCells (cat (l.take (k+1)))):=zh0 (by{rw[g.o,Lib.byteCells_append,Lib.strCells_eq]});have C:=qf (zqi w.heap.size w.heap.size _ s wr p.o z.o t);clear u E G d;go_wp2_with fail;refine C.o.mono ?_;rintro e S ⟨rfl,m,c⟩;rw[B.o]at m;have y:=qf m;have v:=qf (x.o.trans c);have W:=c.size;clear m c;go_wp2_with fail;exact⟨⟨k+1,by go_num,by omega,Or.inr y.o,v.o,by omega⟩,by simp[intOf];omega⟩};{obtain rfl:k=n:=by{omega};have M:Hid (cat (l.take k)=cat l):=zh0 (by{rw[E0 (by rw[H.o];exact Ea _)]});have q:=qf (zon w.heap.size w.heap.size _ wr p.o t);rw[M.o]at q;go_wp2_with fail;refine q.o.mono ?_;rintro e S ⟨rfl,c⟩;have v:=qf (x.o.trans c);clear c;go_wp2_with fail;go_ret;exact⟨rfl,v.o⟩})
def zeM(l:List Int):List UInt8:=l.flatMap fun x=>(ZR x).data.toList
def zBM(l:List Int)(k:Nat):List zY:=(l.take k).map ZR++List.replicate (l.length-k) ⟨#[]⟩
def zeu(n:Int):(ZR n).size<=10:=by show (zeL (zz n)).toArray.size<=10;rw[Kf];unfold zeL;rw[QX];have:=zfj 9 (zz n);omega
def ziD(l:List Int):(zeM l).length<=10*l.length:=by induction l with|nil=>{exact Ea _}|cons x l b=>{have a:=b;have c:=zeu x;have d:(ZR x).data.toList.length=(ZR x).size:=by{simp};unfold zeM at a ⊢;rw[Mr,Ee,Fo];omega}
def ZG(t:zY):zY:=if t.size<=8000 then ZR (t.size:Int)++t else ⟨#[]⟩
def jS(n:Int):(ZR n).size<=10:=by have:=(JH (zz n)).1;simpa [ZR,ByteArray.size] using this
def zbh(t:zY)(w:zW)(d:t.size<=maxLen): Calls prog 170 #[.string t] w (zB w (.string (ZG t))):=by unfold maxLen at d;by_cases h:8000<t.size;{have a:=ZA (show ZG t=⟨#[]⟩ by unfold ZG;rw[Ej (by omega)]);go_enter func170,ntmps170;go_wp2;go_ret;exact⟨zdF a.o.symm,Eb _ _⟩};{have a:=ZA (show ZG t=ZR (t.size:Int)++t by unfold ZG;rw[Em (by omega)]);have c:=jS (t.size:Int);go_enter func170,ntmps170;go_wp2_with fail;refine(zeX _ _ (by omega) (by omega)).mono ?_;rintro e w1 ⟨rfl,b⟩;go_wp2;go_ret;exact⟨zdF a.o.symm,b⟩}
def zbI(t:zY)(w:zW)(f:t.size<=maxLen): Calls prog 234 #[.string t] w (zB w (.string (ZG t))):=by unfold maxLen at f;by_cases h:8000<t.size;{have b:=ZA (show ZG t=⟨#[]⟩ by unfold ZG;rw[Ej (by omega)]);go_enter func234,ntmps234;go_wp2;go_ret;exact⟨zdF b.o.symm,Eb _ _⟩};{have b:=ZA (show ZG t=ZR (t.size:Int)++t by unfold ZG;rw[Em (by omega)]);have d:=jS (t.size:Int);go_enter func234,ntmps234;go_wp2_with fail;refine(ziu _ _ (by omega) (by omega)).mono ?_;rintro e w1 ⟨rfl,a⟩;go_wp2_with fail;refine(JE _ _ _ (by omega)).mono ?_;rintro e g ⟨rfl,c⟩;go_wp2;go_ret;exact⟨zdF b.o.symm,a.trans (c.mono a.size)⟩}
def zzZ(z b:Int)(r:zY):zY:=ZR z++ZR b++ZG r
def zAm(z b:Int)(r:zY):zY:=if zF z b r=true then zzZ z b r else ⟨#[]⟩
def zp(h:zU w W)(o:Obj):zU w (W.alloc o):=h.alloc h.size o
def zG(h:zU w W):zU w W.drew:=h.drew
def zz2(s:zY)(a:Nat)(w:zW)(Z:s.size<=8000)(X:a<s.size): Calls prog 151 #[.string s,zI a] w (zB w (zuK (zaZ s a))):=by go_enter func151,ntmps151;go_wp2;(go_loop [5,6,7,8] (fun u i _ _=>∃k v:Nat,k<=9/\i=zI k/\u=.int .u64 v/\v<2 ^ (7*k)/\zaZ s a=qL s (10-k) k (a+k) v) (fun _ i _ _=>10-(intOf i).toNat));(case atStart=>exact⟨0,0,by omega,rfl,rfl,by decide,rfl⟩);(case round=>obtain⟨k,v,C,rfl,rfl,M,L⟩:=hrel;have G:=zE M;have l:=zE L;have W:=zE C;have S:v<=9223372036854775807:=by{have:=zm7 k C;omega};clear M L;obtain⟨f,K⟩:∃f,10-k=f+1:=⟨9-k,by omega⟩;have j:=zE K;clear K;by_cases r:a+k<s.size;{have Y:s[a+k].toNat<256:=s[a+k].toNat_lt;by_cases e:k=9/\1<s[a+k].toNat;{have d:((k:Int)==9)=true:=Fs.2 (by omega);have Q:(1:Int)<s[a+k].toNat:=by{omega};have c:Hid (zaZ s a=(0,0,3)):=l.o.trans (by rw[j.o];exact znC s f k (a+k) v r e.1 e.2);have HH:=zE e;clear e;go_wp2;refine Eh (v:=qe 0 0 3) (by simp[results,qe,results151,go_sem]) rfl ⟨by rw[c.o];rfl,(Eb _ _).alloc (Ea _) _⟩};{obtain⟨x,F⟩:∃x,x=v+s[a+k].toNat%128*2 ^ (7*k):=⟨_,rfl⟩;have⟨o,p⟩:=zd4 v s[a+k].toNat k G.o C e;have U:=zql v s[a+k].toNat k o p;rw[<-F]at U p;have z:=zE F;clear F o;have t:=zE e;clear e;by_cases P:s[a+k].toNat<128;{by_cases h:s[a+k].toNat=0/\0<k;{have c:Hid (zaZ s a=(0,0,3)):=l.o.trans (by rw[j.o];exact zmJ s f k (a+k) v r h.1 h.2);have n:((s[a+k].toNat:Int)==0)=true:=Fs.2 (by omega);have B:decide ((1:Int)<s[a+k].toNat)=false:=Eo (by omega);have g:(0:Int)<k:=by{omega};have H:=zE h;clear h;by_cases m:k=9;{have d:((k:Int)==9)=true:=Fs.2 (by omega);have y:=zE m;clear m;go_wp2;refine Eh (v:=qe 0 0 3) (by simp[results,qe,results151,go_sem]) rfl ⟨by rw[c.o];rfl,(Eb _ _).alloc (Ea _) _⟩};{have d:((k:Int)==9)=false:=Ez.2 (by omega);go_wp2;refine Eh (v:=qe 0 0 3) (by simp[results,qe,results151,go_sem]) rfl ⟨by rw[c.o];rfl,(Eb _ _).alloc (Ea _) _⟩}};{have c:Hid (zaZ s a=(x,a+k+1,0)):=l.o.trans (by rw[j.o,z.o];exact ze6 s f k (a+k) v r t.o P h);have H:=zE h;clear h;by_cases I:s[a+k].toNat=0;{have g:k=0:=by{have:=H.o;omega};have n:((s[a+k].toNat:Int)==0)=true:=Fs.2 (by omega);have E:¬0<k:=by{omega};have R:decide (0<k)=false:=Eo E;have d:((k:Int)==9)=false:=Ez.2 (by omega);have V:=zE I;have O:=zE g;clear I g;by_cases b:x%2=1;{have q:(((x:Int)%2)==1)=true:=by{rw[Fs];omega};have HO:=zE (ziF x b);clear b;go_wp2;refine Eh (v:=qe (-((x:Int)/2)-1) ((a:Int)+k+1) 0) (by simp[results,qe,results151,go_sem]) rfl ⟨by rw[c.o,HO.o];simp[zuK],(Eb _ _).alloc (Ea _) _⟩};{have q:(((x:Int)%2)==1)=false:=by{rw[Ez];omega};have HO:=zE (zdu x b);clear b;go_wp2;refine Eh (v:=qe ((x:Int)/2) ((a:Int)+k+1) 0) (by simp[results,qe,results151,go_sem]) rfl ⟨by rw[c.o,HO.o];simp[zuK],(Eb _ _).alloc (Ea _) _⟩}};{have n:((s[a+k].toNat:Int)==0)=false:=Ez.2 (by omega);by_cases m:k=9;{have d:((k:Int)==9)=true:=Fs.2 (by omega);have B:decide ((1:Int)<s[a+k].toNat)=false:=Eo (by have:=t.o;omega);have y:=zE m;clear m;by_cases b:x%2=1;{have q:(((x:Int)%2)==1)=true:=by{rw[Fs];omega};have HO:=zE (ziF x b);clear b;go_wp2;refine Eh (v:=qe (-((x:Int)/2)-1) ((a:Int)+k+1) 0) (by simp[results,qe,results151,go_sem]) rfl ⟨by rw[c.o,HO.o];simp[zuK],(Eb _ _).alloc (Ea _) _⟩};{have q:(((x:Int)%2)==1)=false:=by{rw[Ez];omega};have HO:=zE (zdu x b);clear b;go_wp2;refine Eh (v:=qe ((x:Int)/2) ((a:Int)+k+1) 0) (by simp[results,qe,results151,go_sem]) rfl ⟨by rw[c.o,HO.o];simp[zuK],(Eb _ _).alloc (Ea _) _⟩}};{have d:((k:Int)==9)=false:=Ez.2 (by omega);by_cases b:x%2=1;{have q:(((x:Int)%2)==1)=true:=by{rw[Fs];omega};have HO:=zE (ziF x b);clear b;go_wp2;refine Eh (v:=qe (-((x:Int)/2)-1) ((a:Int)+k+1) 0) (by simp[results,qe,results151,go_sem]) rfl ⟨by rw[c.o,HO.o];simp[zuK],(Eb _ _).alloc (Ea _) _⟩};{have q:(((x:Int)%2)==1)=false:=by{rw[Ez];omega};have HO:=zE (zdu x b);clear b;go_wp2;refine Eh (v:=qe ((x:Int)/2) ((a:Int)+k+1) 0) (by simp[results,qe,results151,go_sem]) rfl ⟨by rw[c.o,HO.o];simp[zuK],(Eb _ _).alloc (Ea _) _⟩}}}}};{have D:¬k=9:=by{have:=t.o;omega};have d:((k:Int)==9)=false:=Ez.2 (by omega);have c:Hid (zaZ s a=qL s f (k+1) (a+k+1) x):=l.o.trans (by rw[j.o,z.o];exact zaL s f k (a+k) v r D (by omega));go_wp2;(go_round);(case rel=>exact⟨k+1,x,by omega,by go_num,rfl,by rw[z.o];exact zif _ _ _ G.o,by rw[c.o,show 10-(k+1)=f from by have:=j.o;omega];rfl⟩);(case measure=>simp[intOf];omega)}}};{have c:Hid (zaZ s a=(0,0,4)):=l.o.trans (by rw[j.o];exact zgo s f k (a+k) v (by omega));go_wp2;refine Eh (v:=qe 0 0 4) (by simp[results,qe,results151,go_sem]) rfl ⟨by rw[c.o];rfl,(Eb _ _).alloc (Ea _) _⟩})
def zaW(s:zY)(a:Int)(w:zW)(g:s.size<=maxLen): Calls prog 151 #[.string s,zI a] w (zB w (zoX s a)):=by unfold maxLen at g;by_cases d:8000<s.size;{have b:Hid (zoX s a=qe 0 0 2):=by{unfold Hid zoX;rw[Em d]};go_enter func151,ntmps151;go_wp2;refine Eh (v:=qe 0 0 2) (by simp[results,qe,results151,go_sem]) rfl ⟨by rw[b.o],(Eb _ _).alloc (Ea _) _⟩};{by_cases e:a<0;{have b:Hid (zoX s a=qe 0 0 1):=by{unfold Hid zoX;rw[Ej d,Em e]};go_enter func151,ntmps151;go_wp2;refine Eh (v:=qe 0 0 1) (by simp[results,qe,results151,go_sem]) rfl ⟨by rw[b.o],(Eb _ _).alloc (Ea _) _⟩};{obtain⟨n,rfl⟩:=Er (show 0<=a from by omega);have c:zoX s (n:Int)=zuK (zaZ s n):=by{unfold zoX;rw[Ej d,Ej e,Lw]};by_cases f:n<s.size;{rw[c];exact zz2 s n w (by omega) f};{have b:Hid (zoX s (n:Int)=qe 0 0 4):=c.trans (by unfold zaZ;rw[zgo s 9 0 n 0 (by omega)];rfl);clear c;go_enter func151,ntmps151;go_wp2;refine Ve 1 ?_;rw[Rk];go_wp2;refine Eh (v:=qe 0 0 4) (by simp[results,qe,results151,go_sem]) rfl ⟨by rw[b.o],(Eb _ _).alloc (Ea _) _⟩}}}
structure Oth where
 name:zY
 has:List Int
 asked:Int
 age:Int
 strikes:Int
def qJ(l:List Int)(c:Int)(n:Nat):Prop:=∀j (hj:j<l.length),j<n->0<=l[j]/\l[j]<c/\(0<j->l.getD (j-1) 0<l[j])
noncomputable def J3(l:List Int)(c:Int):Bool:=@decide (qJ l c l.length) (Classical.propDecidable _)
def zdG(h:qJ l c l.length):J3 l c=true:=by unfold J3;exact @Eu _ (Classical.propDecidable _) h
def zky(h:¬qJ l c l.length):J3 l c=false:=by unfold J3;exact @Eo _ (Classical.propDecidable _) h
def zm0(h:J3 l c=true):qJ l c l.length:=by unfold J3 at h;exact @Fy _ (Classical.propDecidable _) h
def zgX(l:List Int)(c:Int):qJ l c 0:=fun _ _ h=>absurd h (Ko _)
def zcq(l:List Int)(j:Nat):Int:=if j=0 then -1 else l.getD (j-1) 0
def zms(l:List Int)(j:Nat)(h:j<l.length):zcq l (j+1)=l[j]:=by unfold zcq;rw[Ej (by omega),Oz,El,Eg h];rfl
def zpK(k:j<l.length)(h:qJ l c j)(a:zcq l j<l[j])(d:l[j]<c):qJ l c (j+1):=by intro i f g;by_cases e:i=j;{subst e;unfold zcq at a;by_cases b:i=0;{rw[Em b]at a;exact⟨by omega,d,fun h=>by omega⟩};{rw[Ej b]at a;have:=(h (i-1) (by omega) (by omega)).1;rw[El,Eg (by omega)]at a;simp at a;refine⟨by omega,d,fun _=>?_⟩;rw[El,Eg (by omega)];simpa using a}};{exact h i f (by omega)}
def zrV(b:j<l.length)(h:¬(zcq l j<l[j]/\l[j]<c)):¬qJ l c l.length:=by intro e;have d:=e j b b;apply h;refine⟨?_,d.2.1⟩;unfold zcq;by_cases a:j=0;{rw[Em a];omega};{rw[Ej a];exact d.2.2 (by omega)}
def zlq(k:j<l.length)(h:qJ l c j)(a:0<=l[j])(d:l[j]<c)(b:0<j->l.getD (j-1) 0<l[j]):qJ l c (j+1):=by intro i f g;by_cases e:i=j;{subst e;exact⟨a,d,b⟩};{exact h i f (by omega)}
def zoy(a:j<l.length)(h:¬(0<=l[j]/\l[j]<c/\(0<j->l.getD (j-1) 0<l[j]))):¬qJ l c l.length:=fun b=>h (b j a a)
def zhW(o:Oth)(c:Int):Bool:=decide (0<=o.asked/\o.asked<=c/\0<=o.age/\o.age<=3/\(0<o.asked∨o.age=0))
def zzl(o:Oth):Bool:=decide (0<=o.strikes/\o.strikes<=3)
def zAQ(o:Oth):Bool:=o.strikes==3
def zy6(o:Oth):Bool:=!zAQ o || (decide (o.has.length=0) && decide (o.asked=0))
noncomputable def zkN(o:Oth)(c:Int):Bool:=Qj o.name && J3 o.has c && zhW o c && zzl o && zy6 o
def ltN(a b:zY):Bool:=Op.bytesLess a.toList b.toList
def zaI(l:List Oth)(c:Int)(n:Nat):Prop:=∀j (hj:j<l.length),j<n->zkN l[j] c=true/\(∀i (hi:i<l.length),i+1=j->ltN l[i].name l[j].name=true)
noncomputable def ZH(l:List Oth)(c:Int):Bool:=@decide (l.length<=4/\zaI l c l.length) (Classical.propDecidable _)
def zfH{l:List Oth}(a:l.length<=4)(h:zaI l c l.length):ZH l c=true:=by unfold ZH;exact @Eu _ (Classical.propDecidable _) ⟨a,h⟩
def zeP{l:List Oth}(h:¬zaI l c l.length):ZH l c=false:=by unfold ZH;exact @Eo _ (Classical.propDecidable _) (fun a=>h a.2)
def zgM{l:List Oth}(h:4<l.length):ZH l c=false:=by unfold ZH;exact @Eo _ (Classical.propDecidable _) (fun a=>by omega)
def zcu{l:List Oth}(h:ZH l c=true):l.length<=4/\zaI l c l.length:=by unfold ZH at h;exact @Fy _ (Classical.propDecidable _) h
def zkm(l:List Oth)(c:Int):zaI l c 0:=fun _ _ h=>absurd h (Ko _)
def zkM{l:List Oth}(g:j<l.length)(h:zaI l c j)(b:zkN l[j] c=true)(d:∀i (a:i<l.length),i+1=j->ltN l[i].name l[j].name=true):zaI l c (j+1):=by intro i a f;by_cases e:i=j;{subst e;exact⟨b,d⟩};{exact h i a (by omega)}
abbrev MO:=Oth × Value
def zhU(x:MO):Value:=.agg #[.string x.1.name,x.2,.int .i64 x.1.asked,.int .i64 x.1.age,.int .i64 x.1.strikes]
def zw3(x:MO)(T:TypeId):Obj:=.cells #[.string x.1.name,x.2,.int .i64 x.1.asked,.int .i64 x.1.age,.int .i64 x.1.strikes] T
def Zy(x:MO):List Value:=[.string x.1.name,x.2,.int .i64 x.1.asked,.int .i64 x.1.age,.int .i64 x.1.strikes]
def cellsO:List MO->List Value
 |[]=>[]
 |x :: m=>.string x.1.name :: x.2 :: .int .i64 x.1.asked :: .int .i64 x.1.age :: .int .i64 x.1.strikes :: cellsO m
def ZZ:∀m:List MO,(cellsO m).length=m.length*5
 |[]=>rfl
 |x :: m=>by
  rw[cellsO,Fo,Fo,Fo,Fo,Fo,ZZ m,Fo];omega
def Zq:∀m k:List MO,cellsO (m++k)=cellsO m++cellsO k
 |[],k=>rfl
 |x :: m,k=>by
  rw[Mo,cellsO,cellsO,Zq m k];rfl
def qx:∀(m:List MO) (i:Nat) (h:i<m.length),(cellsO m)[i*5]?=some (.string m[i].1.name)/\(cellsO m)[i*5+1]?=some m[i].2/\(cellsO m)[i*5+2]?=some (zI m[i].1.asked)/\(cellsO m)[i*5+3]?=some (zI m[i].1.age)/\(cellsO m)[i*5+4]?=some (zI m[i].1.strikes)
 |x :: m,0,_=>⟨rfl,rfl,rfl,rfl,rfl⟩
 |x :: m,i+1,h=>by
  have:=qx m i (L0 h)
  rw[cellsO,show (i+1)*5=i*5+5 by omega,show i*5+5+1=(i*5+1)+5 by omega,show i*5+5+2=(i*5+2)+5 by omega,show i*5+5+3=(i*5+3)+5 by omega,show i*5+5+4=(i*5+4)+5 by omega];exact this
def zgx(W:zW)(B:Nat)(x:MO):Prop:=∃a cap,x.2=.slice a x.1.has.length cap/\x.1.has.length<=cap/\(a=none->cap=0)/\Ints W B a x.1.has
theorem zgx.below{x:MO}(h:zgx W B x)(c:Below B W W'):zgx W' B x:=by obtain⟨a,b,g,d,f,e⟩:=h;exact⟨a,b,g,d,f,e.below c⟩
theorem zgx.mono{C:Nat}{x:MO}(h:zgx W B x)(c:B<=C):zgx W C x:=by obtain⟨a,b,g,d,f,e⟩:=h;exact⟨a,b,g,d,f,e.mono c⟩
def zcs(W:zW)(b o:Nat)(x:MO):Prop:=W.cell? (zA b o)=some (.string x.1.name)/\W.cell? (zA b (o+1))=some x.2/\W.cell? (zA b (o+2))=some (.int .i64 x.1.asked)/\W.cell? (zA b (o+3))=some (.int .i64 x.1.age)/\W.cell? (zA b (o+4))=some (.int .i64 x.1.strikes)
def zcs.below{b o:Nat}{x:MO}(h:zcs W b o x)(c:Below B W W')(a:b<B):zcs W' b o x:=by obtain⟨d,e,f,g,i⟩:=h;exact⟨(c.cell (p:=zA b o) a).trans d,(c.cell (p:=zA b (o+1)) a).trans e,(c.cell (p:=zA b (o+2)) a).trans f,(c.cell (p:=zA b (o+3)) a).trans g,(c.cell (p:=zA b (o+4)) a).trans i⟩
def JX(W:zW)(B:Nat)(a:Option Addr)(m:List MO):Prop :=
 (m=[]∨∃b off,a=some (zA b off)/\b<B/\∀j (h:j<m.length),zcs W b (off+j*5) m[j])/\∀x∈m,zgx W B x
theorem JX.below{a:Option Addr}{m:List MO}(h:JX W B a m)(e:Below B W W'):JX W' B a m:=by refine⟨?_,fun x k=>(h.2 x k).below e⟩;rcases h.1 with f|⟨b,d,rfl,c,g⟩;{exact .inl f};{exact .inr ⟨b,d,rfl,c,fun j i=>(g j i).below e c⟩}
theorem JX.mono{C:Nat}{a:Option Addr}{m:List MO}(h:JX W B a m)(e:B<=C):JX W C a m:=by refine⟨?_,fun x i=>(h.2 x i).mono e⟩;rcases h.1 with f|⟨b,d,rfl,c,g⟩;{exact .inl f};{exact .inr ⟨b,d,rfl,Fw c e,g⟩}
def JX.later{a:Option Addr}{m:List MO}(h:JX W W.heap.size a m)(b:zU W W'):JX W' W'.heap.size a m:=(h.below b).mono b.size
theorem JX.some{a:Option Addr}{m:List MO}(h:JX W B a m)(e:0<m.length):∃b c,a=.some (zA b c)/\b<B/\∀j (h:j<m.length),zcs W b (c+j*5) m[j]:=by rcases h.1 with d|h;{subst d;simp at e};{exact h}
def zns(W:zW)(B:Nat)(a:Option Addr):JX W B a []:=⟨.inl rfl,fun _ b=>absurd b Ev⟩
def zd(m:List MO):List Oth:=m.map (·.1)
def zg(m:List MO):(zd m).length=m.length:=Et ..
def qg(m:List MO)(j:Nat)(h:j<m.length):(zd m)[j]'(by rw[zg];exact h)=m[j].1:=by simp[zd]
def jI(W:zW)(base:Nat)(v:Value)(m:List MO):Prop:=W.ownsRow base 57 5 v m.length (cellsO m)
def jI.nil(w:zW)(a:Nat):jI w a zs0 []:=Oi w a _ _
theorem jI.alloc{a:Nat}{m:List MO}(h:jI W a v m)(o:Obj):jI (W.alloc o) a v m:=Lq h o
def jI.below{a:Nat}{m:List MO}(h:jI w a v m)(b:zU w w'):jI w' a v m:=by obtain⟨i,h⟩:=h;refine⟨i,?_⟩;rcases h with h|⟨g,c,d,j,f,e,rest⟩;{exact .inl h};{exact .inr ⟨g,c,d,j,f,by rw[b.block g (zh e)];exact e,rest⟩}
def jI.mono{b a:Nat}{m:List MO}(h:jI w b v m)(e:a<=b):jI w a v m:=by obtain⟨i,h⟩:=h;refine⟨i,?_⟩;rcases h with h|⟨g,c,d,j,f,rest⟩;{exact .inl h};{exact .inr ⟨g,c,d,j,Fb e f,rest⟩}
def jI.one{c:Nat}{m:List MO}(h:jI W c v m):∃a b,v=.slice a m.length b/\m.length<=b/\(a=none->b=0):=by obtain⟨_,h⟩:=h;rcases h with⟨h,e⟩|⟨g,b,d,i,_,_,f,_⟩;{exact⟨none,0,by rw[h,e],by omega,fun _=>rfl⟩};{exact⟨_,b,i,f,fun h=>by cases h⟩}
def jI.cells{b:Nat}{m:List MO}(h:jI W b v m)(o:0<m.length):∃g a,v=.slice (zx g) m.length a/\b<=g/\g<W.heap.size/\m.length<=a/\∀i (e:i<m.length),zcs W g (i*5) m[i]:=by obtain⟨_,h⟩:=h;rcases h with⟨_,h⟩|⟨g,a,f,n,j,d,k,_,p,l⟩;{omega};{refine⟨g,a,n,j,zh d,k,fun i e=>?_⟩;have c:=qx m i e;rw[<-l]at c;rw[Fi (by omega),Fi (by omega),Fi (by omega),Fi (by omega),Fi (by omega),E6,E6,E6,E6,E6]at c;exact⟨(Ed W g _ _ _ _ d).trans c.1,(Ed W g _ _ _ _ d).trans c.2.1,(Ed W g _ _ _ _ d).trans c.2.2.1,(Ed W g _ _ _ _ d).trans c.2.2.2.1,(Ed W g _ _ _ _ d).trans c.2.2.2.2⟩}
def jI.snoc{a:Nat}{m:List MO}{x:MO}(h:W.ownsRow a 57 5 v (m.length+1) (cellsO m++[.string x.1.name,x.2,zI x.1.asked,zI x.1.age,zI x.1.strikes])):jI W a v (m++[x]):=by unfold jI;rw[Ee,Zq];exact h
def zaX(W:zW)(x0 b c d e:Value)(t:TypeId):∀(j:Nat) (u:Value),[x0,b,c,d,e][j]?=.some u->(W.alloc (.cells #[x0,b,c,d,e] t)).cell? (((zA W.heap.size 0):Addr).add j)=.some u:=by intro j u a;match j,a with|0,a=>{simp at a;subst a;simp[Addr.add]}|1,a=>{simp at a;subst a;simp[Addr.add]}|2,a=>{simp at a;subst a;simp[Addr.add]}|3,a=>{simp at a;subst a;simp[Addr.add]}|4,a=>{simp at a;subst a;simp[Addr.add]}
def zab{c d e:Value}(f:x0.oneCell'=true)(g:b.oneCell'=true)(h:c.oneCell'=true)(i:d.oneCell'=true)(j:e.oneCell'=true):∀u∈[x0,b,c,d,e],u.oneCell'=true:=by intro u a;simp at a;rcases a with rfl|rfl|rfl|rfl|rfl;{exact f};{exact g};{exact h};{exact i};{exact j}
def zir(q g c:Int):Bool:=decide (0<=q/\q<=c/\0<=g/\g<=3/\(0<q∨g=0))
def zt{a b:Bool}(h:a=b):Ending.returned (.bool a)=.returned (.bool b):=by rw[h]
def Js(nm:zY)(a:Option Addr)(n b:Nat)(q g t:Int)(w:zW): Calls prog 57 #[.agg #[.string nm,.slice a n b,zI q,zI g,zI t]] w (zB w (.bool (t==3))):=by have c:=zb ((Cx.nil w).new (.cells #[.string nm,.slice a n b,zI q,zI g,zI t] 57));go_enter func57,ntmps57;go_wp2_with fail;go_ret;exact⟨rfl,c.o.low⟩
def zoO(a:Option Addr)(n t:Nat)(l:List Int)(c:Int)(w:zW)(h:Ints w w.heap.size a l)(o:l.length=n)(M:n<=1048576): Calls prog 137 #[.slice a n t,zI c] w fun e w'=>e=.returned (.bool (J3 l c))/\w'=w:=by have G:=zb h;have g:=zb o;clear h o;have i:Hid (∀j (u:j<l.length),¬(zcq l j<l[j]/\l[j]<c)->J3 l c=false):=fun j u h=>zky (zrV u h);have m:Hid (qJ l c l.length->J3 l c=true):=fun h=>zdG h;generalize J3 l c=R at i m ⊢;go_enter func137,ntmps137;go_wp2_with fail;(go_loopw [5,10] (fun s y wr=>∃j:Nat,y=zI j/\s=zI (zcq l j)/\j<=n/\qJ l c j/\wr=w) (fun _ y _=>n-(intOf y).toNat));(case atStart=>exact⟨0,rfl,rfl,Es _,zgX _ _,rfl⟩);(case round=>obtain⟨j,rfl,rfl,u,F,I⟩:=hrel;subst I;have z:=zb F;clear F;by_cases v:j<n;{have E:(j:Int)<(n:Int):=by{omega};have d:j<l.length:=by{rw[g.o];exact v};obtain⟨b,K,rfl,L,D⟩:=G.o.some (by omega);have H:=D j d;have k:=zb (zms l j d);have p:=zb (i.o j d);have f:Hid (zcq l j<l[j]->l[j]<c->qJ l c (j+1)):=fun B C=>zpK d z.o B C;generalize l[j]=x at H k p f;generalize zcq l j=s at p f ⊢;clear D d;by_cases B:x<=s;{have q:=zb (p.o (by omega));go_wp2_with fail;go_ret;exact⟨zt q.o.symm,rfl⟩};{by_cases C:c<=x;{have q:=zb (p.o (by omega));go_wp2_with fail;go_ret;exact⟨zt q.o.symm,rfl⟩};{have r:=zb (f.o (by omega) (by omega));go_wp2_with fail;exact⟨⟨j+1,by go_num,by rw[k.o],by omega,r.o,by trivial⟩,by simp[intOf];omega⟩}}};{have r:=zb (m.o (by have:=z.o;rwa[show l.length=j by have:=g.o;omega]));go_wp2_with fail;go_ret;exact⟨zt r.o.symm,rfl⟩})
def zrv(nm:zY)(a:Option Addr)(n e:Nat)(q g t c:Int)(w:zW): Calls prog 138 #[.agg #[.string nm,.slice a n e,zI q,zI g,zI t],zI c] w (zB w (.bool (zir q g c))):=by have d:=zb ((Cx.nil w).new (.cells #[.string nm,.slice a n e,zI q,zI g,zI t] 57));by_cases i:q<0;{have b:Hid (zir q g c=false):=by{unfold Hid zir;exact Eo (by omega)};go_enter func138,ntmps138;go_wp2_with fail;go_ret;exact⟨zt b.o.symm,d.o.low⟩};{skip;by_cases j:c<q;{have b:Hid (zir q g c=false):=by{unfold Hid zir;exact Eo (by omega)};go_enter func138,ntmps138;go_wp2_with fail;go_ret;exact⟨zt b.o.symm,d.o.low⟩};{skip;by_cases k:g<0;{have b:Hid (zir q g c=false):=by{unfold Hid zir;exact Eo (by omega)};go_enter func138,ntmps138;go_wp2_with fail;go_ret;exact⟨zt b.o.symm,d.o.low⟩};{skip;by_cases l:3<g;{have b:Hid (zir q g c=false):=by{unfold Hid zir;exact Eo (by omega)};go_enter func138,ntmps138;go_wp2_with fail;go_ret;exact⟨zt b.o.symm,d.o.low⟩};{skip;by_cases m:0<q;{have b:Hid (zir q g c=true):=by{unfold Hid zir;exact Eu (by omega)};go_enter func138,ntmps138;go_wp2_with fail;go_ret;exact⟨zt b.o.symm,d.o.low⟩};{by_cases f:g=0;{subst f;have b:Hid (zir q 0 c=true):=by{unfold Hid zir;exact Eu (by omega)};go_enter func138,ntmps138;go_wp2_with fail;go_ret;exact⟨zt b.o.symm,d.o.low⟩};{have b:Hid (zir q g c=false):=by{unfold Hid zir;exact Eo (by omega)};have h:(g==0)=false:=Ez.2 f;go_enter func138,ntmps138;go_wp2_with fail;go_ret;exact⟨zt b.o.symm,d.o.low⟩}}}}}}
def zw4(x:Oth)(c:Int):zkN x c=(Qj x.name && J3 x.has c && zir x.asked x.age c && decide (0<=x.strikes/\x.strikes<=3) && (!(x.strikes==3) || (decide (x.has.length=0) && decide (x.asked=0)))):=rfl
def zqp(nm:zY)(a:Option Addr)(n k:Nat)(l:List Int)(q g t c:Int)(w:zW)(h:Ints w w.heap.size a l)(x:l.length=n)(U:n<=1048576)(y:nm.size<=maxLen)(N R K Q:Bool)(G:Qj nm=N)(H:J3 l c=R)(F:zir q g c=K)(o:(N && R && K && decide (0<=t/\t<=3) && (!(t==3) || (decide (l.length=0) && decide (q=0))))=Q): Calls prog 110 #[.agg #[.string nm,.slice a n k,zI q,zI g,zI t],zI c] w (zB w (.bool Q)):=by have p:=zb ((Cx.nil w).new (.cells #[.string nm,.slice a n k,zI q,zI g,zI t] 57));have i:=zb (fun W=>zm9 nm W y);have m:=zb (fun W (I:zU w W)=>zoO a n k l c W ((h.below I).mono I.size) x U);have u:=zb (fun W=>zrv nm a n k q g t c W);have C:=zb (fun W=>Js nm a n k q g t W);rw[G]at i;rw[H]at m;rw[F]at u;rw[x]at o;clear h y G H F;cases N with|false=>{have d:Hid (Q=false):=zh0 (by{rw[<-o];rfl});clear o;go_enter func110,ntmps110;go_wp2_with fail;refine(i.o _).mono ?_;rintro e w1 ⟨rfl,f⟩;subst f;go_wp2_with fail;go_ret;exact⟨zt d.o.symm,p.o.low⟩}|true=>{cases R with|false=>{have d:Hid (Q=false):=zh0 (by{rw[<-o];rfl});clear o;go_enter func110,ntmps110;go_wp2_with fail;refine(i.o _).mono ?_;rintro e w1 ⟨rfl,f⟩;subst f;go_wp2_with fail;refine(m.o _ p.o.low).mono ?_;rintro e w1 ⟨rfl,f⟩;subst f;go_wp2_with fail;go_ret;exact⟨zt d.o.symm,p.o.low⟩}|true=>{cases K with|false=>{have d:Hid (Q=false):=zh0 (by{rw[<-o];rfl});clear o;go_enter func110,ntmps110;go_wp2_with fail;refine(i.o _).mono ?_;rintro e w1 ⟨rfl,f⟩;subst f;go_wp2_with fail;refine(m.o _ p.o.low).mono ?_;rintro e w1 ⟨rfl,f⟩;subst f;go_wp2_with fail;refine(u.o _).mono ?_;rintro e V ⟨rfl,r⟩;have s:=zb (p.o.call r);clear r;go_wp2_with fail;go_ret;exact⟨zt d.o.symm,s.o.low⟩}|true=>{have v:(decide (0<=t/\t<=3) && (!(t==3) || (decide (n=0) && decide (q=0))))=Q:=by{rw[<-o];rfl};clear o;have j:=zb v;clear v;go_enter func110,ntmps110;go_wp2_with fail;refine(i.o _).mono ?_;rintro e w1 ⟨rfl,f⟩;subst f;go_wp2_with fail;refine(m.o _ p.o.low).mono ?_;rintro e w1 ⟨rfl,f⟩;subst f;go_wp2_with fail;refine(u.o _).mono ?_;rintro e V ⟨rfl,r⟩;have s:=zb (p.o.call r);clear r p;have⟨k0,M,O,P,S⟩:=zu (s.o.get 0 rfl);by_cases X:t<0;{have d:Hid (Q=false):=zh0 (by{rw[<-j.o,Eo (by omega)];rfl});go_wp2_with fail;go_ret;exact⟨zt d.o.symm,s.o.low⟩};{by_cases Y:3<t;{have d:Hid (Q=false):=zh0 (by{rw[<-j.o,Eo (by omega)];rfl});go_wp2_with fail;go_ret;exact⟨zt d.o.symm,s.o.low⟩};{go_wp2_with fail;refine(C.o _).mono ?_;rintro e Z ⟨rfl,r⟩;have z:=zb (s.o.call r);clear r s k0 M O P S;have⟨k0,M,O,P,S⟩:=zu (z.o.get 0 rfl);by_cases B:t=3;{have b:(t==3)=true:=Fs.2 B;by_cases E:n=0;{have D:((n:Int)==0)=true:=Fs.2 (by omega);have d:Hid (Q=(q==0)):=zh0 (by{rw[<-j.o,b,Eu (by omega),Eu E];by_cases L:q=0;{simp[L]};{simp[L]}});rw[b];clear b B;go_wp2_with fail;go_ret;exact⟨zt d.o.symm,z.o.low⟩};{have D:((n:Int)==0)=false:=Ez.2 (by omega);have d:Hid (Q=false):=zh0 (by{rw[<-j.o,b,Eo E];simp});rw[b];clear b B;go_wp2_with fail;go_ret;exact⟨zt d.o.symm,z.o.low⟩}};{have b:(t==3)=false:=Ez.2 B;have d:Hid (Q=true):=zh0 (by{rw[<-j.o,b,Eu (by omega)];rfl});rw[b];clear b;go_wp2_with fail;go_ret;exact⟨zt d.o.symm,z.o.low⟩}}}}}}
def ztE(x:MO)(c:Int)(w:zW)(h:zgx w w.heap.size x)(f:x.1.has.length<=1048576)(d:x.1.name.size<=maxLen): Calls prog 110 #[zhU x,zI c] w (zB w (.bool (zkN x.1 c))):=by obtain⟨a,b,g,_,_,e⟩:=h;unfold zhU;rw[g];exact zqp x.1.name a _ b x.1.has _ _ _ c w e rfl f d _ _ _ _ rfl rfl rfl (zw4 x.1 c).symm
def zcf(s:zY)(y:Int):Bool:=decide (0<=y) && decide (y<=s.size)
def zoJ(z b:Int)(r s:zY)(y:Int)(w:zW): Calls prog 109 #[kV z b r s y] w (zB w (.bool (zcf s y))):=by have a:Hid (zU w (w.alloc (kB z b r s y))):=(Eb _ _).alloc (Ea _) _;unfold kV;unfold kB at a;by_cases d:0<=y;{have c:Hid (zcf s y=decide (y<=((s.size:Nat):Int))):=by{unfold Hid zcf;rw[Eu d,Pg]};rw[c.o];go_enter func109,ntmps109;go_wp2_with fail;go_ret;exact⟨rfl,a.o⟩};{have c:Hid (zcf s y=false):=by{unfold Hid zcf;rw[Eo d,Oa]};rw[c.o];have e:decide (0<=y)=false:=Eo d;go_enter func109,ntmps109;go_wp2_with fail;go_ret;exact⟨rfl,a.o⟩}
def zmD(z b:Int)(r s:zY)(y:Int)(e:Nat)(w:zW)(F:s.size<=1048576)(E:e<=s.size): Calls prog 212 #[kV z b r s y,zI e] w fun q w'=>q=.returned (kV z b r (s.extract 0 e) e)/\zU w w':=by have n:Hid (∀W,Calls prog 174 #[.string s,zI 0,zI e] W fun q w'=>q=.returned (.string (s.extract 0 e))/\zU W w'):=fun W=>zim s 0 e W F (Es _) E;have a:=zb (((Cx.nil w).new (kB z b r s y)).new kZ);simp only[Fm]at a;unfold kV;unfold kB kZ at a;generalize s.extract 0 e=t at n ⊢;go_enter func212,ntmps212;go_upto_region 1 with fail;generalize (w.alloc _).alloc _=d at a ⊢;generalize f:w.heap.size=gk at a ⊢;have k:=zb f;clear f;have m:Hid (∀W,zU d W->zc W gk 0 (zI z)/\zc W gk 1 (zI b)/\zc W gk 2 (.string r)/\zc W gk 3 (.string s)):=fun W h=>by{have⟨x,B,C,D,_⟩:=qk (zi4 (a.o.get 1 rfl) h);exact⟨x,B,C,D⟩};have p:Hid (∀W,zU d W->(zc W (gk+1) 0 (zI 0)/\zc W (gk+1) 1 (zI 0)/\zc W (gk+1) 2 zt0/\zc W (gk+1) 3 zt0/\zc W (gk+1) 4 (zI 0))/\W.frozen? (zA (gk+1) 0)=false/\W.frozen? (zA (gk+1) 1)=false/\W.frozen? (zA (gk+1) 2)=false/\W.frozen? (zA (gk+1) 3)=false/\W.frozen? (zA (gk+1) 4)=false):=fun W h=>zyP (zi4 (a.o.get 0 rfl) h);have u:Hid (zU d d.drew):=(Eb _ _).drew;have c:Hid (∀W,zU d W->zU w (zw (zw (zw (zw (zw W (gk+1) 0 (zI z)) (gk+1) 1 (zI b)) (gk+1) 2 (.string r)) (gk+1) 3 (.string t)) (gk+1) 4 (zI e))/\(zw (zw (zw (zw (zw W (gk+1) 0 (zI z)) (gk+1) 1 (zI b)) (gk+1) 2 (.string r)) (gk+1) 3 (.string t)) (gk+1) 4 (zI e)).heap[gk+1]?=some (zK z b r t e)):=fun W h=>⟨zbP (Zc a.o.low h) (by have:=k.o;omega) _ _ _ _ _,zyW (zi4 (a.o.get 0 rfl) h) _ _ _ _ _⟩;clear a;have⟨k0,K,L,M⟩:=m.o _ (Eb _ _);(go_region_with (go_at_call 174;(with_reducible refine(n.o _).mono ?_);rintro q Y ⟨rfl,o⟩;have l:=zb (Zc u.o o);have⟨O,P,Q,R⟩:=m.o _ l.o;have⟨⟨n0,S,U,V,X⟩,G,f1,f2,H,I⟩:=p.o _ l.o;clear o));(all_goals (try go_wp2_with fail));all_goals (have⟨i,j⟩:=c.o _ l.o;have g:=zu j;exact Eh (v:=(vK z b r t e)) (by simp[results,results212,go_sem,g.1,g.2.1,g.2.2.1,g.2.2.2.1,g.2.2.2.2]) rfl ⟨rfl,i⟩)
def Tryz.infoS209:(prog.info? 209).map (fun i=>(i.zero,i.size,i.bytes))=some (some (.int .u32 0),1,4):=by kernel_rfl
def Tryz.infoS2:(prog.info? 2).map (fun i=>(i.zero,i.size,i.bytes))=some (some (zI 0),1,8):=by kernel_rfl
def zoH(b g h j a c d i e f:Int): (⟨(((((i+zAs a)%4294967296+pick a c d)%4294967296+e)%4294967296+f)%4294967296+(zAP b+JZ b g h)%4294967296)%4294967296,b,g,h,(j+((((i+zAs a)%4294967296+pick a c d)%4294967296+e)%4294967296+f)%4294967296)%4294967296,a,c,d⟩:St)=zlN ⟨b,g,h,j,a,c,d,i⟩ e f:=by simp[zlN,t1,t2]
def ztP(B:Nat->Nat)(s:Nat->Int)(j:Nat):0<=ZN B s j/\ZN B s j<4294967296:=by unfold ZN;omega
def zit{s:Nat->Int}(h:∀j,0<=s j/\s j<4294967296)(j:Nat):IntKind.u32.wrap (s j)=s j:=by have:=h j;rw[IntKind.wrap_u32'];omega
def zqI(s:Nat->Int)(gs c:Nat)(t:zY)(w:zW)(ht:t.size=64)(ao:gs<w.heap.size)(hs:∀j,j<8->w.cell? (zA gs j)=some (zI (s j)))(hr:∀j,0<=s j/\s j<4294967296): Calls prog 168 #[.slice (zx gs) 8 c,.string t] w fun e w'=>∃g c',e=.returned (.slice (zx g) 8 c')/\w.heap.size<=g/\g<w'.heap.size/\(∀j,j<8->w'.cell? (zA g j)=some (zI (ZN (bt t) s j)))/\zU w w':=by have⟨i0,hi,bd,be,bf⟩:=Fp Tryz.infoS209;have HS:=qb hs;have l:=qb hr;clear hs hr;go_enter func168,ntmps168;(go_wp2_with (at_make;refine Lu _ rfl _ _ 233 rfl w.heap.size 209 i0 (.int .u32 0) 1 underlying233 hi bd be .i64 .i64 _ _ 64 rfl rfl (by rfl) (by rfl) (by rw[bf];omega) (by unfold maxLen;omega) (Ea _) ?_;intro w1 z r;have ax:=qb (zrJ z);have a3:=qb ((Eb w.heap.size w).grown r (Ea _) (by simp));clear z r));(go_loopw [6] (fun i wr=>∃k:Nat,i=zI k/\k<=16/\IsB wr w.heap.size 209 .u32 64 (znf (bt t) k)/\zU w wr) (fun i _=>16-(intOf i).toNat));(case atStart=>exact⟨0,rfl,by omega,IsB.congr ax.o (fun j _=>by simp[znf]),a3.o⟩);(case round=>obtain⟨k,rfl,hk,o,a⟩:=hrel;have G1:=qb o;have GB:=qb a;by_cases R:k<16;{have⟨y0,b0,V⟩:=zcb t (4*k) (by omega);have⟨y1,b1,W⟩:=zcb t (4*k+1) (by omega);have⟨y2,b2,Y⟩:=zcb t (4*k+2) (by omega);have⟨y3,b3,au⟩:=zcb t (4*k+3) (by omega);have Y0:=qb V;have Y1:=qb W;have Y2:=qb Y;have Y3:=qb au;clear V W Y au;have r0:=y0.toNat_lt;have r1:=y1.toNat_lt;have r2:=y2.toNat_lt;have r3:=y3.toNat_lt;have q0:IntKind.i64.wrap (4*(k:Int))=4*(k:Int):=by{simp[IntKind.wrap,IntKind.bits,IntKind.signed];omega};have q1:IntKind.i64.wrap (4*(k:Int)+1)=4*(k:Int)+1:=by{simp[IntKind.wrap,IntKind.bits,IntKind.signed];omega};have q2:IntKind.i64.wrap (4*(k:Int)+2)=4*(k:Int)+2:=by{simp[IntKind.wrap,IntKind.bits,IntKind.signed];omega};have q3:IntKind.i64.wrap (4*(k:Int)+3)=4*(k:Int)+3:=by{simp[IntKind.wrap,IntKind.bits,IntKind.signed];omega};have p0:(4*(k:Int)).toNat=4*k:=by{omega};have p1:(4*(k:Int)+1).toNat=4*k+1:=by{omega};have p2:(4*(k:Int)+2).toNat=4*k+2:=by{omega};have p3:(4*(k:Int)+3).toNat=4*k+3:=by{omega};have z0:0<=4*(k:Int):=by{omega};have z1:0<=4*(k:Int)+1:=by{omega};have z2:0<=4*(k:Int)+2:=by{omega};have z3:0<=4*(k:Int)+3:=by{omega};have lk:(k:Int)<64:=by{omega};have l0:4*(k:Int)<64:=by{omega};have l1:4*(k:Int)+1<64:=by{omega};have l2:4*(k:Int)+2<64:=by{omega};have l3:4*(k:Int)+3<64:=by{omega};have ck:=o.cell (j:=k) (by omega);have cf:=o.frozen k;clear o a;go_wp2_with fail;refine ZW 32 Tryz.checked.mixed (by kernel_rfl) ?_;simp only[Ld,Lt,Le,Mh];(repeat still_step);refine Lm ?_;have HW:=qb (ztF (bt t) k _ _ _ _ Y0.o Y1.o Y2.o Y3.o (zz3 t));go_wp2_with fail;go_roundw;(case rel=>have b:=GB.o.setCell (p:=zA w.heap.size k) (Ea _) (.int .u32 ((word (bt t) k:Nat):Int));rw[HW.o];exact⟨k+1,by go_num,by omega,IsB.congr (G1.o.set k _) (fun j _=>zmU (bt t) k j),⟨b.os,b.tape,b.output,b.size,b.block⟩⟩);(case measure=>simp[intOf];omega)};{have H2:Hid (IsB wr w.heap.size 209 .u32 64 (zdX (bt t) 16)):=by{have e:k=16:=by{omega};have h:=G1.o;rw[e]at h;exact h.congr (fun j _=>zfV (bt t) j)};clear o a G1;go_wp2_with fail;(go_loopw [7] (fun i wr=>∃k:Nat,i=zI k/\16<=k/\k<=64/\IsB wr w.heap.size 209 .u32 64 (zdX (bt t) k)/\zU w wr) (fun i _=>64-(intOf i).toNat));(case atStart=>exact⟨16,rfl,by omega,by omega,H2.o,GB.o⟩);(case round=>obtain⟨k,rfl,bo,bp,o,a⟩:=hrel;have G1:=qb o;have P:=qb a;by_cases R:k<64;{have bl:((k:Int)-15).toNat=k-15:=by{omega};have e2:((k:Int)-2).toNat=k-2:=by{omega};have bm:((k:Int)-16).toNat=k-16:=by{omega};have e7:((k:Int)-7).toNat=k-7:=by{omega};obtain⟨av,D⟩:∃x,x=wv (bt t) (k-15):=⟨_,rfl⟩;obtain⟨x2,ae⟩:∃x,x=wv (bt t) (k-2):=⟨_,rfl⟩;obtain⟨aw,E⟩:∃x,x=wv (bt t) (k-16):=⟨_,rfl⟩;obtain⟨x7,af⟩:∃x,x=wv (bt t) (k-7):=⟨_,rfl⟩;have HV:Hid ((aw+sm0 av+x7+sm1 x2)%4294967296=wv (bt t) k):=zh0 (by{rw[zv4 (bt t) k (by omega),D,ae,E,af]});have bi:wr.cell? (zA w.heap.size (k-15))=some (.int .u32 av):=by{rw[o.cell (by omega),Q0 (bt t) k _ (by omega),D]};have c2:wr.cell? (zA w.heap.size (k-2))=some (.int .u32 x2):=by{rw[o.cell (by omega),Q0 (bt t) k _ (by omega),ae]};have bk:wr.cell? (zA w.heap.size (k-16))=some (.int .u32 aw):=by{rw[o.cell (by omega),Q0 (bt t) k _ (by omega),E]};have c7:wr.cell? (zA w.heap.size (k-7))=some (.int .u32 x7):=by{rw[o.cell (by omega),Q0 (bt t) k _ (by omega),af]};have ck:=o.cell (j:=k) (by omega);have bn:=o.frozen k;clear o a D ae E af;go_wp2_with fail;have bq:IntKind.i64.wrap ((k:Int)-16)=(k:Int)-16:=by{simp[IntKind.wrap,IntKind.bits,IntKind.signed];omega};have v7:IntKind.i64.wrap ((k:Int)-7)=(k:Int)-7:=by{simp[IntKind.wrap,IntKind.bits,IntKind.signed];omega};have bh:(16:Int)<=(k:Int):=by{omega};have a7:(7:Int)<=(k:Int):=by{omega};have bs:0<=(k:Int)-16:=by{omega};have z7:0<=(k:Int)-7:=by{omega};have br:(k:Int)-16<64:=by{omega};have y7:(k:Int)-7<64:=by{omega};refine ZW 32 Tryz.checked.mixed (by kernel_rfl) ?_;simp only[Ld,Lt,Le,Mh];(repeat (first|still_call (zce _ _ _ (by decide) (by decide))|still_step));refine Lm ?_;go_wp2_with fail;go_roundw;(case rel=>have b:=P.o.setCell (p:=zA w.heap.size k) (Ea _) (.int .u32 (wv (bt t) k));have e:=HV.o;simp only[sm0,sm1]at e;rw[e];exact⟨k+1,by go_num,by omega,by omega,IsB.congr (G1.o.set k _) (fun j _=>zjb (bt t) k j _ rfl),⟨b.os,b.tape,b.output,b.size,b.block⟩⟩);(case measure=>simp[intOf];omega)};{have a8:Hid (IsB wr w.heap.size 209 .u32 64 (wv (bt t))):=by{have e:k=64:=by{omega};have h:=G1.o;rw[e]at h;exact h.congr (fun j hj=>Q0 (bt t) 64 j hj)};have d:∀j,j<8->wr.cell? (zA gs j)=some (zI (s j)):=fun j hj=>(a.cell (p:=zA gs j) ao).trans (HS.o j hj);have g0:=d 0 (by decide);have g1:=d 1 (by decide);have g2:=d 2 (by decide);have g3:=d 3 (by decide);have g4:=d 4 (by decide);have g5:=d 5 (by decide);have g6:=d 6 (by decide);have g7:=d 7 (by decide);have bg:=qb d;have m0:IntKind.u32.wrap (s 0)=s 0:=zit l.o 0;have m1:IntKind.u32.wrap (s 1)=s 1:=zit l.o 1;have m2:IntKind.u32.wrap (s 2)=s 2:=zit l.o 2;have m3:IntKind.u32.wrap (s 3)=s 3:=zit l.o 3;have m4:IntKind.u32.wrap (s 4)=s 4:=zit l.o 4;have m5:IntKind.u32.wrap (s 5)=s 5:=zit l.o 5;have m6:IntKind.u32.wrap (s 6)=s 6:=zit l.o 6;have m7:IntKind.u32.wrap (s 7)=s 7:=zit l.o 7;clear o a G1 d;go_wp2_with fail;(refine zfh Tryz.checked.mixed (by kernel_rfl) ?_);(repeat still_step);refine Lm ?_;go_wp2_with fail;(refine zfh Tryz.checked.mixed (by kernel_rfl) ?_);(repeat still_step);refine Lm ?_;go_wp2_with fail;refine(zuZ _).mono ?_;rintro e q ⟨rfl,U⟩;have aj:Hid (IsB q wr.heap.size 209 .u32 64 zxH):=zh0 (by{rw[U];exact IsB.new wr.drew.drew _ _ _ _});have a6:Hid (IsB q w.heap.size 209 .u32 64 (wv (bt t))):=zh0 (by{rw[U];exact IsB.alloc (w:=wr.drew.drew) a8.o _});have m:Hid (zU w q):=zh0 (by{rw[U];exact(P.o.drew.drew).alloc P.o.size _});clear U g0 g1 g2 g3 g4 g5 g6 g7 m0 m1 m2 m3 m4 m5 m6 m7;have a2:=qb (show w.heap.size<=wr.heap.size from P.o.size);go_wp2_with fail;generalize wr.heap.size=GK at aj a2 ⊢;(go_loopw [10,11,12,13,14,15,16,17,19] (fun va vb vc vd ve vf vg vh i wr=>∃(k:Nat) (F G H I K L M O:Int),i=zI k/\k<=64/\va=.int .u32 F/\vb=.int .u32 G/\vc=.int .u32 H/\vd=.int .u32 I/\ve=.int .u32 K/\vf=.int .u32 L/\vg=.int .u32 M/\vh=.int .u32 O/\(⟨F,G,H,I,K,L,M,O⟩:St)=zbb (bt t) s k/\∃n,wr=q.drewN n) (fun _ _ _ _ _ _ _ _ i _=>64-(intOf i).toNat));(case atStart=>exact⟨0,_,_,_,_,_,_,_,_,rfl,by omega,rfl,rfl,rfl,rfl,rfl,rfl,rfl,rfl,rfl,0,rfl⟩);(case round=>obtain⟨k,F,G,H,I,K,L,M,O,rfl,hk,rfl,rfl,rfl,rfl,rfl,rfl,rfl,rfl,aq,nd,rfl⟩:=hrel;have ak:=qb aq;clear aq;by_cases R:k<64;{obtain⟨wk,ad⟩:∃x,x=wv (bt t) k:=⟨_,rfl⟩;obtain⟨kk,ac⟩:∃x,x=zxH k:=⟨_,rfl⟩;have c1:q.cell? (zA GK k)=some (.int .u32 kk):=by{rw[aj.o.cell R,ac]};have c2:q.cell? (zA w.heap.size k)=some (.int .u32 wk):=by{rw[a6.o.cell R,ad]};have lk:(k:Int)<64:=by{omega};have HX:Hid (zlN ⟨F,G,H,I,K,L,M,O⟩ kk wk=zbb (bt t) s (k+1)):=zh0 (by{rw[ak.o,ad,ac];rfl});clear ad ac;(go_wp2_with (go_at_call 199;refine(zce _ _ _ (by decide) (by decide)).mono ?_;rintro e w' ⟨rfl,hw⟩;subst w'));(refine zfh Tryz.checked.mixed (by kernel_rfl) ?_);(repeat (first|still_call (zce _ _ _ (by decide) (by decide))|still_step));refine Lm ?_;(go_wp2_with (go_at_call 199;refine(zce _ _ _ (by decide) (by decide)).mono ?_;rintro e w' ⟨rfl,hw⟩;subst w'));exact⟨⟨k+1,_,_,_,_,_,_,_,_,by go_num,by omega,rfl,rfl,rfl,rfl,rfl,rfl,rfl,rfl,(zoH F G H I K L M O kk wk).trans HX.o,nd+1,rfl⟩,by simp[intOf];omega⟩};{obtain⟨X,hX⟩:∃X:St,X=⟨F,G,H,I,K,L,M,O⟩:=⟨_,rfl⟩;have HE:Hid (X=zbb (bt t) s 64):=zh0 (by{rw[hX,ak.o];congr 1;omega});have HX:=qb hX;clear hX;have⟨i1,bc,V,W,Y⟩:=Fp Tryz.infoS2;go_wp2_with fail;have ab:Hid (IsB ((q.drewN nd).alloc (.cells #[.int .u32 F,.int .u32 G,.int .u32 H,.int .u32 I,.int .u32 K,.int .u32 L,.int .u32 M,.int .u32 O] 209)) q.heap.size 209 .u32 8 X.at):=zh0 (by{rw[HX.o];exact IsB.of_list (q.drewN nd) 209 .u32 8 _ _ (by rfl)});have ah:Hid (zU w ((q.drewN nd).alloc (.cells #[.int .u32 F,.int .u32 G,.int .u32 H,.int .u32 I,.int .u32 K,.int .u32 L,.int .u32 M,.int .u32 O] 209))):=Sj (w:=q.drewN nd) ⟨m.o.os,m.o.tape,m.o.output,m.o.size,m.o.block⟩ m.o.size _;have u:Hid (((q.drewN nd).alloc (.cells #[.int .u32 F,.int .u32 G,.int .u32 H,.int .u32 I,.int .u32 K,.int .u32 L,.int .u32 M,.int .u32 O] 209)).heap.size=q.heap.size+1):=zh0 (by{simp});generalize ((q.drewN nd).alloc (.cells #[.int .u32 F,.int .u32 G,.int .u32 H,.int .u32 I,.int .u32 K,.int .u32 L,.int .u32 M,.int .u32 O] 209))=w5 at ab ah u ⊢;have aa:=qb m.o.size;generalize q.heap.size=y at ab u aa ⊢;(go_loopw [23,24] (fun v i wr=>∃j:Nat,i=zI j/\j<=8/\wr.ownsRow (y+1) 2 1 v j (Zl .i64 j (ZN (bt t) s)).toList/\Below (y+1) w5 wr) (fun _ i _=>8-(intOf i).toNat));(case atStart=>have e:=JR w5 (y+1) 2 (by rw[u.o];exact Ea _);rw[u.o]at e;exact⟨0,rfl,by omega,e,(Eb _ _).alloc (by rw[u.o];exact Ea _) _⟩);(case round=>obtain⟨j,rfl,hj,f,a⟩:=hrel;have HO:=qb f;have HL:=qb a;have ai:=qb (ah.o.trans (a.mono (show w.heap.size<=y+1 from Pj aa.o)));by_cases Z:j<8;{obtain⟨sj,S⟩:∃x,x=s j:=⟨_,rfl⟩;obtain⟨xj,ag⟩:∃x,x=X.at j:=⟨_,rfl⟩;obtain⟨bj,Q⟩:∃x,x=ZN (bt t) s j:=⟨_,rfl⟩;have cs:wr.cell? (zA gs j)=some (zI sj):=by{rw[ai.o.cell (p:=zA gs j) ao,HS.o j Z,S]};have cv:wr.cell? (zA y j)=some (.int .u32 xj):=by{rw[a.cell (p:=zA y j) (by simp),ab.o.cell Z,ag]};have u1:IntKind.u32.wrap sj=sj:=by{rw[S];exact zit l.o j};have u2:IntKind.u32.wrap (sj+xj)=bj:=by{rw[IntKind.wrap_u32',S,ag,Q,HE.o];rfl};have u3:IntKind.i64.wrap bj=bj:=by{have:=ztP (bt t) s j;rw[<-Q]at this;simp[IntKind.wrap,IntKind.bits,IntKind.signed];omega};have ay:=qb Q;have l8:(j:Int)<8:=by{omega};have C:wr.drew.ownsRow (y+1) 2 1 _ j (Zl .i64 j (ZN (bt t) s)).toList:=f;have a4:=qb C;have ar:y+1<=wr.heap.size:=by{have:=a.size;have:=u.o;omega};clear f a S ag Q C;go_wp2_with fail;(go_region_law (refine qY rfl (.tmp 220) (.tmp 232) 55 rfl (y+1) 2 i1 (zI 0) 1 8 underlying55 bc V W Y rfl (by decide) u23 _ _ rfl (a4.o.alloc _) (zA wr.heap.size 0) 1 1 [zI bj] rfl rfl (zrR wr.drew _ _) (one_cell _ _) (by unfold maxLen;omega) (by omega) (by simp;omega) ?_;intro v' w6 ap an));all_goals (have a9:Below (y+1) w5 w6:=zyt HL.o ar HO.o an;have a5:Hid (w6.ownsRow (y+1) 2 1 v' (j+1) (Zl .i64 (j+1) (ZN (bt t) s)).toList):=zh0 (by{rw[<-zbD,<-ay.o];exact ap});clear ap an;go_wp2_with fail;exact⟨⟨j+1,by go_num,by omega,a5.o,a9⟩,by simp[intOf];omega⟩)};{have B:wr.ownsRow (y+1) 2 1 u23 8 (Zl .i64 8 (ZN (bt t) s)).toList:=by{have e:j=8:=by{omega};rw[e]at f;exact f};have⟨g,c',hv,bb,am,al⟩:=zjx (n:=8) (by decide) B;subst hv;have az:=qb al;have a1:=qb (show w.heap.size<=g by have:=aa.o;omega);have a0:=qb am;clear f a B al bb am;go_wp2_with fail;go_ret;exact⟨g,c',rfl,a1.o,a0.o,az.o,ai.o⟩})})})})
def ze2.piece{b L:Nat}(h:ze2 w b (.slice (zx g) L i) L f)(a m c:Nat)(v:a+m<=L)(q:∀j,f j<256){src:TypeId}(s:P.underlying src=some (.slice e))(p:P.underlying e=some (.int .u8))(hd:P.underlying dst=some .string): (convert src dst (.slice (some (zA g a)) m c)).run P w=.ok (.string (zgu m (fun j=>f (a+j)))) w:=by obtain⟨t,l,n,_,_,_,_,k,_⟩:=h;simp at n;obtain⟨rfl,rfl⟩:=n;have o:((List.range m).map fun j=>UInt8.ofNat (f (a+j))).length=m:=by{simp};have:=Nw (P:=P) w src dst e (zA g a) c ((List.range m).map fun j=>UInt8.ofNat (f (a+j))) s p hd (by{intro j r;rw[o]at r;have d:((zA g a):Addr).add j=(zA g (a+j)):=by{unfold Addr.add;split<;>simp_all};rw[d,k (a+j) (by omega)];have u:=q (a+j);simp;omega});rw[o]at this;exact this
def zxi{a e:Nat}(h:w.ownsRow a e 1 v n (Zl .u8 n (fun j=>(f j:Nat))).toList)(c:∀j,f j<256){src:TypeId}(i:P.underlying src=some (.slice e))(b:P.underlying e=some (.int .u8))(hd:P.underlying dst=some .string): (convert src dst v).run P w=.ok (.string (zgu n f)) w:=by have d:((List.range n).map fun j=>UInt8.ofNat (f j)).length=n:=by{simp};have g:((List.range n).map fun j=>UInt8.ofNat (f j)).map bv=(Zl .u8 n (fun j=>(f j:Nat))).toList:=by{simp only[Zl,Rn];apply Pv;intro j _;have:=c j;simp[bv];omega};have:=Jx (P:=P) (src:=src) (dst:=dst) ((List.range n).map fun j=>UInt8.ofNat (f j)) (by rw[d,g];exact h) i b hd;exact this
def ziy(s:Nat->Int)(j r:Nat)(c:r<4):((ziW s (4*j+r):Nat):Int)=s j/2 ^ (24-8*r)%256:=by rw[<-zk7];have a:(4*j+r)/4=j:=by{omega};have b:(4*j+r)%4=r:=by{omega};rw[a,b]
def zvH(s:Nat->Int)(j:Nat)(x0 a b c:Int)(h:x0=s j/16777216%256)(i:a=s j/65536%256)(k:b=s j/256%256)(l:c=s j%256): (Zl .u8 (4*j) (fun q=>(ziW s q:Nat))).toList++[.int .u8 x0,.int .u8 a,.int .u8 b,.int .u8 c]=(Zl .u8 (4*(j+1)) (fun q=>(ziW s q:Nat))).toList:=by have d:x0=((ziW s (4*j):Nat):Int):=by{rw[h];exact(ziy s j 0 (by decide)).symm};have e:a=((ziW s (4*j+1):Nat):Int):=by{rw[i];exact(ziy s j 1 (by decide)).symm};have f:b=((ziW s (4*j+2):Nat):Int):=by{rw[k];exact(ziy s j 2 (by decide)).symm};have g:c=((ziW s (4*j+3):Nat):Int):=by{rw[l,ziy s j 3 (by decide)];simp};rw[d,e,f,g,show 4*(j+1)=4*j+1+1+1+1 by omega,<-zbD,<-zbD,<-zbD,<-zbD];simp
def zum(W:zW)(a b c d:Value)(t:TypeId):∀(j:Nat) (u:Value),[a,b,c,d][j]?=some u->(W.alloc (.cells #[a,b,c,d] t)).cell? (((zA W.heap.size 0):Addr).add j)=some u:=by intro j u e;match j,e with|0,e=>{simp at e;subst e;simp[Addr.add]}|1,e=>{simp at e;subst e;simp[Addr.add]}|2,e=>{simp at e;subst e;simp[Addr.add]}|3,e=>{simp at e;subst e;simp[Addr.add]}
def Qf(h:p):Hid p:=h
def zmB{wr:zW}{o:Obj}(b:Below B w wr)(e:B<=wr.heap.size)(c:ze2 wr B v n f)(a:(wr.alloc o).grownBy w1 v.ownBlock):Below B w w1:=by obtain⟨g,d,rfl,i,_⟩:=c;refine(b.alloc e o).grown a (by simp;omega) ?_;intro k h;simp[Value.ownBlock]at h;omega
def zrQ(a b c d:Int):∀u∈[Value.int .u8 a,Value.int .u8 b,Value.int .u8 c,Value.int .u8 d],u.oneCell'=true:=by intro u e;simp at e;rcases e with rfl|rfl|rfl|rfl<;>rfl
def ziE(W:zW)(x:Value)(t:TypeId):(W.alloc (.cells #[x] t)).cell? (((zA W.heap.size 0):Addr).add 0)=some x:=zrR W x t 0 x rfl
def all_of(H:∀(s:Nat->Int) (o c:Nat) (t:zY) (w:zW),t.size=64->o<w.heap.size->(∀j,j<8->w.cell? (zA o j)=some (zI (s j)))->(∀j,0<=s j/\s j<4294967296) -> Calls prog 168 #[.slice (zx o) 8 c,.string t] w fun e w'=>∃g c',e=.returned (.slice (zx g) 8 c')/\w.heap.size<=g/\g<w'.heap.size/\(∀j,j<8->w'.cell? (zA g j)=some (zI (ZN (bt t) s j)))/\zU w w')(t:zY)(w:zW)(ht:t.size<=1048576): Calls prog 131 #[.string t] w (zB w (.string (sha t))):=by have ar:=Qf H;clear H;have⟨i0,hi,E,F,G⟩:=Fp Tryz.infoJ5;obtain⟨ch,Z⟩:∃c,c=chunks t.size:=⟨_,rfl⟩;have hr:=JJ t.size;have a7:=zbA t.size;rw[<-Z]at hr a7;have O:=Qf Z;clear Z;obtain⟨V,w1,bi,hO,hB⟩:∃V w1,(convert 9 22 (.string t)).run prog w=.ok V w1/\ze2 w1 w.heap.size V t.size (bt t)/\zU w w1:=⟨_,_,run_bytes_of_string (P:=prog) w 9 22 5 t underlying9 underlying22 underlying5,zid w w.heap.size t 5 (by unfold maxLen;omega) (Ea _),(Eb _ _).drew.alloc (Ea _) _⟩;have HO:=Qf hO;have HB:=Qf hB;clear hO hB;go_enter func131,ntmps131;(go_wp2_with (at_builtin;refine JC rfl _ _ 22 rfl w.heap.size 5 i0 underlying22 hi E F G V t.size (bt t) rfl (HO.o.alloc _) (zA w1.heap.size 0) 1 128 rfl (ziE w1 _ _) (by omega) (by have:=HB.o.size;simp;omega) ?_;intro v2 w2 af ai));have a0:=Qf (af.congr (fun j hj=>ztv t j hj));have an:=Qf (zmB HB.o HB.o.size HO.o ai);clear af ai HO HB;(go_loopw [3] (fun v wr=>∃n:Nat,ze2 wr w.heap.size v n (pad t)/\t.size+1<=n/\n+8<=ch*64/\zU w wr) (fun v _=>match v with|.slice _ n _=>ch*64-n|_=>0));(case atStart=>exact⟨t.size+1,a0.o,by omega,by omega,an.o⟩);(case round=>obtain⟨n,a,bk,bl,b⟩:=hrel;have R:=Qf a;have C:=Qf b;have⟨g,a3,hv,bb⟩:=a.slice;subst hv;clear a b;by_cases be:n%64=56;{have HN:=Qf (show n=ch*64-8 by omega);have em:((n:Int)%64==56)=true:=by{simp;omega};have bh:((n:Int)%64 != 56)=false:=by{simp;omega};go_wp2_with fail;(go_loopw [3,5] (fun v i wr=>∃m:Nat,i=zI (56-8*(m:Int))/\m<=8/\ze2 wr w.heap.size v (n+m) (pad t)/\zU w wr) (fun _ i _=>(intOf i+8).toNat));(case atStart=>exact⟨0,rfl,by omega,R.o,C.o⟩);(case round=>obtain⟨m,rfl,hm,a,b⟩:=hrel;have D:=Qf a;have h:=Qf b;have⟨g5,d,hv,Y⟩:=a.slice;subst hv;clear a b;by_cases a6:m<8;{have q1:IntKind.u64.wrap (56-8*(m:Int))=56-8*(m:Int):=by{simp[IntKind.wrap,IntKind.bits,IntKind.signed];omega};have q2:(56-8*(m:Int)).toNat=56-8*m:=by{omega};have q3:0<=56-8*(m:Int):=by{omega};obtain⟨x,hx⟩:∃x,x=t.size*8/2 ^ (56-8*m)%256:=⟨_,rfl⟩;have HV:Hid (8*(t.size:Int)/2 ^ (56-8*m)%256=(x:Int)):=zh0 (by{rw[hx,Ni t.size 8];simp});have HP:Hid (x=pad t (n+m)):=zh0 (by{rw[hx,HN.o,O.o,zxy t m a6]});clear hx;(go_wp2_with (at_builtin;refine JC rfl _ _ 22 rfl w.heap.size 5 i0 underlying22 hi E F G (.slice (zx g5) (n+m) d) (n+m) (pad t) rfl (D.o.alloc _) (zA wr.heap.size 0) 1 x rfl (by rw[ziE];exact Kv some (Kv (Value.int .u8) HV.o)) (by omega) (by have:=h.o.size;simp;omega) ?_;intro v6 w6 r y;have S:=Qf (r.congr (fun j _=>zqF t (n+m) x HP.o j));have K:=Qf (zmB h.o h.o.size D.o y);clear r y));exact⟨⟨m+1,by go_num,by omega,S.o,K.o⟩,by simp[intOf];omega⟩};{have f:Hid (n+m=ch*64):=by{have:=HN.o;unfold Hid;omega};have q3:¬0<=56-8*(m:Int):=by{omega};go_wp2_with fail;refine(zth wr).mono ?_;rintro e w7 ⟨rfl,B⟩;have ad:Hid (∀j,j<8->w7.cell? (zA wr.heap.size j)=some (zI (shaS t 0 j))):=by{intro j hj;rw[B];exact(IsB.new wr 2 .i64 8 zey).cell hj};have ab:Hid (ze2 w7 w.heap.size (.slice (zx g5) (n+m) d) (n+m) (pad t)):=zh0 (by{rw[B];exact D.o.alloc _});have ap:Hid (zU w w7):=zh0 (by{rw[B];exact h.o.alloc h.o.size _});have ae:Hid (wr.heap.size<w7.heap.size):=zh0 (by{rw[B];simp});generalize n+m=L at ab f Y ⊢;generalize wr.heap.size=G7 at ad ae ⊢;clear B D h;go_wp2_with fail;(go_loopw [6,7] (fun st i wr=>∃k o c:Nat,st=.slice (zx o) 8 c/\i=zI (64*(k:Int))/\k<=ch/\o<wr.heap.size/\(∀j,j<8->wr.cell? (zA o j)=some (zI (shaS t k j)))/\ze2 wr w.heap.size (.slice (zx g5) L d) L (pad t)/\zU w wr) (fun _ i _=>ch*64-(intOf i).toNat));(case atStart=>exact⟨0,G7,8,rfl,rfl,Es _,ae.o,ad.o,ab.o,ap.o⟩);(case round=>obtain⟨k,o,c,rfl,rfl,hk,al,ah,a,b⟩:=hrel;have M:=Qf ah;have U:=Qf a;have l:=Qf b;have Q:=Qf al;clear ah a b al;by_cases bj:k<ch;{have e1:64*(k:Int)<(L:Int):=by{have:=f.o;omega};have e2:(64*(k:Int)).toNat=64*k:=by{omega};have e3:(64*(k:Int)+64).toNat=64*k+64:=by{omega};have e4:64*k+64-64*k=64:=by{omega};have e5:IntKind.i64.wrap (64*(k:Int)+64)=64*(k:Int)+64:=by{simp[IntKind.wrap,IntKind.bits,IntKind.signed];omega};have e6:64*(k:Int)+64<=(d:Int):=by{have:=f.o;omega};have e7:0<=64*(k:Int)+64:=by{omega};have e8:0<=64*(k:Int):=by{omega};have e9:64*(k:Int)<=64*(k:Int)+64:=by{omega};have bg:¬d=64*k:=by{have:=f.o;omega};have bc:=U.o.piece (P:=prog) (src:=22) (dst:=9) (64*k) 64 (d-64*k) (by have:=f.o;omega) (zwX t) underlying22 underlying5 underlying9;go_wp2_with fail;refine(ar.o (shaS t k) o c (zgu 64 (zw1 t k)) wr (JT 64 _) Q.o M.o (zoI t k)).mono ?_;rintro e w9 ⟨g9,c9,rfl,ak,I,u,X⟩;rw[zx2]at u;have av:=Qf u;have a1:=Qf (U.o.below X (Ea _));have aq:=Qf (l.o.trans (X.mono l.o.size));have ay:=Qf I;clear u X ak I;go_wp2_with fail;exact⟨⟨k+1,g9,c9,rfl,by go_num,by omega,ay.o,av.o,a1.o,aq.o⟩,by simp[intOf];omega⟩};{have e1:¬64*(k:Int)<(L:Int):=by{have:=f.o;omega};have a2:Hid (shaS t k=shaS t (chunks t.size)):=zh0 (by{rw[<-O.o];congr 1;have:=f.o;omega});go_wp2_with fail;obtain⟨w8,am⟩:∃x,x=wr:=⟨_,rfl⟩;have W:=Qf am;clear am;have aw:=Qf (JR wr wr.heap.size 5 (Ea _));have az:=Qf ((Eb wr.heap.size wr).alloc (Ea _) (.cells #[] 5));(go_loopw [8,9] (fun v i wo=>∃j:Nat,i=zI j/\j<=8/\wo.ownsRow w8.heap.size 5 1 v (4*j) (Zl .u8 (4*j) (fun q=>(ziW (shaS t k) q:Nat))).toList/\zU w8 wo) (fun _ i _=>8-(intOf i).toNat));(case atStart=>refine⟨0,rfl,by omega,?_,?_⟩;{rw[W.o];exact aw.o};{rw[W.o];exact az.o});(case round=>rw[<-W.o]at M U l Q;obtain⟨j,rfl,hj,a,b⟩:=hrel;have ac:=Qf a;have au:=Qf b;by_cases a5:j<8;{obtain⟨x,hx⟩:∃x,x=shaS t k j:=⟨_,rfl⟩;have cs:wr.cell? (zA o j)=some (zI x):=by{rw[b.cell (p:=zA o j) Q.o,M.o j a5,hx]};have lj:(j:Int)<8:=by{omega};have HX:=Qf hx;have bf:w8.heap.size<=wr.heap.size:=b.size;clear hx b a;(go_wp2_with (at_builtin;refine E4 _ rfl _ _ 22 rfl w8.heap.size 5 i0 (.int .u8 0) 1 1 underlying22 hi E F G rfl (by decide) _ _ _ rfl (ac.o.alloc _) (zA wr.heap.size 0) 4 4 [.int .u8 (x/16777216%256),.int .u8 (x/65536%256),.int .u8 (x/256%256),.int .u8 (x%256)] rfl rfl (zum wr _ _ _ _ _) (zrQ _ _ _ _) (by unfold maxLen;omega) (by omega) (by simp;omega) ?_;intro v6 w6 r y _;have K:=Qf (zbe au.o (Ea _) ac.o y);have S:=Qf r;clear r y));go_roundw;(case rel=>refine⟨j+1,by go_num,by omega,?_,K.o⟩;have e:=S.o;rw[zvH (shaS t k) j _ _ _ _ (by rw[HX.o]) (by rw[HX.o]) (by rw[HX.o]) (by rw[HX.o])]at e;rw[show 4*(j+1)=4*j+4 by omega]at e ⊢;exact e);(case measure=>simp[intOf];omega)};{have z:wr.ownsRow w8.heap.size 5 1 u8 32 (Zl .u8 32 (fun q=>(ziW (shaS t k) q:Nat))).toList:=by{have e:j=8:=by{omega};rw[e]at a;exact a};have bd:=zxi (P:=prog) (src:=22) (dst:=9) z (zsn _) underlying22 underlying5 underlying9;have ax:=Qf (l.o.trans (b.mono l.o.size));clear a z b;go_wp2_with fail;go_ret;refine⟨qR ?_,ax.o⟩;rw[a2.o];rfl})})})};{have em:((n:Int)%64==56)=false:=by{simp;omega};have HZ:Hid (0=pad t n):=zh0 (by{rw[zvS t n (by omega) (by rw[<-O.o];omega)]});(go_wp2_with (at_builtin;refine JC rfl _ _ 22 rfl w.heap.size 5 i0 underlying22 hi E F G (.slice (zx g) n a3) n (pad t) rfl (R.o.alloc _) (zA wr.heap.size 0) 1 0 rfl (ziE wr _ _) (by omega) (by have:=C.o.size;simp;omega) ?_;intro v4 w4 ag aj;have aa:=Qf (ag.congr (fun j _=>zqF t n 0 HZ.o j));have ao:=Qf (zmB C.o C.o.size R.o aj);clear ag aj));have⟨g',a9,a8,a4⟩:=aa.o.slice;subst a8;go_roundw;(case rel=>exact⟨n+1,aa.o,by omega,by omega,ao.o⟩);(case measure=>simp;omega)})
open Go.RowKit Go.Sort Go.Proofs
def zeV:∀(x y:List UInt8),Op.bytesLess x y=decide (x<y)
 |[],[]=>by simp[Op.bytesLess]
 |_ :: _,[]=>by simp[Op.bytesLess]
 |[],_ :: _=>by simp[Op.bytesLess]
 |a :: x,b :: y=>by
  rw[Op.bytesLess,zeV x y];simp only[List.cons_lt_cons_iff];by_cases c:a<b<;>by_cases d:a=b<;>simp[c,d]
def clT(T:Nat->zY)(x y:Nat):Bool:=Op.bytesLess (T x).toList (T y).toList
def zii(T:Nat->zY):zAw (clT T) where
 irrefl x:=by simp[clT,zeV,List.lt_irrefl]
 trans x y z h1 h2:=by
  simp only[clT,zeV,Fq]at *;exact List.lt_trans h1 h2
 ntrans x y z h1 h2:=by
  simp only[clT,zeV,Mg,List.not_lt]at *;exact List.le_trans h2 h1
def cfT(T:Nat->zY)(x y:Nat):Int:=if Op.bytesLess (T x).toList (T y).toList=true then -1 else if ((T x).toList==(T y).toList)=true then 0 else 1
def okL(m x:Int):Prop:=0<=x/\x<=m
def within(l:List Int)(m:Int):Bool:=decide (l.length<=257/\∀x∈l,0<=x/\x<=m)
def zb1(h:within l m=true):l.length<=257/\∀x∈l,0<=x/\x<=m:=Fy h
def zrw(a:l.length<=257)(b:∀x∈l,0<=x/\x<=m):within l m=true:=Eu ⟨a,b⟩
def zcM(x:Int):Nat:=if 0<x then 2 ^ (12-x.toNat) else 0
def ziV(l:List Int):Nat:=(l.map zcM).sum
def Qm(l:List Int):Nat:=l.countP fun x=>decide (0<x)
def zaq(h:k<l.length):l.take (k+1)=l.take k++[l[k]]:=Kn h
def zsd(l:List Int)(x:Int):ziV (l++[x])=ziV l+zcM x:=by simp[ziV]
def zg9(l:List Int)(x:Int):Qm (l++[x])=Qm l+if 0<x then 1 else 0:=by simp[Qm,List.countP_append,Ry]
def zpw(h:k<l.length):Qm (l.take (k+1))=Qm (l.take k)+if 0<l[k] then 1 else 0:=by rw[zaq h,zg9]
def znF(l:List Int):Qm l<=l.length:=U6
def zpk:∀l:List Int,Qm l=0->ziV l=0/\∀x∈l,¬0<x:=by intro l;induction l with|nil=>{intro _;exact⟨rfl,fun x a=>by cases a⟩}|cons x l f=>{intro h;simp only[Qm,Ry]at h;have a:¬0<x:=by{intro a;simp[a]at h};have⟨c,d⟩:=f (by simp only[Qm];omega);refine⟨?_,fun y b=>?_⟩;{simp only[ziV,Fz,Kt];simp only[ziV]at c;rw[c,zcM,Ej a]};{rcases Ew.1 b with e|b;{rw[e];exact a};{exact d y b}}}
def Jm(l:List Int):Bool:=within l 12 && decide (ziV l<=4096)
def whole(l:List Int):Bool:=Jm l && (decide (ziV l=4096) || decide (Qm l=1) && decide (ziV l=2048))
def J5(h:Jm l=true):within l 12=true/\ziV l<=4096:=by unfold Jm at h;rw[Fa]at h;exact⟨h.1,Fy h.2⟩
def qp(h:p):Hid p:=h
def zcN(r:Nat):List Int :=
 if r=0 then [] else if r%2=1 then 0 :: zcN ((r-1)/2) else 1 :: zcN ((r-2)/2)
termination_by r
decreasing_by all_goals omega
def zdt:zcN 0=[]:=by rw[zcN];rfl
def zeT{r:Nat}(h:r%2=1):zcN r=0 :: zcN ((r-1)/2):=by rw[zcN,Ej (by omega),Em h]
def zdz{r:Nat}(a:0<r)(h:¬r%2=1):zcN r=1 :: zcN ((r-2)/2):=by rw[zcN,Ej (by omega),Ej h]
def zhL(r:Nat):(zcN r).length<=r:=by induction r using Nat.strongRecOn with|ind r b=>{by_cases c:r=0;{subst c;rw[zdt];exact Ea _};{by_cases a:r%2=1;{rw[zeT a,Fo];have:=b ((r-1)/2) (by omega);omega};{rw[zdz (by omega) a,Fo];have:=b ((r-2)/2) (by omega);omega}}}
def znP(r:Nat):∀x∈zcN r,x=0∨x=1:=by induction r using Nat.strongRecOn with|ind r c=>{intro x a;by_cases d:r=0;{subst d;rw[zdt]at a;cases a};{by_cases b:r%2=1;{rw[zeT b]at a;rcases Ew.1 a with e|a;{exact .inl e};{exact c ((r-1)/2) (by omega) x a}};{rw[zdz (by omega) b]at a;rcases Ew.1 a with e|a;{exact .inr e};{exact c ((r-2)/2) (by omega) x a}}}}
def zyb(l:List Int)(m:Int):Bool:=decide (∀x∈l,0<=x/\x<=m)
def zhS(h:zyb l m=true):∀x∈l,0<=x/\x<=m:=Fy h
def zsa(h:∀x∈l,0<=x/\x<=m):zyb l m=true:=Eu h
def zvZ(a:j<l.length)(h:l[j]<0∨m<l[j]):zyb l m=false:=Eo fun x=>by
 have:=x _ (Ef a)
 omega
def JI(l:List Int)(m:Int):Bool:=decide (l.length<=400) && zyb l m
def zdA(h:JI l m=true):l.length<=400/\zyb l m=true:=by unfold JI at h;rw[Fa]at h;exact⟨Fy h.1,h.2⟩
def zpu(h:400<l.length):JI l m=false:=by unfold JI;rw[Eo (by omega)];rfl
def znx(h:l.length<=400):JI l m=zyb l m:=by unfold JI;rw[Eu h];rfl
def zv3(s:List Int × Nat)(n:Int):List Int × Nat:=if n=0 then (s.1,s.2+1) else (s.1++zcN s.2++[n+1],0)
def zst(l:List Int):List Int × Nat:=l.foldl zv3 ([],0)
def zmR(h:k<l.length):zst (l.take (k+1))=zv3 (zst (l.take k)) l[k]:=by unfold zst;rw[zaq h,Lv];rfl
def zeN(h:k<l.length)(a:l[k]=0):zst (l.take (k+1))=((zst (l.take k)).1,(zst (l.take k)).2+1):=by rw[zmR h,zv3,Em a]
def zdj(h:k<l.length)(a:¬l[k]=0):zst (l.take (k+1))=((zst (l.take k)).1++zcN (zst (l.take k)).2++[l[k]+1],0):=by rw[zmR h,zv3,Ej a]
def zqZ(l:List Int):(zst l).1.length+(zst l).2<=l.length:=by suffices h:∀k,k<=l.length->(zst (l.take k)).1.length+(zst (l.take k)).2<=k by{have:=h l.length (Ea _);rwa[Kw]at this};intro k;induction k with|zero=>{intro _;simp[zst]}|succ k c=>{intro b;have:=c (by omega);by_cases a:l[k]=0;{rw[zeN b a];simp only;omega};{rw[zdj b a];have d:=zhL (zst (l.take k)).2;simp only[Ee,Fo,Lc];omega}}
def za8(l:List Int):List Int:=if JI l 255=true then (zst l).1++zcN (zst l).2 else []
def zdM(h:JI l 255=true):za8 l=(zst l).1++zcN (zst l).2:=Em h
def zjr(h:JI l 255=false):za8 l=[]:=Ej (by rw[h];decide)
def zdS(l:List Int):(za8 l).length<=l.length:=by unfold za8;split;{rw[Ee];have:=zqZ l;have:=zhL (zst l).2;omega};{exact Es _}
def zl3(s:List Int × Nat)(n:Int):List Int × Nat:=if 1<n then (s.1++[n-1],1) else (s.1++List.replicate ((n.toNat+1)*s.2) 0,s.2*2)
def bst(l:List Int):List Int × Nat:=l.foldl zl3 ([],1)
def zyJ(l:List Int):List Int:=if JI l 256=true/\(bst l).1.length<=400 then (bst l).1 else []
def zrN(h:JI l 256=true)(a:(bst l).1.length<=400):zyJ l=(bst l).1:=Em ⟨h,a⟩
def zud(h:JI l 256=false):zyJ l=[]:=Ej fun x=>by rw[h]at x;exact absurd x.1 (by decide)
def zBK(w:zW)(a:Option Addr)(len cap:Nat)(zs:List Int):Prop :=
 (a=none/\len=0/\cap=0/\zs=[]) ∨
 ∃x,a=some x/\len<=cap/\cap<=maxLen/\zs.length=cap/\(∀i,i<zs.length->w.cell? (x.add i)=some (.int .i64 (zs.getD i 0)))/\∀n∈zs,(Lit.int .i64 n).wf=true
def Wf(l:List Int):Prop:=∀n∈l,-9223372036854775808<=n/\n<=9223372036854775807
open Go.RowKit Go.Shelf
open Go.Sort (grow putRow)
shelf_lay_g SlLaysN.n53 Slgn 53 at Tryz 96 as Tryz.sortI
def zvL(a:Nat)(v:Value)(l:List Int)(w:zW)(h:zH w a v l)(u:l.length<=1048576): Calls prog 96 #[v] w fun e w'=>e=.returned (.tuple #[])/\zH w' a v (QR l)/\∀B,B<=a->B<=w.heap.size->RowKit.Below B w w':=by obtain⟨t,h⟩:=h;rcases h with⟨rfl,j⟩|⟨g,c,i,rfl,b,f,m,o,p,q⟩;{obtain rfl:=Fv j;refine(AnyG.slices_Sort_int_none Tryz.sortI none 0 w).mono ?_;rintro e w' ⟨rfl,rfl⟩;exact⟨rfl,by rw[zjs];exact zH.nil _ _,fun _ _ _=>RowKit.Below.refl _ _⟩};{refine(AnyG.slices_Sort_int Tryz.sortI g 0 c l w (holds_of_blockI f (by simpa using q)) (Fd.1 f).1 (by omega)).mono ?_;rintro e w' ⟨rfl,n,os,rfl⟩;refine⟨rfl,?_,fun B s d=>(RowKit.Below.refl B w).grown (grownBy_sortedI _) d (fun k r=>by cases r;omega)⟩;have:=ownsRow_sortedI (n:=n) (os:=os) (ss:=l) (ts:=QR l) (Qv l) b f m o p;unfold zH;rw[Qv];exact this}
def fib:Nat->Nat
 |0=>0
 |1=>1
 |n+2=>fib n+fib (n+1)
def zzM(n:Nat):fib n<=fib (n+1):=by cases n with|zero=>{decide}|succ n=>{rw[show fib (n+1+1)=fib n+fib (n+1) from rfl];omega}
def zu0{m:Nat}(h:m<=n):fib m<=fib n:=by induction n with|zero=>{have:m=0:=by{omega};rw[this];exact Ea _}|succ n b=>{by_cases a:m=n+1;{rw[a];exact Ea _};{exact Fb (b (by omega)) (zzM n)}}
def dep(d:List Nat)(s:Nat):Nat:=d.getD s 0
def sep(d:List Nat)(t u:Tree):Prop:=(∀s∈t.2,fib (dep d s+1)<=u.1)/\(∀s∈u.2,fib (dep d s+1)<=t.1)/\∀s∈t.2,s ∉ u.2
def zvm{t u:Tree}(h:sep d t u):sep d u t:=⟨h.2.1,h.1,fun s a b=>h.2.2 s b a⟩
structure Inv (l:List Tree) (d:List Nat) (n:Nat):Prop where
 own:∀t∈l,∀s∈t.2,fib (dep d s+2)<=t.1
 nd:∀t∈l,t.2.Nodup
 lt:∀t∈l,∀s∈t.2,s<d.length
 pw:l.Pairwise (sep d)
 sum:(l.map (·.1)).sum=n
 o:∀s,(∀t∈l,s ∉ t.2)->dep d s=0
def Inv.perm{l b:List Tree}(h:Inv l d n)(p:l.Perm b):Inv b d n :=
 ⟨fun t a=>h.own t (p.mem_iff.2 a),fun t a=>h.nd t (p.mem_iff.2 a),fun t a=>h.lt t (p.mem_iff.2 a),(p.pairwise_iff zvm).1 h.pw,(p.map _).sum_nat.symm.trans h.sum,fun s c=>h.o s fun t a=>c t (p.mem_iff.1 a)⟩
def zs1(l:List Tree)(h:0<l.length):first l=l[least l l.length]'(zdv l h):=by (unfold first at0);rw[El,Eg (zdv l h)];rfl
def zgL:∀(l:List Tree) (i:Nat) (h:i<l.length),l.Perm (l[i] :: l.eraseIdx i)
 |[],i,h=>absurd h (Ko i)
 |_ :: _,0,_=>List.Perm.refl _
 |x :: l,i+1,h=>((zgL l i (L0 h)).cons x).trans (List.Perm.swap _ _ _)
def zr5:∀(l:List Nat) (x:Nat),x∈l->x<=l.sum
 |[],x,h=>absurd h (Ev)
 |y :: l,x,h=>by
  rw[Kt]
  rcases Ew.1 h with rfl|h
  ·omega
  ·have:=zr5 l x h
   omega
def zd0(l:List Tree)(h:0<l.length):l.Perm (first l :: zeG l):=by rw[zs1 l h];exact zgL l _ (zdv l h)
def zkz(l:List Tree)(t:Tree)(b:t∈l):(first l).1<=t.1:=by obtain⟨j,a,rfl⟩:=Ff b;have:=zj5 l l.length j a;unfold wt at this;rw[show (l.getD j (0,[]))=l[j] by rw[El,Eg a];rfl]at this;exact this
def Jo(l:List Tree)(h:2<=l.length):l.Perm (first l :: second l :: zlD l) :=
 (zd0 l (by omega)).trans ((zd0 (zeG l) (by rw[Jd l (by omega)];omega)).cons _)
def zbF(l:List Tree):(ZI l).Perm (both l :: zlD l):=Ru
def zp8(d a b:List Nat)(g:a.Nodup)(i:b.Nodup)(f:∀s∈a,s ∉ b)(l:∀s∈a,s<d.length)(lb:∀s∈b,s<d.length)(s:Nat):dep (Qk (Qk d a) b) s=if s∈a++b then dep d s+1 else dep d s:=by unfold dep;rw[zr0 b _ s i (fun k j=>by rw[jY];exact lb k j),zr0 a d s g l];by_cases c:s∈a;{rw[Ej (f s c),Em c,Em (Nk _ c)]};{by_cases e:s∈b;{rw[Em e,Ej c,Em (M8 _ e)]};{rw[Ej e,Ej c,Ej (fun h=>by rcases Fl.1 h with h|h;exact c h;exact e h)]}}
def Inv.two{a b:Tree}{r:List Tree}(h:Inv (a :: b :: r) d n)(C:∀c∈r,a.1<=c.1/\b.1<=c.1):Inv ((a.1+b.1,a.2++b.2) :: r) (Qk (Qk d a.2) b.2) n:=by have p:a∈a :: b :: r:=Fn ..;have q:b∈a :: b :: r:=Ex _ (Fn ..);have z:∀c∈r,c∈a :: b :: r:=fun c j=>Ex _ (Ex _ j);have⟨v,B⟩:=Ky.1 h.pw;have⟨D,I⟩:=Ky.1 B;have l:=v b (Fn ..);have hd:=zp8 d a.2 b.2 (h.nd a p) (h.nd b q) l.2.2 (h.lt a p) (h.lt b q);have u:(Qk (Qk d a.2) b.2).length=d.length:=by{rw[jY,jY]};have i:∀c∈r,∀s∈c.2,dep (Qk (Qk d a.2) b.2) s=dep d s:=fun c j s f=>by{rw[hd,Ej];intro o;rcases Fl.1 o with o|o;{exact(v c (Ex _ j)).2.2 s o f};{exact(D c j).2.2 s o f}};refine⟨?_,?_,?_,?_,?_,?_⟩;{intro t g s f;rcases Ew.1 g with rfl|g;{rw[hd,Em f,show fib (dep d s+1+2)=fib (dep d s+1)+fib (dep d s+2) from rfl];show _<=a.1+b.1;rcases Fl.1 f with f|f;{have F:=l.1 s f;have G:=h.own a p s f;omega};{have F:=l.2.1 s f;have G:=h.own b q s f;omega}};{rw[i t g s f];exact h.own t (z t g) s f}};{intro t g;rcases Ew.1 g with rfl|g;{exact List.nodup_append.2 ⟨h.nd a p,h.nd b q,fun x o y H e=>l.2.2 x o (e ▸ H)⟩};{exact h.nd t (z t g)}};{intro t g s f;rw[u];rcases Ew.1 g with rfl|g;{rcases Fl.1 f with f|f;{exact h.lt a p s f};{exact h.lt b q s f}};{exact h.lt t (z t g) s f}};{refine Ky.2 ⟨fun c j=>⟨?_,?_,?_⟩,?_⟩;{intro s f;rw[hd,Em f];rcases Fl.1 f with f|f;{exact Fb (h.own a p s f) (C c j).1};{exact Fb (h.own b q s f) (C c j).2}};{intro s f;rw[i c j s f];have:=(v c (Ex _ j)).2.1 s f;show _<=a.1+b.1;omega};{intro s f k;rcases Fl.1 f with f|f;{exact(v c (Ex _ j)).2.2 s f k};{exact(D c j).2.2 s f k}};{refine List.Pairwise.imp_of_mem ?_ I;intro c E j k f;refine⟨fun s x=>?_,fun s x=>?_,f.2.2⟩;{rw[i c j s x];exact f.1 s x};{rw[i E k s x];exact f.2.1 s x}}};{have:=h.sum;simp only[Fz,Kt]at this ⊢;omega};{intro s f;have w:=f _ (Fn ..);rw[hd,Ej w];refine h.o s fun t g m=>?_;rcases Ew.1 g with rfl|g;{exact w (Nk _ m)};{rcases Ew.1 g with rfl|g;{exact w (M8 _ m)};{exact f t (Ex _ g) m}}}
def Inv.join{l:List Tree}(h:Inv l d n)(a:2<=l.length):Inv (ZI l) (Qk (Qk d (first l).2) (second l).2) n:=by refine Inv.perm (Inv.two (h.perm (Jo l a)) fun c b=>⟨?_,?_⟩) (zbF l).symm;{exact zkz l c ((Jo l a).mem_iff.2 (Ex _ (Ex _ b)))};{refine zkz (zeG l) c ?_;have e:=zd0 (zeG l) (by rw[Jd l (by omega)];omega);exact e.mem_iff.2 (Ex _ b)}
def Inv.bound{l:List Tree}(h:Inv l d n)(s:Nat):dep d s=0∨fib (dep d s+2)<=n:=by by_cases c:∀t∈l,s ∉ t.2;{exact .inl (h.o s c)};{refine .inr ?_;obtain⟨t,f⟩:∃t,¬(t∈l->s ∉ t.2):=Classical.not_forall.1 c;obtain⟨b,a⟩:t∈l/\s∈t.2:=⟨Ly fun e=>f fun h=>absurd h e,Ly fun e=>f fun _=>e⟩;refine Fb (h.own t b s a) ?_;rw[<-h.sum];exact zr5 _ _ (Fj.2 ⟨t,b,rfl⟩)}
def zjg(f:Nat):∀(l:List Tree) (d:List Nat) (n:Nat),Inv l d n->∀s,dep (Z0 f l d) s=0∨fib (dep (Z0 f l d) s+2)<=n:=by induction f with|zero=>{intro l d n h s;exact h.bound s}|succ f a=>{intro l d n h s;rw[Z0];split;{exact h.bound s};{exact a _ _ _ (h.join (by omega)) s}}
def zpy(f:Nat):∀(l:List Tree) (d:List Nat),(Z0 f l d).length=d.length:=by induction f with|zero=>{intro l d;rfl}|succ f a=>{intro l d;rw[Z0];split;{rfl};{rw[a,jY,jY]}}
def trees(c:List Nat):Nat->List Tree
 |0=>[]
 |i+1=>if 0<c.getD i 0 then trees c i++[(c.getD i 0,[i])] else trees c i
def zet(c:List Nat):∀i,(trees c i).length<=i
 |0=>Ea _
 |i+1=>by
  rw[trees]
  have:=zet c i
  split
  ·rw[Ee]
   simp;exact this
  ·omega
def Qi(c:List Nat):∀i t,t∈trees c i->∃j,j<i/\0<c.getD j 0/\t=(c.getD j 0,[j])
 |0,t,h=>absurd h (Ev)
 |i+1,t,h=>by
  rw[trees]at h
  split at h
  ·rcases Fl.1 h with h|h
   ·have⟨j,b,a⟩:=Qi c i t h
    exact⟨j,by omega,a⟩
   ·exact⟨i,by omega,by assumption,Ek.1 h⟩
  ·have⟨j,b,a⟩:=Qi c i t h
   exact⟨j,by omega,a⟩
def Zm(n:Nat):List Nat:=List.replicate n 0
def ZK(n s:Nat):dep (Zm n) s=0:=by unfold dep Zm;rw[El,List.getElem?_replicate];split<;>rfl
def zt8(c:List Nat)(i:Nat)(h:i<c.length):(c.take (i+1)).sum=(c.take i).sum+c.getD i 0:=by rw[Me,Eg h,Sm,El,Eg h];simp
def zdD(c:List Nat):∀i,i<=c.length->Inv (trees c i) (Zm c.length) (c.take i).sum
 |0,_=>⟨fun t h=>absurd h (Ev),fun t h=>absurd h (Ev),fun t h=>absurd h (Ev),List.Pairwise.nil,rfl,fun s _=>ZK _ _⟩
 |i+1,h=>by
  have k:=zdD c i (by omega);rw[zt8 c i (by omega),trees];by_cases b:0<c.getD i 0
  ·rw[Em b]
   refine⟨?_,?_,?_,?_,?_,fun s _=>ZK _ _⟩
   ·intro t a s e
    rw[ZK];obtain⟨j,_,d,rfl⟩:=Qi c (i+1) t (by rw[trees,Em b];exact a);exact d
   ·intro t a
    obtain⟨j,_,d,rfl⟩:=Qi c (i+1) t (by rw[trees,Em b];exact a);simp
   ·intro t a s e
    obtain⟨j,f,d,rfl⟩:=Qi c (i+1) t (by rw[trees,Em b];exact a);rw[Ek.1 e,show (Zm c.length).length=c.length from Mt ..];omega
   ·refine Lh.2 ⟨k.pw,Mz _ _,fun t a u l=>?_⟩
    obtain⟨j,f,d,rfl⟩:=Qi c i t a;rw[Ek.1 l];refine⟨fun s _=>?_,fun s _=>?_,fun s e g=>?_⟩
    ·rw[ZK]
     exact b
    ·rw[ZK]
     exact d
    ·have m:=Ek.1 e
     have n:=Ek.1 g;omega
   ·rw[Fe,Sm,k.sum]
    simp
  ·rw[Ej b,show c.getD i 0=0 by omega]
   exact k
def qh(c:List Nat):List Nat :=
 if (trees c c.length).length=1 then (Zm c.length).set ((at0 (trees c c.length) 0).2.getD 0 0) 1 else Z0 (trees c c.length).length (trees c c.length) (Zm c.length)
def jV(c:List Nat):(qh c).length=c.length:=by unfold qh;split;{rw[Fu];exact Mt ..};{rw[zpy];exact Mt ..}
def zkT(c:List Nat)(s:Nat):dep (qh c) s<=1∨fib (dep (qh c) s+2)<=c.sum:=by unfold qh;split;{refine .inl ?_;unfold dep;rw[El,Md];split;{split;{exact Ea _};{exact Es _}};{have:=ZK c.length s;unfold dep at this;rw[El]at this;omega}};{have h:=zdD c c.length (Ea _);rw[Kw]at h;rcases zjg (trees c c.length).length _ _ _ h s with h|h;{exact .inl (by omega)};{exact .inr h}}
def zin(d:List Nat):Bool:=d.all (fun x=>decide (x<=12))
def zw7(c:List Nat)(m:Nat)(h:∀x∈c,x<=m):c.sum<=m*c.length:=by induction c with|nil=>{simp}|cons x c b=>{have d:=b fun y a=>h y (Ex _ a);have e:=h x (Fn ..);rw[Kt,Fo,Uh];omega}
def zpb(c:List Nat)(h:∀x∈c,x<=2)(g:c.length<=257):zin (qh c)=true:=by unfold zin;rw[L6];intro x f;obtain⟨j,e,rfl⟩:=Ff f;have hd:dep (qh c) j=(qh c)[j]:=by{unfold dep;rw[El,Eg e];rfl};have i:=zw7 c 2 h;rw[<-hd];rcases zkT c j with a|a;{exact Eu (by omega)};{refine Eu (Ps fun b=>?_);have d:=zu0 (show 15<=dep (qh c) j+2 by omega);rw[show fib 15=610 from rfl]at d;omega}
def flat(c:List Nat):List Nat:=c.map fun x=>if 0<x then x/2+1 else 0
def jM(c:List Nat):(flat c).length=c.length:=by unfold flat;rw[Et]
def zys(c:List Nat):(flat c).sum<=c.sum:=by unfold flat;induction c with|nil=>{exact Ea _}|cons x c a=>{rw[Fz,Kt,Kt];split<;>omega}
def zxa(c:List Nat)(h:∃x∈c,3<=x):(flat c).sum<c.sum:=by induction c with|nil=>{obtain⟨x,f,_⟩:=h;cases f}|cons x c d=>{have a:=zys c;unfold flat at a d ⊢;rw[Fz,Kt,Kt];obtain⟨y,b,e⟩:=h;rcases Ew.1 b with rfl|b;{rw[Em (by omega)];omega};{have:=d ⟨y,b,e⟩;split<;>omega}}
def zbN(c:List Nat)(b:c.length<=257)(h:¬zin (qh c)=true):(flat c).sum<c.sum:=by refine zxa c (Ly fun d=>h (zpb c (fun x e=>?_) b));refine Ps fun a=>d ⟨x,e,a⟩
def ofN:Nat->List Nat->List Nat
 |0,c=>qh c
 |f+1,c=>if zin (qh c)=true then qh c else ofN f (flat c)
def zvM(f:Nat):∀(c:List Nat) (g:Nat),c.length<=257->c.sum<=f->c.sum<=g->ofN f c=ofN g c:=by induction f with|zero=>{intro c g a b _;have e:zin (qh c)=true:=Ly fun h=>by{have:=zbN c a h;omega};cases g with|zero=>{rfl}|succ g=>{rw[ofN,ofN,Em e]}}|succ f i=>{intro c g a b j;rw[ofN];by_cases h:zin (qh c)=true;{rw[Em h];cases g with|zero=>{rfl}|succ g=>{rw[ofN,Em h]}};{have d:=zbN c a h;rw[Ej h];cases g with|zero=>{omega}|succ g=>{rw[ofN,Ej h];exact i (flat c) g (by rw[jM];exact a) (by omega) (by omega)}}}
def lenOf(c:List Nat):List Nat:=ofN c.sum c
def zj3(c:List Nat)(h:zin (qh c)=true):lenOf c=qh c:=by unfold lenOf;cases c.sum with|zero=>{rfl}|succ f=>{rw[ofN,Em h]}
def zn8(c:List Nat)(a:c.length<=257)(h:¬zin (qh c)=true):lenOf c=lenOf (flat c):=by have d:=zbN c a h;unfold lenOf;obtain⟨f,b⟩:∃f,c.sum=f+1:=⟨c.sum-1,by omega⟩;rw[b,ofN,Ej h];exact zvM f (flat c) _ (by rw[jM];exact a) (by omega) (Ea _)
def zJ(h:p):Hid p:=h
abbrev MT:=Tree × Value
def qM:List MT->List Value
 |[]=>[]
 |x :: m=>.int .i64 (x.1.1:Nat) :: x.2 :: qM m
def zer:∀m k:List MT,qM (m++k)=qM m++qM k
 |[],k=>rfl
 |x :: m,k=>by
  rw[Mo,qM,qM,zer m k];rfl
def zm3:∀(m:List MT) (i:Nat) (h:i<m.length),(qM m)[i*2]?=some (zI (m[i].1.1:Nat))/\(qM m)[i*2+1]?=some m[i].2
 |x :: m,0,_=>⟨rfl,rfl⟩
 |x :: m,i+1,h=>by
  have:=zm3 m i (L0 h)
  rw[qM,show (i+1)*2=i*2+2 by omega,show i*2+2+1=(i*2+1)+2 by omega];exact this
def Sym(W:zW)(v:Value)(s:List Nat):Prop :=
 ∃g cap cur,v=.slice (zx g) s.length cap/\W.heap[g]?=some (.cells cur 3 (0,0))/\s.length<=cap/\∀j (h:j<s.length),cur[j]?=some (.int .i64 (s[j]:Nat))
def Q5(W W':zW):Prop:=∀(g:Nat) (cur:Array Value),W.heap[g]?=some (.cells cur 3 (0,0))->W'.heap[g]?=some (.cells cur 3 (0,0))
def Q5.trans{a:zW}(h:Q5 W W')(k:Q5 W' a):Q5 W a:=fun g b e=>k g b (h g b e)
def zhj{o:Obj}(h:w.heap[g]?=some o):g<w.heap.size:=(Fd.1 h).1
def Q5.below(h:zU W W'):Q5 W W':=fun g _ e=>(h.block g (zhj e)).trans e
def Sym.keeps{s:List Nat}(h:Sym W v s)(k:Q5 W W'):Sym W' v s:=by obtain⟨g,b,a,e,d,c⟩:=h;exact⟨g,b,a,e,k g a d,c⟩
def zlj(W:zW)(e:TypeId)(base:Nat)(v:Value)(m:List MT):Prop:=W.ownsRow base e 2 v m.length (qM m)
def zpP(W:zW)(m:List MT):Prop:=∀x∈m,Sym W x.2 x.1.2
theorem zpP.keeps{m:List MT}(h:zpP W m)(k:Q5 W W'):zpP W' m:=fun x a=>(h x a).keeps k
def zj0{a:Array Value}{m:List MT}(c:W.heap[g]?=some (.cells a e (0,0)))(f:a.toList.take (m.length*2)=qM m)(i:Nat)(d:i<m.length): W.cell? (zA g (i*2))=some (zI (m[i].1.1:Nat))/\W.cell? (zA g (i*2+1))=some m[i].2:=by have b:=zm3 m i d;rw[<-f]at b;rw[Fi (by omega),Fi (by omega),E6,E6]at b;exact⟨(Ed W g _ _ _ _ c).trans b.1,(Ed W g _ _ _ _ c).trans b.2⟩
def qj(m:List MT):List Tree:=m.map (·.1)
def Zi(m:List MT):(qj m).length=m.length:=Et ..
def zzS(m:List MT)(i:Nat)(h:i<m.length):wt (qj m) i=m[i].1.1:=by unfold wt qj;rw[El,Ke,Eg h];rfl
structure Cut (cl:Nat->Nat->Bool) (a m b mid s e:Nat) (f:Nat->Nat):Prop where
 lo0:a<=s
 smid:s<=mid
 mide:mid<=e
 eb:e<=b
 sm:s<=m
 me:m<=e
 sum:s+e=mid+m
 low:a<s->e<b->lx cl (f (s-1)) (f e)
 high:s<m->m<e->lx cl (f (e-1)) (f s)
section
variable {cl:Nat → Nat → Bool} {a m b mid s e:Nat} {f:Nat → Nat}
end
def Ch(cl:Nat->Nat->Bool)(a b:Nat)(f:Nat->Nat):Prop:=zzp cl a b f/\∀i,a<=i->i<b->a<=f i/\f i<b
section
variable {cl:Nat → Nat → Bool} {a m b:Nat} {f g:Nat → Nat}
end
def Chs(cl:Nat->Nat->Bool)(bs n lo hi:Nat)(f:Nat->Nat):Prop:=∀c,lo<=bs*c->bs*c<hi->Ch cl (bs*c) (min (bs*c+bs) n) f
section
variable {cl:Nat → Nat → Bool} {bs n k:Nat} {f g:Nat → Nat}
end
open Go.RowKit Go.Sort Go.Proofs
def clI(t:zY)(x y:Nat):Bool:=decide (bt t x<bt t y)
def cfI(t:zY)(x y:Nat):Int:=if bt t x<bt t y then -1 else if bt t y<bt t x then 1 else 0
def Cap(w:zW)(c:Nat)(t:zY):Prop:=w.cell? ⟨c,0,none⟩=some (.string t)
def ql(h:p):Hid p:=h
def Row(w:zW)(B:Nat)(a:Option Addr)(len:Nat):Prop :=
 len=0∨∃b off,a=some (zA b off)/\b<B/\∀i,i<len->∃z:Int,w.cell? (zA b (off+i))=some (.int .u8 z)/\0<=z/\z<=255
def Src(w:zW)(B:Nat)(a:Option Addr)(len cap:Nat):Prop :=
 Row w B a len/\∃at_ mix size:Int,w.heap[B]?=some (.cells #[.slice a len cap,.int .i64 at_,.int .u64 mix,.int .i64 size] 111 (0,0)) /\
  0<=at_/\at_<=len/\0<=mix/\mix<=18446744073709551615/\0<=size/\size<=12
def Q8(x:Int):0<=IntKind.u64.wrap x/\IntKind.u64.wrap x<=18446744073709551615:=by rw[Mx];omega
def zwI(x y:Int)(a:0<=x)(c:x<=18446744073709551615)(b:0<=y)(d:y<=18446744073709551615): 0<=bits BinOp.xor IntKind.u64 x y/\bits BinOp.xor IntKind.u64 x y<=18446744073709551615:=by obtain⟨m,rfl⟩:=Er a;obtain⟨n,rfl⟩:=Er b;rw[Vn m n (by omega) (by omega)];have:=Nat.xor_lt_two_pow (n:=64) (x:=m) (y:=n) (by omega) (by omega);omega
def sc1{p:Addr}(h:W.cell? p=some x)(v:Value):(W.setCell p v).cell? p=some v:=by exact Uj W p v h
def sc2{p:Addr}(h:W.cell? p=some x)(v a:Value):((W.setCell p v).setCell p a).cell? p=some a:=sc1 (sc1 h v) a
def sc3{p:Addr}(h:W.cell? p=some x)(v b a:Value):(((W.setCell p v).setCell p b).setCell p a).cell? p=some a:=sc1 (sc2 h v b) a
def zba(B:Nat)(w w':zW):Prop:=w'.os=w.os/\w'.tape=w.tape/\w'.output=w.output/\w'.heap.size=w.heap.size/\∀k,k≠B->w'.heap[k]?=w.heap[k]?
def zba.refl(B:Nat)(w:zW):zba B w w:=⟨rfl,rfl,rfl,rfl,fun _ _=>rfl⟩
theorem zba.drew(h:zba B w w'):zba B w w'.drew:=h
theorem zba.drewN(w:zW)(n:Nat):zba B w (w.drewN n):=⟨rfl,rfl,rfl,rfl,fun _ _=>rfl⟩
def zba.set(h:zba B w w')(o:Nat)(v:Value):zba B w (zw w' B o v) :=
 ⟨h.1,h.2.1,h.2.2.1,by simpa [World.setCell] using h.2.2.2.1,fun k a=>(Ei w' (zA B o) k v a).trans (h.2.2.2.2 k a)⟩
def zba.trans{a b c:zW}(h:zba B a b)(k:zba B b c):zba B a c :=
 ⟨k.1.trans h.1,k.2.1.trans h.2.1,k.2.2.1.trans h.2.2.1,k.2.2.2.1.trans h.2.2.2.1,fun i d=>(k.2.2.2.2 i d).trans (h.2.2.2.2 i d)⟩
def zba.below{C:Nat}(a:Below C w0 w)(h:zba B w w')(b:C<=B):Below C w0 w' :=
 a.trans ⟨h.1,h.2.1,h.2.2.1,by rw[h.2.2.2.1];exact Ea _,fun k c=>h.2.2.2.2 k (by omega)⟩
def zba.row{a:Option Addr}{len:Nat}(h:zba B w w')(l:Row w B a len):Row w' B a len:=by rcases l with e|⟨b,c,rfl,d,j⟩;{exact .inl e};{refine .inr ⟨b,c,rfl,d,fun i k=>?_⟩;have⟨z,m,f,g⟩:=j i k;exact⟨z,(Mi (w:=w) (a:=zA b (c+i)) (h.2.2.2.2 b (Vm d))).trans m,f,g⟩}
def znY(y JZ:Int)(a:0<=y)(d:1<JZ)(e:JZ<=9223372036854775807):0<=wrap64 (y.tmod JZ)/\wrap64 (y.tmod JZ)<JZ:=by rw[K9 a];have b:=Nr y (show JZ≠0 by omega);have c:=Mv y (show 0<JZ by omega);simp only[wrap64];omega
def zr1{a:Option Addr}{len d:Nat}{b size:Int}(l:Row w B a len)(k:zba B w w')
  (j:w'.heap[B]?=some (.cells #[.slice a len d,.int .i64 b,.int .u64 c,.int .i64 size] 111 (0,0)))
  (f:0<=b) (g:b<=len) (e:0<=c/\c<=18446744073709551615) (h:0<=size) (i:size<=12):Src w' B a len d :=
 ⟨k.row l,b,c,size,j,f,g,e.1,e.2,h,i⟩
def zcR{a c:Value}(h:W.heap[B]?=some (.cells #[x0,a,c,b] T (0,0)))(v:Value): (zw W B 2 v).heap[B]?=some (.cells #[x0,a,v,b] T (0,0)):=by rw[En W B 2 _ T v h];rfl
def zna{c a:Value}(h:W.heap[B]?=some (.cells #[x0,c,a,b] T (0,0)))(v:Value): (zw W B 1 v).heap[B]?=some (.cells #[x0,v,a,b] T (0,0)):=by rw[En W B 1 _ T v h];rfl
def zu5(m:Int)(h:0<=m/\m<=18446744073709551615)(y:Int):0<=bits BinOp.xor IntKind.u64 m (IntKind.u64.wrap y)/\bits BinOp.xor IntKind.u64 m (IntKind.u64.wrap y)<=18446744073709551615 :=
 zwI m _ h.1 h.2 (Q8 y).1 (Q8 y).2
def zzB(m:Int)(h:0<=m/\m<=18446744073709551615):0<=bits BinOp.xor IntKind.u64 m (m/128)/\bits BinOp.xor IntKind.u64 m (m/128)<=18446744073709551615 :=
 zwI m _ h.1 h.2 (by omega) (by omega)
def zAl(B:Nat)(a:Option Addr)(len d:Nat)(JZ c b size:Int)(w:zW)(k:1<JZ)(h:JZ<=9223372036854775807)(l:Row w B a len)(g:w.heap[B]?=some (.cells #[.slice a len d,zI c,.int .u64 b,zI size] 111 (0,0)))(s:0<=c)(G:¬c<len)(j:c<=len)(t:0<=b)(u:b<=18446744073709551615)(v:0<=size)(y:size<=12): Calls prog 37 #[.pointer (zx B),zI JZ] w fun e w'=>∃r,e=.returned (zI r)/\0<=r/\r<JZ/\Src w' B a len d/\zba B w w':=by have E:w.cell? (zA B 0)=some (.slice a len d):=by{rw[Ed w B 0 _ _ _ g];rfl};have F:w.cell? (zA B 1)=some (zI c):=by{rw[Ed w B 1 _ _ _ g];rfl};have i:w.cell? (zA B 2)=some (.int .u64 b):=by{rw[Ed w B 2 _ _ _ g];rfl};have f:=fun o=>Ec w B o _ _ g;have m:=ql g;have q:=ql l;clear g l;have H:=fun n=>sc1 (W:=w.drewN n) (p:=zA B 2) (x:=.int .u64 b) (by simpa using i);have I:=fun n=>sc2 (W:=w.drewN n) (p:=zA B 2) (x:=.int .u64 b) (by simpa using i);have K:=fun n=>sc3 (W:=w.drewN n) (p:=zA B 2) (x:=.int .u64 b) (by simpa using i);go_enter func37,ntmps37;go_wp2;(go_quiet (fail));go_wp2;(go_region);go_wp2;(go_region);go_wp2;(go_region);go_wp2;go_ret;have z:=zu5 b ⟨t,u⟩ (b*8192);have C:=zzB _ z;have D:=zu5 _ C (bits BinOp.xor IntKind.u64 (bits BinOp.xor IntKind.u64 b (IntKind.u64.wrap (b*8192))) (bits BinOp.xor IntKind.u64 b (IntKind.u64.wrap (b*8192))/128)*131072);exact⟨_,rfl,(znY _ JZ (Q8 _).1 k h).1,(znY _ JZ (Q8 _).1 k h).2,zr1 q.o ((((zba.drewN w _).set 2 _).set 2 _).set 2 _).drew.drew (zcR (zcR (zcR (W:=w.drewN _) m.o _) _) _) s j D v y,((((zba.drewN w _).set 2 _).set 2 _).set 2 _).drew.drew⟩
def zCR(l:List Int):Int × Int:=if Jm l=true then ((ziV l:Nat),(Qm l:Nat)) else (-1,0)
open Go
open Go.Sort (grow grow_empty)
def upS(P:Program)(C:zW->Prop)(w:zW)(K:Value->zW->Prop):Result Next->Prop
 |.ok (.value u) w'=>C w'/\K u w'
 |.ok .skip w'=>C w'/\K undef w'
 |.ok (.enter f args) w'=>w'=w/\Calls P f args w (fun e w''=>∃v,e=.returned v/\C w''/\K v w'')
 |_=>False
def ziN{K a:Value->zW->Prop}(h:∀v w',C w'->K v w'->a v w'):∀{r:Result Next},upS P C w K r->upS P C w a r
 |.ok (.value _) _,⟨e,k⟩=>⟨e,h _ _ e k⟩
 |.ok .skip _,⟨e,k⟩=>⟨e,h _ _ e k⟩
 |.ok (.enter _ _) _,⟨e,k⟩=>⟨e,k.mono fun _ _ ⟨v,c,b,d⟩=>⟨v,c,b,h _ _ b d⟩⟩
def zbH(P:Program)(ops:Array Oper)(C:zW->Prop)(i:Nat)(K:Act->zW->Prop)(a:Act)(w:zW):Prop :=
 match ops[i]? with
 |none=>K a w
 |some o=>if Region.wanted o (yielded ops a.tmps) then upS P C w (fun v w'=>K (a.put o.dst v) w') ((execOp a.eval o).run P w) else K (a.put o.dst undef) w
def zoj{d:Array Oper}{e:Act->zW->Prop}(f:C w)(h:∀a w',C w'->K a w'->e a w')(c:zbH P d C i K a w):zbH P d C i e a w:=by unfold zbH at *;split at c;{exact h _ _ f c};{split;{rename_i b;rw[Em b]at c;exact ziN (C:=C) (fun v w' g k=>h _ w' g k) c};{rename_i b;rw[Ej b]at c;exact h _ _ f c}}
def wpS(P:Program)(md:Region.Mode)(ops:Array Oper)(C:zW->Prop)(Q:Act->zW->Prop):Nat->Array Bool->Act->zW->Prop
 |0,listed,a,w=>Region.ready md ops listed=[]/\Q a w
 |n+1,listed,a,w=>(Region.ready md ops listed=[]->Q a w)/\∀i∈Region.ready md ops listed,zbH P ops C i (wpS P md ops C Q n (listed.setIfInBounds i true)) a w
def zs5{o:Oper}{b:Act->zW->Prop}(h:upS P C w (fun v w'=>b (a.put o.dst v) w') ((execOp a.eval o).run P w)):o.wp P a w b Q':=by unfold Oper.wp;generalize (execOp a.eval o).run P w=r at *;cases r with|ok n w'=>{cases n<;>simp only[upS]at h<;>simp only[Oper.upon];(case value u=>exact h.2);(case skip=>exact h.2);(case enter f args=>obtain⟨rfl,h⟩:=h;exact h.mono fun e g ⟨v,c,_,d⟩=>by subst c;exact d)}|halt x w'=>{simp only[upS]at h}
def zhc{c:Array Oper}(d:∀a w,Q a w->Q' .normal a w):∀(n:Nat) (listed:Array Bool) (a:Act) (w:zW),C w->wpS P md c C Q n listed a w->wpAny P md c Q' n listed a w
 |0,_,_,_,_,h=>⟨h.1,d _ _ h.2⟩
 |n+1,listed,a,w,hw,h=>⟨fun j=>d _ _ (h.1 j),fun i m=>by
  have b:=zoj hw (fun g w' l k=>zhc d n _ g w' l k) (h.2 i m);unfold zbH at b;unfold wpOp
  split
  ·rename_i e
   simp only[e]at b;exact b
  ·rename_i o e
   simp only[e]at b
   split
   ·rename_i f
    rw[Em f]at b;exact .inl (zs5 b)
   ·rename_i f
    rw[Ej f]at b
    exact b⟩
def zby(P:Program)(ops:Array Oper)(C:zW->Prop)(o:Oper)(v:Value)(a:Act):Prop :=
 (Region.wanted o (yielded ops a.tmps)=true/\∀w,C w->((execOp a.eval o).run P w=.ok (.value v) w∨((execOp a.eval o).run P w=.ok .skip w/\v=undef)))∨(Region.wanted o (yielded ops a.tmps)=false/\v=undef)
def zby.of_same{b:Array Oper}{o:Oper}{c:Act}(f:zby P b C o v a)(d:execOp c.eval o=execOp a.eval o)(e:Region.wanted o (yielded b c.tmps)=Region.wanted o (yielded b a.tmps)):zby P b C o v c:=by unfold zby at *;rw[d,e];exact f
def zby.sOp{b:Array Oper}{o:Oper}(g:b[i]?=some o)(k:zby P b C o v a)(d:C w)(h:K (a.put o.dst v) w):zbH P b C i K a w:=by unfold zbH;simp only[g];rcases k with⟨e,j⟩|⟨e,rfl⟩;{rw[Em e];rcases j w d with c|⟨c,f⟩;{rw[c];exact⟨d,h⟩};{subst f;rw[c];exact⟨d,h⟩}};{rw[Ej (by rw[e];decide)];exact h}
def zxG{c:Array Oper}{oi d:Oper}(p:c[j]?=some d)(e:oi.apart c d=true)(f:∀cs b,oi.op≠.select cs b)(g:∀cs b,d.op≠.select cs b)(q:zby P c C oi v a)(h:zbH P c C j K (a.put oi.dst v) w):zbH P c C j (fun l w'=>zby P c C oi v l/\K (l.put oi.dst v) w') a w:=by have⟨m,n,o⟩:=Oper.apart_spec e;have keep:∀u,zby P c C oi v (a.put d.dst u):=fun u=>q.of_same (execOp_put oi f a d.dst u o) (wanted_put oi a d.dst u o);unfold zbH at *;simp only[p]at *;rw[wanted_put d a oi.dst v m,execOp_put d g a oi.dst v m]at h;split;{rename_i i;rw[Em i]at h;exact ziN (fun u w' _ k=>⟨keep u,by rw[<-Act.put_comm a v u n];exact k⟩) h};{rename_i i;rw[Ej i]at h;exact⟨keep _,by rw[<-Act.put_comm a v undef n];exact h⟩}
def zte{f:Array Oper}{oi:Oper}(F:f[i]?=some oi)(m:∀(j:Nat) (o:Oper) cs b,f[j]?=some o->o.op≠.select cs b): ∀(n:Nat) (c:Array Bool) (a:Act) (w:zW),C w -> (∀j s,f[j]?=some s->j≠i->c.getD j true=false->(∀e∈s.after,Region.binds md e=true->e.on≠i)->oi.apart f s=true) -> i∈Region.ready md f c->zby P f C oi v a -> wpS P md f C Q n (c.setIfInBounds i true) (a.put oi.dst v) w->wpS P md f C Q (n+1) c a w:=by intro n;induction n with|zero=>{intro c a w B _ r D H;refine⟨fun h=>(by rw[h]at r;cases r),fun j z=>?_⟩;by_cases d:j=i;{subst d;exact D.sOp F B H};{have:=ready_mono z d;rw[H.1]at this;cases this}}|succ n X=>{intro c a w B g r D H;refine⟨fun h=>(by rw[h]at r;cases r),fun j z=>?_⟩;by_cases d:j=i;{subst d;exact D.sOp F B H};{have p:=H.2 j (ready_mono z d);have⟨l,s,q,t⟩:=mem_ready.1 z;have x:∀e∈s.after,Region.binds md e=true->e.on≠i:=fun e V S E=>by{have p:=t e V S;have L:=(mem_ready.1 r).1;rw[E]at p;rcases Nv i c.size with K|K;{simp[K]at L p;rw[L]at p;cases p};{simp[Mm K]at p}};have R:=zxG q (g j s q d l x) (fun cs b=>m i oi cs b F) (fun cs b=>m j s cs b q) D p;refine zoj B (fun O w' U M=>X (c.setIfInBounds j true) O w' U (fun k Y W G y I=>?_) (ready_mono r (Ne.symm d)) M.1 ?_) R;{refine g k Y W G ?_ I;by_cases u:j=k;{subst u;exact l};{rw[getD_set_ne true u]at y;exact y}};{rw[Array.setIfInBounds_comm _ _ d];exact M.2}}}
def readsB(o:Oper):Bool :=
 match o.op with
 |.move _|.assign _|.pick _ _ _|.load _ _|.build _ _|.binOp _ _ _ _ _|.unOp _ _ _|.fieldAddr _ _ _|.field _ _ _|.indexAddr _ _ _|.slice _ _ _ _ _|.extract _ _=>true
 |.call c=>match c.callee with
  |.builtin .len=>true
  |_=>false
 |_=>false
def zrW{α:Type}(s:Sem α)(g:α->Value)(w:zW)(f:FuncId)(args:Array Value)(w':zW):(Sem.bind s fun x=>Sem.pure (Next.value (g x))).run P w≠.ok (.enter f args) w':=by rw[Sem.run_bind'];cases s.run P w with|ok x a=>{simp[Sem.run]}|halt x a=>{simp}
def zvD{o:Oper}(h:readsB o=true)(ρ:Operand->Value)(w:zW)(f:FuncId)(args:Array Value)(w':zW):(execOp ρ o).run P w≠.ok (.enter f args) w':=by unfold readsB at h;unfold execOp;cases a:o.op;(all_goals simp only[a]at h ⊢);(all_goals first|exact zrW _ (fun x=>x) w f args w'|exact zrW (asBool _) (fun b=>if b then _ else _) w f args w'|(simp[Sem.run,Pure.pure];done)|exact absurd h Mj|skip);rename_i c;split at h;{rename_i d;unfold resolve;simp only[d];exact zrW _ (fun x=>x) w f args w'};{cases h}
def okFrom(md:Region.Mode)(ops:Array Oper):List Nat->Array Bool->Bool
 |[],listed=>(Region.ready md ops listed).isEmpty
 |i :: rest,listed=>(match ops[i]? with
   |some o=>if readsB o then (Region.ready md ops listed).contains i && Region.free md ops listed i else Region.ready md ops listed == [i]
   |none=>false) && okFrom md ops rest (listed.setIfInBounds i true)
def walkI(P:Program)(ops:Array Oper)(C:zW->Prop)(Q:Act->zW->Prop):List Nat->Act->zW->Prop
 |[],a,w=>Q a w
 |i :: rest,a,w=>match ops[i]? with
  |none=>False
  |some o=>if readsB o then wpQuiet P ops C (fun a'=>walkI P ops C Q rest a' w) [o] a else if Region.wanted o (yielded ops a.tmps) then upS P C w (fun v w'=>walkI P ops C Q rest (a.put o.dst v) w') ((execOp a.eval o).run P w) else walkI P ops C Q rest (a.put o.dst undef) w
def zu9{c:Array Oper}{o:Oper}{Q:Act->Prop}(j:readsB o=true)(h:wpQuiet P c C Q [o] a):∃v,zby P c C o v a/\Q (a.put o.dst v):=by unfold wpQuiet at h;split at h;{rename_i e;obtain⟨v,g,i⟩:=h;refine⟨v,.inl ⟨e,fun w k=>?_⟩,i⟩;have b:=g w k;unfold Oper.quietAt at b;have d:=fun f args w'=>zvD (P:=P) j a.eval w f args w';generalize (execOp a.eval o).run P w=r at *;cases r with|ok n w'=>{cases n<;>simp only[Oper.quietUpon]at b;(case value u=>obtain⟨rfl,rfl⟩:=b;exact .inl rfl);(case skip=>obtain⟨rfl,rfl⟩:=b;exact .inr ⟨rfl,rfl⟩);(case enter f args=>exact absurd rfl (d f args w'))}|halt x w'=>{simp only[Oper.quietUpon]at b}};{rename_i e;exact⟨undef,.inr ⟨by simpa using e,rfl⟩,h⟩}
def zeR{b:Array Oper}(e:Region.noSelect b=true):∀(order:List Nat) (listed:Array Bool) (a:Act) (w:zW),C w->okFrom md b order listed=true->walkI P b C Q order a w->wpS P md b C Q order.length listed a w
 |[],_,_,_,_,hB,h=>⟨by simpa [okFrom] using hB,h⟩
 |i :: rest,listed,a,w,hw,hB,h=>by
  simp only[okFrom,Fa]at hB;obtain⟨c,f⟩:=hB;unfold walkI at h
  cases d:b[i]? with
  |none=>simp only[d]at h
  |some o=>
   simp only[d]at h c;by_cases g:readsB o=true
   ·rw[Em g]at h c
    simp only[Fa]at c
    have⟨v,s,r⟩:=zu9 g h
    exact zte d (Region.noSelect_spec e) rest.length listed a w hw (Region.free_spec d c.2) (by simpa using c.1) s (zeR e rest _ _ w hw f r)
   ·rw[Ej g]at h c
    have l:Region.ready md b listed=[i]:=by simpa using c
    refine⟨fun p=>(by rw[p]at l;cases l),fun j n=>?_⟩;rw[l]at n;obtain rfl:=Ek.1 n;unfold zbH;simp only[d]
    split
    ·rename_i m
     rw[Em m]at h;exact ziN (fun v w' q k=>zeR e rest _ _ w' q f k) h
    ·rename_i m
     rw[Ej m]at h;exact zeR e rest _ _ w hw f h
def zft{m:Nat}{Q:Exit->Act->zW->Prop}{l:List Oper}(b:List Nat)(k:P.follows .mixedOrders=true)(f:(Region.noSelect l.toArray && okFrom .any l.toArray b (Array.replicate l.length false) && b.length==l.length)=true)(h:∀w1,(∃p:Regrown,w1=grow (redrawn w p.d) p.os)->walkI P l.toArray (fun w'=>∃p:Regrown,w'=grow (redrawn w p.d) p.os) (fun c w'=>Q .normal c w') b a w1):(Code.region m l.toArray true).wp P Q a w:=by simp only[Fa,Fs]at f;obtain⟨⟨g,i⟩,j⟩:=f;have e:(fun w'=>∃p:Regrown,w'=grow (redrawn w p.d) p.os) { w with drawn:=w.drawn+1 }:=⟨⟨w.drawn+1,#[]⟩,by rw[grow_empty];rfl⟩;refine wp_region_any k (zhc (C:=fun w'=>∃p:Regrown,w'=grow (redrawn w p.d) p.os) (Q:=fun c w'=>Q .normal c w') (fun _ _ h=>h) _ _ _ _ e ?_);have:=zeR (P:=P) (md:=.any) (C:=fun w'=>∃p:Regrown,w'=grow (redrawn w p.d) p.os) (Q:=fun c w'=>Q .normal c w') g b (Array.replicate l.length false) a _ e i (h _ e);rw[j]at this;simpa using this
def step_end{b:Array Oper}(h:Q a w):walkI P b C Q [] a w:=h
def qZ{l:List Oper}{rest:List Nat}(o:Oper)(d:l[i]?=some o)(c:readsB o=true)(h:wpQuiet P l.toArray C (fun b=>walkI P l.toArray C Q rest b w) [o] a):walkI P l.toArray C Q (i :: rest) a w:=by unfold walkI;rw[Oc];simp only[d];rw[Em c];exact h
def Zd{b:Array Oper}{rest:List Nat}{t d:Array Value}{c a:List Deferred}(h:t=d)(e:c=a)(k:walkI P b C Q rest { tmps:=d,defers:=a } w):walkI P b C Q rest { tmps:=t,defers:=c } w:=by rw[h,e];exact k
def ztg(h:∃p:Regrown,w1=grow (redrawn w p.d) p.os):zU w w1:=by obtain⟨p,rfl⟩:=h;exact below_regrown _ _ _
def zrZ{f:FuncId}{a:Func}(g:P.funcs[f]?=some a)(h:(a.name == "runtime.NumGoroutine")=false)(b:a.body.isNone=false)(args:Array Value)(w:zW):(callFunc f args).run P w=.ok (.enter f args) w:=by have c:¬a.name= "runtime.NumGoroutine":=by{simpa using h};have d:¬a.body=none:=fun e=>by{rw[e]at b;cases b};simp[callFunc,go_sem,g,c,d]
def jE{l:List Oper}{rest:List Nat}{o:Oper}{f:FuncId}{xs:List Operand}{c:Array TypeId}{g:Func}{d:Nat}(args:List Value)(q:l[i]?=some o)(b:o.op=.call { callee:=.value (.func f),args:=xs.toArray,argTypes:=c })(hd:o.dst=some d)(p:P.funcs[f]?=some g)(r:(g.name == "runtime.NumGoroutine")=false)(n:g.body.isNone=false)(t:Region.wanted o (yielded l.toArray a.tmps)=true)(u:xs.map a.eval=args)(h:Calls P f args.toArray w fun e w'=>∃v,e=.returned v/\C w'/\walkI P l.toArray C Q rest { a with tmps:=a.tmps.setIfInBounds d v } w'):walkI P l.toArray C Q (i :: rest) a w:=by unfold walkI;rw[Oc];simp only[q];have s:readsB o=false:=by{unfold readsB;simp only[b]};rw[Ej (by rw[s];decide),Em t];have e:(execOp a.eval o).run P w=.ok (.enter f args.toArray) w:=by{unfold execOp;simp only[b];show (callFunc f (#[]++xs.toArray.map a.eval++#[])).run P w=_;rw[zrZ p r n,Ng,u];simp};rw[e];refine⟨rfl,h.mono fun _ _ ⟨v,j,k,m⟩=>⟨v,j,k,?_⟩⟩;rw[hd];exact m
