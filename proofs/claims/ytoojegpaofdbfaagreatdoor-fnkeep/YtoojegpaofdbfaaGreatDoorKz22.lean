import Derived.Test.YtoojegpaofdbfaaGreatDoorKz16
import Derived.Test.YtoojegpaofdbfaaGreatDoorKz17
import Derived.Test.YtoojegpaofdbfaaGreatDoorKz18
import Derived.Test.YtoojegpaofdbfaaGreatDoorKz32
import Derived.Lib.QuietBelow
import Derived.Deep.RegionHeld3
import Derived.Deep.CutRange
import Derived.Shelf.Abstract
import Derived.Lib.SliceRun
import Derived.Deep.Upon
import Derived.StillTail
import Derived.OrdersIn
import Derived.CallsIn
import Derived.OwnWalkIn
import Derived.TacticsInMore
import Derived.ArgAppend
import Derived.Test.YtoojegpaofdbfaaGreatDoorKz39
set_option maxRecDepth 100000
set_option maxHeartbeats 8000000
set_option linter.unusedSimpArgs false
namespace Go.Proofs.YtoojegpaofdbfaaGreatDoor
open Go.RowKit
open Go.Proofs.Tryz
namespace Ls
open Bk (cnt za5 Zk)
open Bi (ZA JR)
theorem zA{p:Prop}(h:p):Hid p:=h
def zu(z b:Int)(r:zY):Bool:=decide (0<=z/\z<=1000/\1<=b/\b<=48/\r.size=32/\z<=b*64)
def lV(z b:Int)(r:zY):Value:=.agg #[.int .i64 z,.int .i64 b,.string r]
def jS(z b:Int)(r:zY):Nat:=if zu z b r=true then cnt z.toNat b.toNat else 0
theorem qF{z b:Int}{r:zY}(h:zu z b r=true):0<=z/\z<=1000/\1<=b/\b<=48/\r.size=32/\z<=b*64:=Fh h
theorem Zs{p k:Nat}{r:zY}(h:zu p k r=true):jS p k r=cnt p k/\cnt p k<=64:=by have a:=qF h;unfold jS;rw[Ei h];refine⟨rfl,(za5 (by omega)).2 (by omega)⟩
theorem zc6{z b:Int}{r:zY}(h:zu z b r=false):jS z b r=0:=by unfold jS;rw[h];rfl
theorem zaj(z b:Int)(r:zY):jS z b r<=64:=by cases h:zu z b r with|false=>{rw[zc6 h];omega}|true=>{have a:=qF h;obtain⟨p,rfl⟩:=Em a.1;obtain⟨k,rfl⟩:=Em (show 0<=b by omega);have:=Zs h;omega}
theorem ZU(z b:Int)(r:zY)(w:zW): Calls prog 61 #[lV z b r] w (zB w (.bool (zu z b r))):=by unfold lV;by_cases f:z<0;{have a:Hid (zu z b r=false):=by{unfold Hid zu;simp;omega};rw[a.o];go_enter func61,ntmps61;(go_wp2_with fail);go_ret;exact⟨rfl,(Eb _ _).alloc (Ea _) _⟩};{by_cases g:1000<z;{have a:Hid (zu z b r=false):=by{unfold Hid zu;simp;omega};rw[a.o];go_enter func61,ntmps61;(go_wp2_with fail);go_ret;exact⟨rfl,(Eb _ _).alloc (Ea _) _⟩};{by_cases h:b<1;{have a:Hid (zu z b r=false):=by{unfold Hid zu;simp;omega};rw[a.o];go_enter func61,ntmps61;(go_wp2_with fail);go_ret;exact⟨rfl,(Eb _ _).alloc (Ea _) _⟩};{by_cases i:48<b;{have a:Hid (zu z b r=false):=by{unfold Hid zu;simp;omega};rw[a.o];go_enter func61,ntmps61;(go_wp2_with fail);go_ret;exact⟨rfl,(Eb _ _).alloc (Ea _) _⟩};{by_cases c:r.size=32;{have a:Hid (zu z b r=decide (z<=b*64)):=by{unfold Hid zu;rw[P7];omega};rw[a.o];have d:((r.size:Int)==32)=true:=by{rw[c];rfl};have e:=zA c;clear c;have j:IntKind.i64.wrap (b*64)=b*64:=by{rw[E1];omega};go_enter func61,ntmps61;(go_wp2_with fail);go_ret;exact⟨rfl,(Eb _ _).alloc (Ea _) _⟩};{have a:Hid (zu z b r=false):=by{unfold Hid zu;simp;omega};rw[a.o];have d:((r.size:Int)==32)=false:=Es.2 (by omega);go_enter func61,ntmps61;(go_wp2_with fail);go_ret;exact⟨rfl,(Eb _ _).alloc (Ea _) _⟩}}}}}
theorem Zx(z b:Int)(r:zY)(w:zW): Calls prog 53 #[lV z b r] w (zB w (.bool (zu z b r))):=by unfold lV;have d:∀o,zU w (w.alloc o):=fun o=>(Eb _ _).alloc (Ea _) _;by_cases j:0<=z/\z<=1000;{have i:=zA (fun W=>ZA z 0 1000 W j.1 j.2);obtain⟨p,rfl⟩:=Em j.1;by_cases m:1<=b/\b<=48;{have l:=zA (fun W=>ZA b 1 48 W m.1 m.2);obtain⟨k,rfl⟩:=Em (show 0<=b by omega);by_cases t:r.size=32;{have u:((r.size:Int)==32)=true:=by{rw[t];rfl};have q:=zA (fun W=>Zk p k W (by omega) (by omega) (by omega));have s:=zA (za5 (p:=p) (k:=k) (by omega));have g:=zA (And.intro j m);have n:=zA t;clear j m t;by_cases v:cnt p k<=64;{have a:Hid (zu p k r=true):=by{unfold Hid zu;have:=s.o.1 v;have:=g.o;have:=n.o;simp;omega};have h:((cnt p k:Nat):Int)<=64:=by{omega};rw[a.o];generalize cnt p k=c at q h;clear v s a g n;go_enter func53,ntmps53;(go_wp2_with fail);refine(i.o _).mono ?_;rintro e w1 ⟨rfl,f⟩;subst w1;(go_wp2_with fail);refine(l.o _).mono ?_;rintro e w1 ⟨rfl,f⟩;subst w1;(go_wp2_with fail);refine(q.o _).mono ?_;rintro e w1 ⟨rfl,f⟩;subst w1;(go_wp2_with fail);go_ret;exact⟨rfl,d _⟩};{have a:Hid (zu p k r=false):=by{unfold Hid zu;have:=s.o.2;have:=g.o;have:=n.o;simp;omega};have h:decide (((cnt p k:Nat):Int)<=64)=false:=by{simp;omega};rw[a.o];generalize cnt p k=c at q h;clear v s a g n;go_enter func53,ntmps53;(go_wp2_with fail);refine(i.o _).mono ?_;rintro e w1 ⟨rfl,f⟩;subst w1;(go_wp2_with fail);refine(l.o _).mono ?_;rintro e w1 ⟨rfl,f⟩;subst w1;(go_wp2_with fail);refine(q.o _).mono ?_;rintro e w1 ⟨rfl,f⟩;subst w1;(go_wp2_with fail);go_ret;exact⟨rfl,d _⟩}};{have a:Hid (zu p k r=false):=by{unfold Hid zu;simp;omega};rw[a.o];have u:((r.size:Int)==32)=false:=Es.2 (by omega);clear a;go_enter func53,ntmps53;(go_wp2_with fail);refine(i.o _).mono ?_;rintro e w1 ⟨rfl,f⟩;subst w1;(go_wp2_with fail);refine(l.o _).mono ?_;rintro e w1 ⟨rfl,f⟩;subst w1;(go_wp2_with fail);go_ret;exact⟨rfl,d _⟩}};{have l:=zA (fun W=>JR b 1 48 W (by omega));have a:Hid (zu p b r=false):=by{unfold Hid zu;simp;omega};rw[a.o];clear a m;go_enter func53,ntmps53;(go_wp2_with fail);refine(i.o _).mono ?_;rintro e w1 ⟨rfl,f⟩;subst w1;(go_wp2_with fail);refine(l.o _).mono ?_;rintro e w1 ⟨rfl,f⟩;subst w1;(go_wp2_with fail);go_ret;exact⟨rfl,d _⟩}};{have i:=zA (fun W=>JR z 0 1000 W (by omega));have a:Hid (zu z b r=false):=by{unfold Hid zu;simp;omega};rw[a.o];clear a j;go_enter func53,ntmps53;(go_wp2_with fail);refine(i.o _).mono ?_;rintro e w1 ⟨rfl,f⟩;subst w1;(go_wp2_with fail);go_ret;exact⟨rfl,d _⟩}
theorem Qu(z b:Int)(r:zY)(w:zW): Calls prog 58 #[lV z b r] w (zB w (.int .i64 (jS z b r:Nat))):=by have h:=zA (fun W=>ZU z b r W);cases g:zu z b r with|false=>{have f:=zA (zc6 g);rw[g]at h;rw[f.o];clear f g;unfold lV at h ⊢;go_enter func58,ntmps58;(go_wp2_with fail);refine(h.o _).mono ?_;rintro e w1 ⟨rfl,a⟩;have d:=zA (((Eb w.heap.size w).alloc (Ea _) _).trans (a.mono (by simp)));clear a;(go_wp2_with fail);go_ret;exact⟨rfl,d.o⟩}|true=>{have m:=qF g;obtain⟨p,rfl⟩:=Em m.1;obtain⟨k,rfl⟩:=Em (show 0<=b by omega);obtain⟨f,j⟩:=Zs g;have f:=zA f;rw[f.o];have o:((p:Int)+k-1).tdiv k=((cnt p k:Nat):Int):=by{unfold cnt;rw[K7 (by omega),Sy];congr 1;omega};have n:((k:Int)==0)=false:=by{simp;omega};rw[g]at h;clear f g;generalize cnt p k=c at o j ⊢;obtain⟨v,q⟩:∃v,v=lV p k r:=⟨_,rfl⟩;unfold lV at h ⊢;go_enter func58,ntmps58;(go_wp2_with fail);have l:Hid ((w.alloc (zL p k r)).heap[w.heap.size]?=some (zL p k r)):=E2 w _;refine(h.o _).mono ?_;rintro e w1 ⟨rfl,a⟩;have d:=zA (((Eb w.heap.size w).alloc (Ea _) _).trans (a.mono (by simp)));have i:=zA ((a.block _ (by simp)).trans l.o);clear a l;have c0:w1.cell? ⟨w.heap.size,0,none⟩=some (.int .i64 p):=El w1 _ 0 _ _ _ i.o;have c1:w1.cell? ⟨w.heap.size,1,none⟩=some (.int .i64 k):=El w1 _ 1 _ _ _ i.o;(go_wp2_with fail);go_ret;exact⟨rfl,d.o⟩}
theorem Jz{w w':zW}{g:Nat}{x:Obj}(h:w.heap[g]?=some x)(a:zU w w'):w'.heap[g]?=some x:=(a.block g (Ev.1 h).1).trans h
theorem Zc{w0 w w':zW}(h:zU w0 w)(a:zU w w'):zU w0 w':=h.trans (a.mono h.size)
theorem zk{W:zW}{g:Nat}{x y z:Value}{t:TypeId}(h:W.heap[g]?=some (.cells #[x,y,z] t (0,0))):W.cell? ⟨g,0,none⟩=some x/\W.cell? ⟨g,1,none⟩=some y/\W.cell? ⟨g,2,none⟩=some z :=
 ⟨El W g 0 _ _ _ h,El W g 1 _ _ _ h,El W g 2 _ _ _ h⟩
def oV(z b:Int)(r:zY)(c:Int):Value:=.agg #[.int .i64 z,.int .i64 b,.string r,.int .i64 c]
theorem zct{W:zW}{g:Nat}{x y z u:Value}{t:TypeId}(h:W.heap[g]?=some (.cells #[x,y,z,u] t (0,0))):W.cell? ⟨g,0,none⟩=some x/\W.cell? ⟨g,1,none⟩=some y/\W.cell? ⟨g,2,none⟩=some z/\W.cell? ⟨g,3,none⟩=some u :=
 ⟨El W g 0 _ _ _ h,El W g 1 _ _ _ h,El W g 2 _ _ _ h,El W g 3 _ _ _ h⟩
theorem znj{W:zW}{g:Nat}{x y z u:Value}{T:TypeId}(h:W.heap[g]?=some (.cells #[x,y,z,u] T (0,0)))(v:Value):(W.setCell ⟨g,0,none⟩ v).heap[g]?=some (.cells #[v,y,z,u] T (0,0))/\(W.setCell ⟨g,1,none⟩ v).heap[g]?=some (.cells #[x,v,z,u] T (0,0))/\(W.setCell ⟨g,2,none⟩ v).heap[g]?=some (.cells #[x,y,v,u] T (0,0))/\(W.setCell ⟨g,3,none⟩ v).heap[g]?=some (.cells #[x,y,z,v] T (0,0)):=by refine⟨?_,?_,?_,?_⟩;{rw[Ep W g 0 _ T v h];rfl};{rw[Ep W g 1 _ T v h];rfl};{rw[Ep W g 2 _ T v h];rfl};{rw[Ep W g 3 _ T v h];rfl}
theorem zhF{W:zW}{g:Nat}{x y z u:Value}{T:TypeId}(h:W.heap[g]?=some (.cells #[x,y,z,u] T (0,0)))(a b c d:Value):
  ((((W.setCell ⟨g,0,none⟩ a).setCell ⟨g,1,none⟩ b).setCell ⟨g,2,none⟩ c).setCell ⟨g,3,none⟩ d).cell? ⟨g,0,none⟩=some a/\((((W.setCell ⟨g,0,none⟩ a).setCell ⟨g,1,none⟩ b).setCell ⟨g,2,none⟩ c).setCell ⟨g,3,none⟩ d).cell? ⟨g,1,none⟩=some b/\((((W.setCell ⟨g,0,none⟩ a).setCell ⟨g,1,none⟩ b).setCell ⟨g,2,none⟩ c).setCell ⟨g,3,none⟩ d).cell? ⟨g,2,none⟩=some c/\((((W.setCell ⟨g,0,none⟩ a).setCell ⟨g,1,none⟩ b).setCell ⟨g,2,none⟩ c).setCell ⟨g,3,none⟩ d).cell? ⟨g,3,none⟩=some d :=
 zct (znj (znj (znj (znj h a).1 b).2.1 c).2.2.1 d).2.2.2
theorem zml{B:Nat}{w W:zW}(h:Below B w W)(a b c d:Value):Below B w ((((W.setCell ⟨B,0,none⟩ a).setCell ⟨B,1,none⟩ b).setCell ⟨B,2,none⟩ c).setCell ⟨B,3,none⟩ d):=(((h.setCell (p:=⟨B,0,none⟩) (Ea _) a).setCell (p:=⟨B,1,none⟩) (Ea _) b).setCell (p:=⟨B,2,none⟩) (Ea _) c).setCell (p:=⟨B,3,none⟩) (Ea _) d
theorem zzS{B:Nat}{w0 w w':zW}(a:w0.heap.size=B)(h:Below B w0 w)(b:zU w w'):Below B w0 w':=h.trans (b.mono (by rw[<-a];exact h.size))
theorem zhr{B:Nat}{w0 w:zW}(a:w0.heap.size=B)(h:Below B w0 w)(o:Obj):Below B w0 (w.alloc o):=h.alloc (by rw[<-a];exact h.size) o
theorem jB{W:zW}{g:Nat}{x:Obj}(h:W.heap[g]?=some x)(o:Obj):(W.alloc o).heap[g]?=some x:=Jz h ((Eb _ _).alloc (Ea _) o)
end Ls
namespace Kp
open Ls (Jz Zc jB)
theorem za{p:Prop}(h:p):Hid p:=h
structure Cx (w0 W:zW) (l:List (Nat × Obj)):Prop where
 low:zU w0 W
 blk:∀x∈l,W.heap[x.1]?=some x.2
theorem Cx.nil(w:zW):Cx w w []:=⟨Eb _ _,fun _ h=>absurd h Fk⟩
theorem Cx.call{w0 W W':zW}{l:List (Nat × Obj)}(h:Cx w0 W l)(a:zU W W'):Cx w0 W' l:=⟨Zc h.low a,fun x b=>Jz (h.blk x b) a⟩
theorem Cx.new{w0 W:zW}{l:List (Nat × Obj)}(h:Cx w0 W l)(o:Obj):Cx w0 (W.alloc o) ((W.heap.size,o) :: l) :=
 ⟨h.low.alloc h.low.size o,fun x a=>by
  rcases Ex.1 a with rfl|a
  ·exact E2 W o
  ·exact jB (h.blk x a) o⟩
theorem Cx.get{w0 W:zW}{l:List (Nat × Obj)}(h:Cx w0 W l)(i:Nat){g:Nat}{o:Obj}(a:l[i]?=some (g,o)):W.heap[g]?=some o:=h.blk (g,o) (U1 a)
theorem zF{w0 W:zW}{g:Nat}(h:zU w0 W)(d:w0.heap.size<=g)(a b c:Value):zU w0 (((W.setCell ⟨g,0,none⟩ a).setCell ⟨g,1,none⟩ b).setCell ⟨g,2,none⟩ c) :=
 ((h.setCell (p:=⟨g,0,none⟩) d a).setCell (p:=⟨g,1,none⟩) d b).setCell (p:=⟨g,2,none⟩) d c
theorem zdn{W:zW}{g h:Nat}{b c:Array Value}{T U:TypeId}(e:W.heap[g]?=some (.cells b T (0,0)))(a:W.heap[h]?=some (.cells c U (0,0)))(d:T≠U):¬g=h:=by rintro rfl;rw[e]at a;simp at a;exact d a.2
theorem qC{w:zW}{g:Nat}{o:Obj}(h:w.heap[g]?=some o):g<w.heap.size:=(Ev.1 h).1
theorem Cx.grown{w W W':zW}{l:List (Nat × Obj)}{row:Option Nat}(h:Cx w W l)(c:W.grownBy W' row)(d:∀k,row=some k->w.heap.size<=k)(a:∀x∈l,row≠some x.1):Cx w W' l :=
 ⟨h.low.grown c h.low.size d,fun x b=>(c.block x.1 (qC (h.blk x b)) (fun e=>a x b e.symm)).trans (h.blk x b)⟩
theorem Cx.set{w W:zW}{l:List (Nat × Obj)}{g:Nat}(h:Cx w W l)(c:w.heap.size<=g)(a:∀x∈l,x.1≠g)(i:Nat)(v:Value):Cx w (W.setCell ⟨g,i,none⟩ v) l :=
 ⟨h.low.setCell (p:=⟨g,i,none⟩) c v,fun x b=>by rw[Et _ _ x.1 _ (by exact a x b)];exact h.blk x b⟩
def kV(z b:Int)(r s:zY)(y:Int):Value:=.agg #[.int .i64 z,.int .i64 b,.string r,.string s,.int .i64 y]
def kB(z b:Int)(r s:zY)(y:Int):Obj:=.cells #[.int .i64 z,.int .i64 b,.string r,.string s,.int .i64 y] 26
theorem zo{W:zW}{g:Nat}{z b:Int}{r s:zY}{y:Int}(h:W.heap[g]?=some (kB z b r s y)):W.cell? ⟨g,0,none⟩=some (.int .i64 z)/\W.cell? ⟨g,1,none⟩=some (.int .i64 b)/\W.cell? ⟨g,2,none⟩=some (.string r)/\W.cell? ⟨g,3,none⟩=some (.string s)/\W.cell? ⟨g,4,none⟩=some (.int .i64 y) :=
 ⟨El W g 0 _ _ _ h,El W g 1 _ _ _ h,El W g 2 _ _ _ h,El W g 3 _ _ _ h,El W g 4 _ _ _ h⟩
theorem set5{W:zW}{g:Nat}{q f i j k:Value}{T:TypeId}(h:W.heap[g]?=some (.cells #[q,f,i,j,k] T (0,0)))(a b c d e:Value): (((((W.setCell ⟨g,0,none⟩ a).setCell ⟨g,1,none⟩ b).setCell ⟨g,2,none⟩ c).setCell ⟨g,3,none⟩ d).setCell ⟨g,4,none⟩ e).heap[g]?=some (.cells #[a,b,c,d,e] T (0,0)):=by have l:(W.setCell ⟨g,0,none⟩ a).heap[g]?=some (.cells #[a,f,i,j,k] T (0,0)):=by{rw[Ep W g 0 _ T a h];rfl};have m:=Ep _ g 1 _ T b l;have n:=Ep _ g 2 _ T c m;have o:=Ep _ g 3 _ T d n;have p:=Ep _ g 4 _ T e o;exact p
theorem zbR{w0 W:zW}{g:Nat}(h:zU w0 W)(a:w0.heap.size<=g)(b c d e f:Value):
  zU w0 (((((W.setCell ⟨g,0,none⟩ b).setCell ⟨g,1,none⟩ c).setCell ⟨g,2,none⟩ d).setCell ⟨g,3,none⟩ e).setCell ⟨g,4,none⟩ f) :=
 ((((h.setCell (p:=⟨g,0,none⟩) a b).setCell (p:=⟨g,1,none⟩) a c).setCell (p:=⟨g,2,none⟩) a d).setCell (p:=⟨g,3,none⟩) a e).setCell (p:=⟨g,4,none⟩) a f
theorem cells5{W:zW}{g:Nat}{a b c d e:Value}{T:TypeId}(h:W.heap[g]?=some (.cells #[a,b,c,d,e] T (0,0))):W.cell? ⟨g,0,none⟩=some a/\W.cell? ⟨g,1,none⟩=some b/\W.cell? ⟨g,2,none⟩=some c/\W.cell? ⟨g,3,none⟩=some d/\W.cell? ⟨g,4,none⟩=some e :=
 ⟨El W g 0 _ _ _ h,El W g 1 _ _ _ h,El W g 2 _ _ _ h,El W g 3 _ _ _ h,El W g 4 _ _ _ h⟩
def zz9(W:zW)(g:Nat)(x0 x1 x2 x3 x4:Value):Prop :=
 (W.cell? ⟨g,0,none⟩=some x0/\W.cell? ⟨g,1,none⟩=some x1/\W.cell? ⟨g,2,none⟩=some x2/\W.cell? ⟨g,3,none⟩=some x3/\W.cell? ⟨g,4,none⟩=some x4)/\W.frozen? ⟨g,0,none⟩=false/\W.frozen? ⟨g,1,none⟩=false/\W.frozen? ⟨g,2,none⟩=false/\W.frozen? ⟨g,3,none⟩=false/\W.frozen? ⟨g,4,none⟩=false
theorem zsy{W:zW}{g:Nat}{a b c d e:Value}{T:TypeId}(h:W.heap[g]?=some (.cells #[a,b,c,d,e] T (0,0))):zz9 W g a b c d e :=
 ⟨cells5 h,Ee W g 0 _ _ h,Ee W g 1 _ _ h,Ee W g 2 _ _ h,Ee W g 3 _ _ h,Ee W g 4 _ _ h⟩
def kZ:Obj:=.cells #[.int .i64 0,.int .i64 0,.string ⟨#[]⟩,.string ⟨#[]⟩,.int .i64 0] 26
theorem zil{w W:zW}{g:Nat}{j k l m n:Value}(h:W.heap[g]?=some (.cells #[j,k,l,m,n] 26 (0,0)))(i:zU w W)(f:w.heap.size<=g)(a b c d e:Value):
  zU w (((((W.setCell ⟨g,0,none⟩ a).setCell ⟨g,1,none⟩ b).setCell ⟨g,2,none⟩ c).setCell ⟨g,3,none⟩ d).setCell ⟨g,4,none⟩ e)/\(((((W.setCell ⟨g,0,none⟩ a).setCell ⟨g,1,none⟩ b).setCell ⟨g,2,none⟩ c).setCell ⟨g,3,none⟩ d).setCell ⟨g,4,none⟩ e).heap[g]?=some (.cells #[a,b,c,d,e] 26 (0,0)) :=
 ⟨zbR i f _ _ _ _ _,set5 h _ _ _ _ _⟩
end Kp
namespace Pk
open St (qV IsS Qc)
open In (Ints IsI zx qe)
open Nu (jP)
theorem zd{p:Prop}(h:p):Hid p:=h
def cat(l:List zY):List UInt8:=l.flatMap fun s=>s.data.toList
theorem zu2(l:List zY)(k:Nat)(h:k<l.length):cat (l.take (k+1))=cat (l.take k)++l[k].data.toList:=by rw[Ll,Ef h];unfold cat;rw[Mc];simp
theorem zk8(l:List zY)(k:Nat):(cat (l.take k)).length<=(cat l).length:=by have:cat l=cat (l.take k)++cat (l.drop k):=by{unfold cat;rw[<-Mc,Lr]};rw[this,Ek];omega
theorem jA(l:List zY)(a:Option Addr)(C n:Nat)(w:zW)(h:qV w w.heap.size a l)(I:l.length=n)(Q:n<=1048576)(H:(cat l).length<=1048576): Calls prog 39 #[.slice a n C] w (zB w (.string ⟨(cat l).toArray⟩)):=by have G:=zd I;have M:=zd h;have K:=zd (fun k=>Fe (zk8 l k) H);clear h I H;go_enter func39,ntmps39;(go_wp2_with fail);(go_loopw [8,5] (fun i _ wr=>∃k:Nat,i=.int .i64 k/\k<=n/\Lib.IsBuilder 103 5 w.heap.size w.heap.size (Lib.byteCells (cat (l.take k))) wr/\zU w wr/\w.heap.size<=wr.heap.size) (fun i _ _=>n-(intOf i).toNat));(case atStart=>exact⟨0,rfl,En _,Lib.fresh_isBuilder _ _ w,(Eb _ _).alloc (Ea _) _,by simp⟩);(case round=>obtain⟨k,rfl,U,q,f,r⟩:=hrel;have o:=zd q;have v:=zd f;clear q f;by_cases E:k<n;{have d:k<l.length:=by{rw[G.o];exact E};obtain⟨b,off,rfl,S,t⟩:∃b off,a=some ⟨b,off,none⟩/\b<w.heap.size/\∀j (h:j<l.length),wr.cell? ⟨b,off+j,none⟩=some (.string l[j]):=by{rcases M.o.below v.o with P|h;{subst P;simp at d};{exact h}};have O:=t k d;have g:=zd (zu2 l k d);have D:=K.o (k+1);rw[g.o,Ek]at D;generalize l[k]=s at O g D;have F:s.data.toList.length=s.size:=by{simp};have y:Hid ((Lib.byteCells (cat (l.take k))).length+s.size<=140737488355328):=by{unfold Hid;rw[Lib.byteCells_length];omega};have z:Hid (Lib.byteCells (cat (l.take k))++Lib.strCells s=Lib.byteCells (cat (l.take (k+1)))):=by{unfold Hid;rw[g.o,Lib.byteCells_append,Lib.strCells_eq]};have B:=zd (Sb.zi5 w.heap.size w.heap.size _ s wr o.o y.o r);clear t D F d;(go_wp2_with fail);refine B.o.mono ?_;rintro e R ⟨rfl,m,c⟩;rw[z.o]at m;have x:=zd m;have u:=zd (v.o.trans c);have V:=c.size;clear m c;(go_wp2_with fail);(go_roundw);(case rel=>exact⟨k+1,by go_num,by omega,Or.inr x.o,u.o,by omega⟩);(case measure=>simp[intOf];omega)};{obtain rfl:k=n:=by{omega};have L:Hid (cat (l.take k)=cat l):=by{unfold Hid;rw[Ez (by rw[G.o];exact Ea _)]};have p:=zd (Sb.zhg w.heap.size w.heap.size _ wr o.o r);rw[L.o]at p;(go_wp2_with fail);refine p.o.mono ?_;rintro e R ⟨rfl,c⟩;have u:=zd (v.o.trans c);clear c;(go_wp2_with fail);go_ret;exact⟨rfl,u.o⟩})
def jE(l:List Int):List UInt8:=l.flatMap fun x=>(jP x).data.toList
def zdb(l:List Int)(k:Nat):List zY:=(l.take k).map jP++List.replicate (l.length-k) ⟨#[]⟩
theorem zkU(l:List Int):cat (zdb l l.length)=jE l:=by unfold zdb cat jE;rw[Fb,Lq,U7,Kj,List.flatMap_map]
theorem zek(l:List Int)(k:Nat)(h:k<=l.length):(zdb l k).length=l.length:=by unfold zdb;rw[Ek,Fc,E7,Fj];omega
theorem znZ(l:List Int)(k:Nat)(h:k<l.length):(zdb l k).set k (jP l[k])=zdb l (k+1):=by have a:((l.take k).map jP).length=k:=by{rw[Fc,E7];omega};unfold zdb;rw[Un,Eh (by omega),a,Lq,show l.length-k=(l.length-(k+1))+1 by omega,Rl,Mj,Ll,Ef h,Fg,Fa];rfl
theorem zoU(l:List Int):zdb l 0=List.replicate l.length ⟨#[]⟩:=by unfold zdb;simp
theorem jL(n:Int):(jP n).size<=10:=by show (Nu.zcU (Nu.zz n)).toArray.size<=10;rw[Ke];unfold Nu.zcU;rw[Nu.Qq];have:=Nu.za5 9 (Nu.zz n);omega
theorem zdA(l:List Int):(jE l).length<=10*l.length:=by induction l with|nil=>{exact Ea _}|cons x l b=>{have a:=b;have c:=jL x;have d:(jP x).data.toList.length=(jP x).size:=by{simp};unfold jE at a ⊢;rw[K6,Ek,Fm];omega}
theorem zeV(l:List Int)(a:Option Addr)(F n:Nat)(w:zW)(h:Ints w w.heap.size a l)(O:l.length=n)(Z:n<=100000)(P:∀x∈l,-9223372036854775808<=x/\x<=9223372036854775807): Calls prog 183 #[.slice a n F] w (zB w (.string ⟨(jE l).toArray⟩)):=by obtain⟨i0,G,K,L,M⟩:=E4 St.Tryz.infoS9;have v:=zd O;have U:=zd h;have S:=zd P;have D:=zd (zdA l);clear h O P;go_enter func183,ntmps183;(go_wp2_with (at_make;refine Fi _ rfl (.tmp 7) (.tmp 7) 27 rfl w.heap.size 9 i0 (.string ⟨#[]⟩) 1 underlying27 G K L .i64 .i64 _ _ n rfl rfl (by simp) (by simp) (by rw[M];omega) (by unfold maxLen;omega) (Ea _) ?_;intro w1 j d;have p:=zd (Qc j);have C:=zd ((Eb w.heap.size w).grown d (Ea _) (by simp));clear j d));have z1:=p.o.lt;(go_loopw [11,4,5] (fun i _ _ wr=>∃k:Nat,i=.int .i64 k/\k<=n/\IsS wr w.heap.size 9 (zdb l k)/\zU w wr) (fun i _ _ _=>n-(intOf i).toNat));(case atStart=>exact⟨0,rfl,En _,by rw[zoU,v.o];exact p.o,C.o⟩);(case round=>obtain⟨k,rfl,hk,t,m⟩:=hrel;have y:=zd t;have B:=zd m;have u:=m.size;clear t m;by_cases H:k<n;{have f:k<l.length:=by{rw[v.o];exact H};obtain⟨b,off,rfl,hb,r⟩:=(U.o.below B.o).some (by omega);have V:=r k f;have q:=zd (znZ l k f);have I:=S.o l[k] (Er f);have s:k<(zdb l k).length:=by{rw[zek l k (by omega)];exact f};have g:=zd (fun(W:zW) (X:IsS W w.heap.size 9 (zdb l k))=>X.cell s);generalize l[k]=x at V q I;generalize (zdb l k)[k]=aa at g;have Y:(k:Int)<n:=by{omega};clear r f s;(go_wp2_with fail);refine(Nu.zcj x _ I.1 I.2).mono ?_;rintro e Q ⟨rfl,c⟩;have E:=zd (y.o.below c y.o.lt);have z:=zd (B.o.trans (c.mono u));have c2:=g.o Q E.o;have f2:=E.o.frozen k;clear c;(go_wp2_with fail);(go_roundw);(case rel=>exact⟨k+1,by go_num,by omega,by rw[<-q.o];exact E.o.set k _,z.o.setCell (by simp) _⟩);(case measure=>simp[intOf];omega)};{obtain rfl:k=n:=by{omega};have R:Hid (Calls prog 39 #[.slice (some ⟨w.heap.size,0,none⟩) k k] wr (zB wr (.string ⟨(jE l).toArray⟩))):=by{have o:k=l.length:=v.o.symm;have:=jA (zdb l k) (some ⟨w.heap.size,0,none⟩) k k wr (y.o.strs y.o.lt) (by rw[zek l k (by omega)];exact v.o) (by omega) (by rw[o,zkU];have:=D.o;omega);rw[o,zkU]at this;rw[o];exact this};(go_wp2_with fail);refine R.o.mono ?_;rintro e Q ⟨rfl,c⟩;have z:=zd (B.o.trans (c.mono u));clear c;(go_wp2_with fail);go_ret;exact⟨rfl,z.o⟩})
end Pk
namespace Nu
def Zd(t:zY):zY:=if t.size<=8000 then jP (t.size:Int)++t else ⟨#[]⟩
theorem jL(n:Int):(jP n).size<=10:=by have:=(zcN (zz n)).1;simpa [jP,ByteArray.size] using this
theorem Qd(t:zY)(w:zW)(d:t.size<=maxLen): Calls prog 102 #[.string t] w (zB w (.string (Zd t))):=by unfold maxLen at d;by_cases h:8000<t.size;{have a:=jY (show Zd t=⟨#[]⟩ by unfold Zd;rw[Eh (by omega)]);go_enter func102,ntmps102;go_wp2;go_ret;exact⟨zdR a.o.symm,Eb _ _⟩};{have a:=jY (show Zd t=jP (t.size:Int)++t by unfold Zd;rw[Ei (by omega)]);have c:=jL (t.size:Int);go_enter func102,ntmps102;(go_wp2_with fail);refine(zcg _ _ (by omega) (by omega)).mono ?_;rintro e w1 ⟨rfl,b⟩;go_wp2;go_ret;exact⟨zdR a.o.symm,b⟩}
theorem ZH(t:zY)(w:zW)(f:t.size<=maxLen): Calls prog 72 #[.string t] w (zB w (.string (Zd t))):=by unfold maxLen at f;by_cases h:8000<t.size;{have b:=jY (show Zd t=⟨#[]⟩ by unfold Zd;rw[Eh (by omega)]);go_enter func72,ntmps72;go_wp2;go_ret;exact⟨zdR b.o.symm,Eb _ _⟩};{have b:=jY (show Zd t=jP (t.size:Int)++t by unfold Zd;rw[Ei (by omega)]);have d:=jL (t.size:Int);go_enter func72,ntmps72;(go_wp2_with fail);refine(zcj _ _ (by omega) (by omega)).mono ?_;rintro e w1 ⟨rfl,a⟩;(go_wp2_with fail);refine(jA _ _ _ (by omega)).mono ?_;rintro e g ⟨rfl,c⟩;go_wp2;go_ret;exact⟨zdR b.o.symm,a.trans (c.mono a.size)⟩}
end Nu
namespace Ls
open Pk (cat jE jA zeV)
open St (qV)
open In (Ints)
open Nu (jP Zd zcg Qd ZH jL)
def zyG(z b:Int)(r:zY):zY:=jP z++jP b++Zd r
def zys(z b:Int)(r:zY):zY:=if zu z b r=true then zyG z b r else ⟨#[]⟩
theorem Zt{w W:zW}(h:zU w W)(o:Obj):zU w (W.alloc o):=h.alloc h.size o
theorem QR{w W:zW}(h:zU w W):zU w W.drew:=h.drew
end Ls
namespace Ls
open Pk (cat jE jA zeV zdA)
open St (qV)
open In (Ints)
open Nu (jP Zd zcg Qd ZH jL)
end Ls
namespace Hf
def lb(l:List Tree)(a:Nat):Nat->Option Nat
 |0=>none
 |i+1=>if i=a then lb l a i else match lb l a i with
  |none=>some i
  |some k=>if wt l i<wt l k then some i else some k
def shift(a b:Nat):Nat:=if b<a then b else b+1
theorem zv7(l:List Tree)(a j:Nat)(h:j<a):wt (l.eraseIdx a) j=wt l j:=by unfold wt;rw[Eg,Eg,Ri h]
theorem zpp(l:List Tree)(a j:Nat)(h:a<=j):wt (l.eraseIdx a) j=wt l (j+1):=by unfold wt;rw[Eg,Eg,Rj h]
theorem zmt(l:List Tree)(a b:Nat):wt (l.eraseIdx a) b=wt l (shift a b):=by unfold shift;split;{exact zv7 l a b (by assumption)};{exact zpp l a b (by omega)}
theorem zp1(l:List Tree)(a:Nat):∀i,i<=a->lb l a i=if i=0 then none else some (shift a (least (l.eraseIdx a) i))
 |0,_=>rfl
 |i+1,h=>by
  have e:=zp1 l a i (by omega);have d:=least_le (l.eraseIdx a) i;rw[lb,Eh (by omega),e,Eh (Nat.succ_ne_zero i),least];by_cases c:i=0
  ·subst c
   rw[Ei rfl]
   show some 0=_
   have:least (l.eraseIdx a) 0=0:=rfl
   rw[this,Eh (Nat.lt_irrefl _)];unfold shift;rw[Ei (by omega)]
  ·rw[Eh c]
   simp only
   rw[zv7 l a i (by omega),zmt l a (least (l.eraseIdx a) i)];by_cases b:wt l i<wt l (shift a (least (l.eraseIdx a) i))
   ·rw[Ei b,Ei b]
    unfold shift;rw[Ei (by omega)]
   ·rw[Eh b,Eh b]
theorem zrm(l:List Tree)(a:Nat):∀i,lb l a (a+1+i)=if a+i=0 then none else some (shift a (least (l.eraseIdx a) (a+i)))
 |0=>by
  rw[Ms,lb,Ei rfl,zp1 l a a (Ea _),Ms]
 |i+1=>by
  have g:=zrm l a i;have f:=least_le (l.eraseIdx a) (a+i);rw[show a+1+(i+1)=(a+1+i)+1 by omega,lb,Eh (by omega),g,show a+(i+1)=(a+i)+1 by omega,Eh (Nat.succ_ne_zero _),least]
  have e:shift a (a+i)=a+1+i:=by
   unfold shift;rw[Eh (by omega)];omega
  by_cases b:a+i=0
  ·rw[Ei b]
   simp only
   have d:least (l.eraseIdx a) (a+i)=0:=by rw[b];rfl
   rw[d,b,Eh (Nat.lt_irrefl _),<-e,b]
  ·rw[Eh b]
   simp only
   rw[zpp l a (a+i) (by omega),show a+i+1=a+1+i by omega,zmt l a (least (l.eraseIdx a) (a+i))];by_cases c:wt l (a+1+i)<wt l (shift a (least (l.eraseIdx a) (a+i)))
   ·rw[Ei c,Ei c,e]
   ·rw[Eh c,Eh c]
theorem zyc(l:List Tree)(a n:Nat)(c:a<n)(b:2<=n):lb l a n=some (shift a (least (l.eraseIdx a) (n-1))):=by have:=zrm l a (n-(a+1));rw[show a+1+(n-(a+1))=n by omega,show a+(n-(a+1))=n-1 by omega,Eh (by omega)]at this;exact this
def oi:Option Nat->Int
 |none=>-1
 |some k=>(k:Int)
theorem zwN(l:List Tree)(a:Nat):∀i k,lb l a i=some k->k<i
 |0,k,h=>by cases h
 |i+1,k,h=>by
  rw[lb]at h
  split at h
  ·have:=zwN l a i k h
   omega
  ·split at h
   ·simp at h
    omega
   ·rename_i c b
    have:=zwN l a i c b
    split at h<;>simp at h<;>omega
theorem zw9{l:List Tree}{a i:Nat}(h:lb l a i=none)(b:¬i=a):lb l a (i+1)=some i:=by rw[lb,Eh b,h]
theorem zxS{l:List Tree}{a i k:Nat}(h:lb l a i=some k)(b:¬i=a):lb l a (i+1)=if wt l i<wt l k then some i else some k:=by rw[lb,Eh b,h]
theorem zg0(n:Int)(v:Value)(w:zW):Calls prog 271 #[.agg #[.int .i64 n,v]] w (zB w (.int .i64 n)):=by go_enter func271,ntmps271;(go_wp2_with fail);go_ret;exact⟨rfl,(Eb _ _).alloc (Ea _) _⟩
theorem ziB:∀args w,(callFunc 271 args).run prog w=.ok (.enter 271 args) w:=enters_of func271 (by kernel_rfl) rfl
theorem zn2(m:List MT)(i:Nat)(a:i<m.length)(b:least (mt m) i<m.length):least (mt m) (i+1)=if m[i].1.1<m[least (mt m) i].1.1 then i else least (mt m) i:=by rw[least,zt1 m i a,zt1 m _ b]
theorem zqx(g n H:Nat)(m:List MT)(q:Array Value)(t:TypeId)(w:zW)(U:m.length=n)(h0:0<n)(Q:n<=257)(I:w.heap[g]?=some (.cells q t (0,0)))(V:q.toList.take (m.length*2)=cells m): Calls prog 270 #[.slice (some ⟨g,0,none⟩) n H,.func (.func 271) #[] #[]] w (zB w (.int .i64 (least (mt m) n:Nat))):=by have he:=ziB;have P:=zj U;have hg:=ZG I;have D:=zj (fun(W:zW) (r:zU w W) i R=>zeq (m:=m) ((r.block g hg).trans I) V i R);have X:=zj (least_le (mt m));clear U I V;go_enter func270,ntmps270;(go_wp2_with fail);(go_loopw [9,5] (fun M kv wr=>∃i k:Nat,M=.int .i64 i/\kv=.int .i64 k/\i<=n/\k=least (mt m) i/\zU w wr) (fun M _ _=>n-(intOf M).toNat));(case atStart=>exact⟨0,0,rfl,rfl,En _,rfl,Eb _ _⟩);(case round=>obtain⟨i,k,rfl,rfl,R,S,v⟩:=hrel;have E:=zj S;have f:=zj v;clear S v;by_cases L:i<n;{have K:k<n:=by{have h1:=X.o i;have h2:=E.o;omega};have hi':i<m.length:=by{rw[P.o];exact L};have b:k<m.length:=by{rw[P.o];exact K};obtain⟨j,l⟩:=D.o _ f.o i hi';obtain⟨o,p⟩:=D.o _ f.o k b;have c:=zj (fun W r=>D.o W r i hi');have d:=zj (fun W r=>D.o W r k b);have h:=zj (zn2 m i hi' (by rw[<-E.o];exact b));have a:Hid (least (mt m) (i+1)=if m[i].1.1<m[k].1.1 then i else k):=by{have:=h.o;simp only[<-E.o]at this;exact this};clear h;generalize m[i]=x at j l c a;generalize m[k]=y at o p d a;obtain⟨⟨F,xs⟩,xv⟩:=x;obtain⟨⟨G,ys⟩,yv⟩:=y;simp only at j l o p c d a;clear hi' b;(go_wp2_with fail);(go_region_with (first|(go_at_call_of 271 (Value.int IntKind.i64 (F:Int));(with_reducible refine(zg0 _ _ _).mono ?_);rintro e w2 ⟨rfl,s⟩;have C:=zj (f.o.drew.trans (s.mono f.o.drew.size));obtain⟨Y,Z⟩:=c.o _ C.o;obtain⟨aa,ab⟩:=d.o _ C.o;clear s)|(go_at_call_of 271 (Value.int IntKind.i64 (G:Int));(with_reducible refine(zg0 _ _ _).mono ?_);rintro e w3 ⟨rfl,u⟩;have O:=zj (C.o.trans (u.mono C.o.size));clear u)));all_goals (by_cases z:F<G;{have B:(F:Int)<(G:Int):=by{omega};rw[Ei z]at a;(go_wp2_with fail);(go_roundw);(case rel=>exact⟨i+1,i,by go_num,rfl,by omega,a.o.symm,O.o⟩);(case measure=>simp[intOf];omega)};{have B:decide ((F:Int)<(G:Int))=false:=by{simp;omega};rw[Eh z]at a;(go_wp2_with fail);(go_roundw);(case rel=>exact⟨i+1,k,by go_num,rfl,by omega,a.o.symm,O.o⟩);(case measure=>simp[intOf];omega)})};{obtain rfl:i=n:=by{omega};(go_wp2_with fail);go_ret;exact⟨by rw[E.o];rfl,f.o⟩})
def lays(cur:Array Value):Nat->List Value->Array Value
 |_,[]=>cur
 |o,v :: r=>lays (cur.setIfInBounds o v) (o+1) r
theorem zah:∀(vs:List Value) (o:Nat) (cur:Array Value),(lays cur o vs).size=cur.size
 |[],_,_=>rfl
 |v :: r,o,cur=>by rw[lays,zah r,Pi]
theorem zdi(g:Nat)(t:TypeId):∀(vs:List Value) (o:Nat) (cur:Array Value) (w:zW),w.heap[g]?=some (.cells cur t (0,0))->(w.setCells g o vs).heap[g]?=some (.cells (lays cur o vs) t (0,0))
 |[],_,_,_,h=>h
 |v :: r,o,_,w,h=>zdi g t r (o+1) _ _ (Ep w g o _ _ v h)
theorem zgc:∀(vs:List Value) (o:Nat) (cur:Array Value),o+vs.length<=cur.size->(lays cur o vs).toList=cur.toList.take o++vs++cur.toList.drop (o+vs.length)
 |[],o,cur,_=>by
  rw[lays,Kj,Ko,Ms,Lr]
 |v :: r,o,cur,h=>by
  rw[Fm]at h;rw[lays,zgc r (o+1) _ (by rw[Pi];omega),Oz,Fm]
  have a:(cur.toList.set o v).take (o+1)=cur.toList.take o++[v]:=by
   rw[Ll,U4 (Ea _),Pv (by rw[Fq];omega)];rfl
  rw[a,List.drop_set_of_lt (by omega),show o+1+r.length=o+(r.length+1) by omega,Fa,Fa,Fa];rfl
theorem zg9:∀(m:List MT) (i:Nat),cells (m.take i)=(cells m).take (i*2)
 |[],i=>by simp[cells]
 |x :: m,0=>by simp[cells]
 |x :: m,i+1=>by
  rw[Np,cells,cells,zg9 m i,show (i+1)*2=i*2+1+1 by omega,Np,Np]
theorem zgY:∀(m:List MT) (i:Nat),cells (m.drop i)=(cells m).drop (i*2)
 |[],i=>by simp[cells]
 |x :: m,0=>by simp
 |x :: m,i+1=>by
  rw[Nq,cells,zgY m i,show (i+1)*2=i*2+1+1 by omega,Nq,Nq]
theorem cells_one(m:List MT)(h:∀x∈m,x.2.oneCell'=true):∀u∈cells m,u.oneCell'=true:=by induction m with|nil=>{intro u a;cases a}|cons x m c=>{intro u a;rw[cells]at a;rcases Ex.1 a with rfl|a;{rfl};{rcases Ex.1 a with rfl|a;{exact h x (E6 ..)};{exact c (fun y b=>h y (E0 _ b)) u a}}}
theorem zp9(a:Array Value)(m:List MT)(n b i:Nat)(e:m.length=n)(l:i<n)(k:n<=b)(f:a.size=b*2)(j:a.toList.take (n*2)=cells m)(x y:Value): (lays (lays a (i*2) (cells (m.drop (i+1)))) ((n-1)*2) [x,y]).toList.take ((m.eraseIdx i).length*2)=cells (m.eraseIdx i):=by have d:(cells (m.drop (i+1))).length=(n-(i+1))*2:=by{rw[QN,Fy,e]};have h:(m.eraseIdx i).length=n-1:=by{rw[Mk,Ei (by omega),e]};have g:a.toList.take (i*2)=cells (m.take i):=by{rw[zg9,<-j,Pw,Lg (by omega)]};rw[h,zgc _ _ _ (by rw[zah,Fm,Fm,Ko,f];omega),Fa,Nl (by rw[E7,Fq,zah,f];omega),Pw,Nat.min_self,zgc _ _ _ (by rw[d,f];omega),g];have c:(cells (m.take i)).length=i*2:=by{rw[QN,E7,e];omega};rw[Nl (by rw[Ek,c,d];omega),Ez (by rw[Ek,c,d];omega),<-zbb,<-List.eraseIdx_eq_take_drop_succ]
theorem Tryz.infoTree:(prog.info? 282).map (fun i=>(i.zero,i.size,i.bytes))=some (some (.agg #[.int .i64 0,.slice none 0 0]),2,32):=by kernel_rfl
theorem zrN(w:zW)(t e ty:TypeId)(i:prog.underlying t=some (.slice e))(k:∀w,(zeroValue e).run prog w=.ok (.agg #[.int .i64 0,.slice none 0 0]) w)(b o c:Nat)(g:∀j,j<2->(w.cell? ⟨b,o+j,none⟩).isSome=true)(h:∀j,j<2->w.frozen? ⟨b,o+j,none⟩=false): (Builtin.clear_ #[t] ty #[.slice (some ⟨b,o,none⟩) 1 c]).run prog w=.ok (.tuple #[]) (w.setCells b o [.int .i64 0,.slice none 0 0]):=by have f:(Builtin.zeroCells (Value.agg #[.int .i64 0,.slice none 0 0]).cells 1).toList=[.int .i64 0,.slice none 0 0]:=by{kernel_rfl};have a:=run_storeCells_cells (P:=prog) b o [.int .i64 0,.slice none 0 0] 0 w (by simpa using g) (by simpa using h) (by intro v d;simp at d;rcases d with rfl|rfl<;>rfl);simp only[Ms]at a;simp[Builtin.clear_,Lh i,k,f,a]
theorem zqC(w:zW):(zeroValue 282).run prog w=.ok (.agg #[.int .i64 0,.slice none 0 0]) w:=by simp[zeroValue,go_sem];rfl
theorem zo9(g k a i:Nat)(m:List MT)(d:Array Value)(w:zW)(M:m.length=k+1)(Y:i<=k)(X:k+1<=a)(y:k<=257)(p:w.heap[g]?=some (.cells d 282 (0,0)))(O:d.size=a*2)(C:d.toList.take ((k+1)*2)=cells m)(H:∀x∈m,x.2.oneCell'=true): Calls prog 272 #[.slice (some ⟨g,0,none⟩) (k+1) a,.int .i64 i,.int .i64 ((i:Int)+1)] w fun e w'=>e=.returned (.slice (some ⟨g,0,none⟩) k a)/\w'=(w.drew.setCells g (0+i*2) (cells (m.drop (i+1)))).setCells g (k*2) [.int .i64 0,.slice none 0 0]:=by obtain⟨S,s,Q,v,R⟩:=E4 Tryz.infoTree;have K:i<=a:=by{omega};have L:i+1<=a:=by{omega};have g1:(i:Int)+1<=(k:Int)+1:=by{omega};have g2:(i:Int)+1<=a:=by{omega};have g3:(k:Int)+1<=a:=by{omega};have g4:((i:Int)==(i:Int)+1)=false:=by{simp;omega};have U:(0:Int)<=(i:Int)+1:=by{omega};have W:i+(k-i)=k:=by{omega};have b:(cells (m.drop (i+1))).length=(k-i)*2:=by{rw[QN,Fy,M];omega};obtain⟨A,V,l⟩:∃A:Addr,(if a=i+1 then some (⟨g,0,none⟩:Addr) else some ⟨g,(i+1)*2,none⟩)=some A/\Hid (∀t u,(cells (m.drop (i+1)))[t]?=some u->w.drew.cell? (A.add t)=some u):=by{by_cases h:a=i+1;{refine⟨⟨g,0,none⟩,by simp[h],fun t u o=>?_⟩;have G:(cells (m.drop (i+1))).length=0:=by{rw[b];omega};rw[Sv.1 G]at o;simp at o};{refine⟨⟨g,(i+1)*2,none⟩,by simp[h],fun t u o=>?_⟩;have r:t<(k-i)*2:=by{have:=(Ki.1 o).1;rwa[b]at this};rw[Ol];refine(El w g _ _ _ _ p).trans ?_;rw[zgY,Mi,<-C,Fd (by omega),Fs]at o;exact o}};have D:Hid ((cells (m.drop (i+1))).length=(k-i)*2):=b;have E:Hid (∀u∈cells (m.drop (i+1)),u.oneCell'=true):=cells_one _ fun x P=>H x (List.mem_of_mem_drop P);have q:∀j,j<a*2->(w.cell? ⟨g,j,none⟩).isSome=true:=fun j B=>by{rw[El w g j _ _ _ p,Lz (by omega)];rfl};have F:Hid (∀t,t<(cells (m.drop (i+1))).length->(w.drew.cell? ⟨g,0+i*2+t,none⟩).isSome=true/\w.drew.frozen? ⟨g,0+i*2+t,none⟩=false):=fun t r=>by{rw[b]at r;exact⟨q _ (by omega),Ee w g _ _ _ p⟩};obtain⟨c,f⟩:∃c,c=w.drew.setCells g (0+i*2) (cells (m.drop (i+1))):=⟨_,rfl⟩;have n:c.heap[g]?=some (.cells (lays d (0+i*2) (cells (m.drop (i+1)))) 282 (0,0)):=by{rw[f];exact zdi g _ _ _ _ _ p};have I:∀ty,(Builtin.clear_ #[278] ty #[.slice (some ⟨g,k*2,none⟩) 1 (a-k)]).run prog c=.ok (.tuple #[]) (c.setCells g (k*2) [.int .i64 0,.slice none 0 0]):=fun ty=>zrN c _ _ ty underlying278 zqC g _ _ (fun j B=>by{rw[El c g _ _ _ _ n,Lz (by rw[zah];omega)];rfl}) (fun j B=>Ee c g _ _ _ n);have z:Hid (c=w.drew.setCells g (0+i*2) (cells (m.drop (i+1)))):=f;rw[<-f];generalize cells (m.drop (i+1))=news at l D E F z;clear b n q p C O f;go_enter func272,ntmps272;(go_wp2_with fail);(go_region_law (refine step_append_room rfl (.tmp 22) (.tmp 25) 278 rfl 282 S 2 underlying278 s v g 0 i a (by simp[Act.eval,Act.put]) A (k-i) (a-(i+1)) news (by simp[Act.eval,Act.put]) D.o l.o E.o (by omega) F.o ?_;rw[<-z.o]));(go_wp2_with fail);go_ret;exact⟨rfl,rfl⟩
end Hf
namespace Bi
def okL(m x:Int):Prop:=0<=x/\x<=m
def within(l:List Int)(m:Int):Bool:=decide (l.length<=257/\∀x∈l,0<=x/\x<=m)
theorem qb{l:List Int}{m:Int}(h:within l m=true):l.length<=257/\∀x∈l,0<=x/\x<=m:=Fh h
theorem J5{l:List Int}{m:Int}(a:l.length<=257)(b:∀x∈l,0<=x/\x<=m):within l m=true:=Eo ⟨a,b⟩
theorem zcw{l:List Int}{m:Int}(h:257<l.length):within l m=false:=Ed fun x=>by have:=x.1;omega
theorem zhG{l:List Int}{m:Int}{j:Nat}(a:j<l.length)(h:l[j]<0∨m<l[j]):within l m=false:=Ed fun x=>by
 have:=x.2 _ (Er a)
 omega
def part(x:Int):Nat:=if 0<x then 2 ^ (12-x.toNat) else 0
def j8(l:List Int):Nat:=(l.map part).sum
def zJ(l:List Int):Nat:=l.countP fun x=>decide (0<x)
theorem Z4{l:List Int}{k:Nat}(h:k<l.length):l.take (k+1)=l.take k++[l[k]]:=Kw h
theorem zfh(l:List Int)(x:Int):j8 (l++[x])=j8 l+part x:=by simp[j8]
theorem zea(l:List Int)(x:Int):zJ (l++[x])=zJ l+if 0<x then 1 else 0:=by simp[zJ,List.countP_append,Pf]
theorem zkT{l:List Int}{k:Nat}(h:k<l.length):j8 (l.take (k+1))=j8 (l.take k)+part l[k]:=by rw[Z4 h,zfh]
theorem zdW{l:List Int}{k:Nat}(h:k<l.length):zJ (l.take (k+1))=zJ (l.take k)+if 0<l[k] then 1 else 0:=by rw[Z4 h,zea]
theorem zpg(x:Int):part x<=4096:=by unfold part;split;{have:=Kv (n:=2) (by decide) (show 12-x.toNat<=12 by omega);omega};{omega}
theorem zb2(l:List Int):zJ l<=l.length:=P2
theorem zdD:∀l:List Int,zJ l=0->j8 l=0/\∀x∈l,¬0<x:=by intro l;induction l with|nil=>{intro _;exact⟨rfl,fun x a=>by cases a⟩}|cons x l f=>{intro h;simp only[zJ,Pf]at h;have a:¬0<x:=by{intro a;simp[a]at h};obtain⟨c,d⟩:=f (by simp only[zJ];omega);refine⟨?_,fun y b=>?_⟩;{simp only[j8,Ka,Kg];simp only[j8]at c;rw[c,part,Eh a]};{rcases Ex.1 b with e|b;{rw[e];exact a};{exact d y b}}}
theorem zqt:∀l:List Int,zJ l=1->∃x,x∈l/\0<x/\j8 l=2 ^ (12-x.toNat)/\∀y∈l,0<y->y=x:=by intro l;induction l with|nil=>{intro h;simp[zJ]at h}|cons x l n=>{intro h;simp only[zJ,Pf]at h;by_cases b:0<x;{simp[b]at h;have i:zJ l=0:=by{simp only[zJ,U8];intro y a;have:=h y a;simpa using this};obtain⟨f,j⟩:=zdD l i;refine⟨x,E6,b,?_,fun y a c=>?_⟩;{simp only[j8,Ka,Kg];simp only[j8]at f;rw[f,part,Ei b];rfl};{rcases Ex.1 a with e|a;{exact e};{exact absurd c (j y a)}}};{simp[b]at h;obtain⟨z,m,d,g,k⟩:=n h;refine⟨z,E0 _ m,d,?_,fun y a c=>?_⟩;{simp only[j8,Ka,Kg];simp only[j8]at g;rw[g,part,Eh b,Ff]};{rcases Ex.1 a with e|a;{rw[e]at c;exact absurd c b};{exact k y a c}}}}
theorem zzM(n:Nat)(b:1<=n)(h:2 ^ (12-n)=2048):n=1:=by rcases Ky n 13 with a|a;{have:n=1∨n=2∨n=3∨n=4∨n=5∨n=6∨n=7∨n=8∨n=9∨n=10∨n=11∨n=12:=by{omega};rcases this with rfl|rfl|rfl|rfl|rfl|rfl|rfl|rfl|rfl|rfl|rfl|rfl<;>first|rfl|(simp at h)};{rw[show 12-n=0 by omega]at h;simp at h}
theorem alone(l:List Int)(h:zJ l=1):l.contains 1=decide (j8 l=2048):=by obtain⟨x,j,k,a,f⟩:=zqt l h;by_cases e:x=1;{subst e;rw[Ou.2 j,a];rfl};{have b:¬(1:Int)∈l:=fun i=>e (f 1 i (by decide)).symm;have c:¬j8 l=2048:=by{rw[a];intro d;have:=zzM x.toNat (by omega) d;omega};rw[Ed c];cases g:l.contains 1 with|false=>{rfl}|true=>{exact absurd (Ou.1 g) b}}
def right(l:List Int):Bool:=within l 12 && decide (j8 l<=4096)
def whole(l:List Int):Bool:=right l && (decide (j8 l=4096) || decide (zJ l=1) && decide (j8 l=2048))
theorem zH{l:List Int}(h:right l=true):within l 12=true/\j8 l<=4096:=by unfold right at h;rw[Fp]at h;exact⟨h.1,Fh h.2⟩
theorem znH{l:List Int}(a:within l 12=true)(b:j8 l<=4096):right l=true:=by unfold right;rw[a,Eo b];rfl
theorem zc5{l:List Int}(h:within l 12=false∨¬j8 l<=4096):right l=false:=by unfold right;rcases h with h|h;{rw[h];rfl};{rw[Ed h,Ry]}
theorem zh9{l:List Int}(h:right l=false):whole l=false:=by unfold whole;rw[h];rfl
theorem zuL(n:Nat)(a:1<=n)(b:n<=12):(4096:Int)/2 ^ n=((2 ^ (12-n):Nat):Int):=by have:n=1∨n=2∨n=3∨n=4∨n=5∨n=6∨n=7∨n=8∨n=9∨n=10∨n=11∨n=12:=by{omega};rcases this with rfl|rfl|rfl|rfl|rfl|rfl|rfl|rfl|rfl|rfl|rfl|rfl<;>rfl
end Bi
namespace Ze
theorem zh{p:Prop}(h:p):Hid p:=h
def JT(r:Nat):List Int :=
 if r=0 then [] else if r%2=1 then 0 :: JT ((r-1)/2) else 1 :: JT ((r-2)/2)
termination_by r
decreasing_by all_goals omega
theorem zbz:JT 0=[]:=by rw[JT];rfl
theorem zdk{r:Nat}(h:r%2=1):JT r=0 :: JT ((r-1)/2):=by rw[JT,Eh (by omega),Ei h]
theorem zbl{r:Nat}(a:0<r)(h:¬r%2=1):JT r=1 :: JT ((r-2)/2):=by rw[JT,Eh (by omega),Eh h]
theorem zeR(r:Nat):(JT r).length<=r:=by induction r using Nat.strongRecOn with|ind r b=>{by_cases c:r=0;{subst c;rw[zbz];exact Ea _};{by_cases a:r%2=1;{rw[zdk a,Fm];have:=b ((r-1)/2) (by omega);omega};{rw[zbl (by omega) a,Fm];have:=b ((r-2)/2) (by omega);omega}}}
theorem znv(r:Nat):∀x∈JT r,x=0∨x=1:=by induction r using Nat.strongRecOn with|ind r c=>{intro x a;by_cases d:r=0;{subst d;rw[zbz]at a;cases a};{by_cases b:r%2=1;{rw[zdk b]at a;rcases Ex.1 a with e|a;{exact .inl e};{exact c ((r-1)/2) (by omega) x a}};{rw[zbl (by omega) b]at a;rcases Ex.1 a with e|a;{exact .inr e};{exact c ((r-2)/2) (by omega) x a}}}}
def ziW(l:List Int)(m:Int):Bool:=decide (∀x∈l,0<=x/\x<=m)
theorem Zv{l:List Int}{m:Int}(h:ziW l m=true):∀x∈l,0<=x/\x<=m:=Fh h
theorem zcO{l:List Int}{m:Int}(h:∀x∈l,0<=x/\x<=m):ziW l m=true:=Eo h
theorem ze3{l:List Int}{m:Int}{j:Nat}(a:j<l.length)(h:l[j]<0∨m<l[j]):ziW l m=false:=Ed fun x=>by
 have:=x _ (Er a)
 omega
def j7(l:List Int)(m:Int):Bool:=decide (l.length<=400) && ziW l m
theorem jQ{l:List Int}{m:Int}(h:j7 l m=true):l.length<=400/\ziW l m=true:=by unfold j7 at h;rw[Fp]at h;exact⟨Fh h.1,h.2⟩
theorem Jb{l:List Int}{m:Int}(h:400<l.length):j7 l m=false:=by unfold j7;rw[Ed (by omega)];rfl
theorem Qz{l:List Int}{m:Int}(h:l.length<=400):j7 l m=ziW l m:=by unfold j7;rw[Eo h];rfl
def ztc(s:List Int × Nat)(n:Int):List Int × Nat:=if n=0 then (s.1,s.2+1) else (s.1++JT s.2++[n+1],0)
def zst(l:List Int):List Int × Nat:=l.foldl ztc ([],0)
theorem zmZ{l:List Int}{k:Nat}(h:k<l.length):zst (l.take (k+1))=ztc (zst (l.take k)) l[k]:=by unfold zst;rw[Bi.Z4 h,K5];rfl
theorem zcX{l:List Int}{k:Nat}(h:k<l.length)(a:l[k]=0):zst (l.take (k+1))=((zst (l.take k)).1,(zst (l.take k)).2+1):=by rw[zmZ h,ztc,Ei a]
theorem zbe{l:List Int}{k:Nat}(h:k<l.length)(a:¬l[k]=0):zst (l.take (k+1))=((zst (l.take k)).1++JT (zst (l.take k)).2++[l[k]+1],0):=by rw[zmZ h,ztc,Eh a]
theorem zma(l:List Int):(zst l).1.length+(zst l).2<=l.length:=by suffices h:∀k,k<=l.length->(zst (l.take k)).1.length+(zst (l.take k)).2<=k by{have:=h l.length (Ea _);rwa[Fb]at this};intro k;induction k with|zero=>{intro _;simp[zst]}|succ k c=>{intro b;have:=c (by omega);by_cases a:l[k]=0;{rw[zcX b a];simp only;omega};{rw[zbe b a];have d:=zeR (zst (l.take k)).2;simp only[Ek,Fm,Ko];omega}}
def QL(l:List Int):List Int:=if j7 l 255=true then (zst l).1++JT (zst l).2 else []
theorem zbW{l:List Int}(h:j7 l 255=true):QL l=(zst l).1++JT (zst l).2:=Ei h
theorem zbm{l:List Int}(h:j7 l 255=false):QL l=[]:=Eh (by rw[h];decide)
theorem zb5(l:List Int):(QL l).length<=l.length:=by unfold QL;split;{rw[Ek];have:=zma l;have:=zeR (zst l).2;omega};{exact En _}
def zgG(s:List Int × Nat)(n:Int):List Int × Nat:=if 1<n then (s.1++[n-1],1) else (s.1++List.replicate ((n.toNat+1)*s.2) 0,s.2*2)
def bst(l:List Int):List Int × Nat:=l.foldl zgG ([],1)
theorem zm3{l:List Int}{k:Nat}(h:k<l.length):bst (l.take (k+1))=zgG (bst (l.take k)) l[k]:=by unfold bst;rw[Bi.Z4 h,K5];rfl
theorem ziO{l:List Int}{k:Nat}(h:k<l.length)(a:1<l[k]):bst (l.take (k+1))=((bst (l.take k)).1++[l[k]-1],1):=by rw[zm3 h,zgG,Ei a]
theorem zdq{l:List Int}{k:Nat}(h:k<l.length)(a:¬1<l[k]):bst (l.take (k+1))=((bst (l.take k)).1++List.replicate ((l[k].toNat+1)*(bst (l.take k)).2) 0,(bst (l.take k)).2*2):=by rw[zm3 h,zgG,Eh a]
theorem zjE(l:List Int):∀k,k<=l.length->1<=(bst (l.take k)).2/\(bst (l.take k)).2<=(bst (l.take k)).1.length+1:=by intro k;induction k with|zero=>{intro _;simp[bst]}|succ k f=>{intro b;obtain⟨d,e⟩:=f (by omega);by_cases a:1<l[k];{rw[ziO b a];simp only[Ek,Fm,Ko];omega};{rw[zdq b a];simp only[Ek,Fj];generalize (bst (l.take k)).2=c at d e ⊢;have:c<=(l[k].toNat+1)*c:=Ud _ (by omega);omega}}
theorem zmf{l:List Int}{k:Nat}(h:k<l.length):(bst (l.take k)).1.length<=(bst (l.take (k+1))).1.length:=by by_cases a:1<l[k];{rw[ziO h a];simp only[Ek];omega};{rw[zdq h a];simp only[Ek];omega}
theorem zvd(l:List Int)(j:Nat):∀k,j<=k->k<=l.length->(bst (l.take j)).1.length<=(bst (l.take k)).1.length:=by intro k;induction k with|zero=>{intro h _;rw[show j=0 by omega];exact Ea _}|succ k c=>{intro h b;rcases Ky k j with a|a;{rw[show j=k+1 by omega];exact Ea _};{exact Fe (c a (by omega)) (zmf b)}}
def ZM(l:List Int):List Int:=if j7 l 256=true/\(bst l).1.length<=400 then (bst l).1 else []
theorem zfx{l:List Int}(h:j7 l 256=true)(a:(bst l).1.length<=400):ZM l=(bst l).1:=Ei ⟨h,a⟩
theorem zdz{l:List Int}(h:j7 l 256=false):ZM l=[]:=Eh fun x=>by rw[h]at x;exact absurd x.1 (by decide)
theorem zdC{l:List Int}{k:Nat}(a:k<=l.length)(b:400<(bst (l.take k)).1.length):ZM l=[]:=Eh fun x=>by
 have:=zvd l k l.length a (Ea _)
 rw[Fb]at this
 have:=x.2
 omega
theorem zbj(l:List Int):(ZM l).length<=400:=by unfold ZM;split;{rename_i h;exact h.2};{simp}
end Ze
namespace Bi
open In (Ints)
open Ze (ziW Zv zcO ze3)
theorem QC(l:List Int)(m:Int)(a:Option Addr)(s B:Nat)(w:zW)(C:Ints w B a l)(H:l.length<=1048576): Calls prog 215 #[.slice a l.length s,.int .i64 m] w fun e w'=>e=.returned (.bool (ziW l m))/\w'=w:=by have D:=zf C;clear C;obtain⟨n,f⟩:∃n,n=l.length:=⟨_,rfl⟩;have h:=zf f;rw[<-f]at H ⊢;clear f;go_enter func215,ntmps215;(go_wp2_with fail);(go_loopw [9] (fun i wr=>∃k:Nat,i=.int .i64 k/\k<=n/\(∀j (p:j<l.length),j<k->0<=l[j]/\l[j]<=m)/\wr=w) (fun i _=>n-(intOf i).toNat));(case atStart=>exact⟨0,rfl,En _,fun j p o=>absurd o (Kd j),rfl⟩);(case round=>obtain⟨k,rfl,L,c,I⟩:=hrel;subst I;have v:=zf c;clear c;by_cases u:k<n;{have d:k<l.length:=by{rw[<-h.o];exact u};obtain⟨b,off,rfl,K,z⟩:=D.o.some (by omega);have E:=z k d;obtain⟨x,q⟩:∃x,x=l[k]:=⟨_,rfl⟩;have r:=zf q;rw[<-q]at E;clear z q;by_cases o:x<0;{have g:=zf (ze3 (m:=m) d (by rw[<-r.o];exact Or.inl o));(go_wp2_with fail);go_ret;exact⟨zO g.o.symm,rfl⟩};{by_cases y:m<x;{have g:=zf (ze3 (m:=m) d (by rw[<-r.o];exact Or.inr y));have t:decide (x<0)=false:=Ed o;(go_wp2_with fail);go_ret;exact⟨zO g.o.symm,rfl⟩};{have t:decide (x<0)=false:=Ed o;have F:decide (m<x)=false:=Ed y;(go_wp2_with fail);(go_roundw);(case rel=>refine⟨k+1,by go_num,by omega,fun j p G=>?_,trivial⟩;by_cases e:j=k;{subst e;rw[<-r.o];omega};{exact v.o j p (by omega)});(case measure=>simp[intOf];omega)}}};{have g:Hid (ziW l m=true):=zcO (fun x q=>by{obtain⟨j,p,rfl⟩:=Fn q;exact v.o j p (by have:=h.o;omega)});(go_wp2_with fail);go_ret;exact⟨zO g.o.symm,rfl⟩})
theorem zln{l:List Int}{m:Int}(h:l.length<=257):within l m=ziW l m:=by unfold within ziW;exact P7.2 ⟨fun x=>x.2,fun x=>⟨h,x⟩⟩
theorem zao(l:List Int)(m:Int)(a:Option Addr)(c B:Nat)(w:zW)(g:Ints w B a l)(h:l.length<=1048576): Calls prog 219 #[.slice a l.length c,.int .i64 m] w fun e w'=>e=.returned (.bool (within l m))/\w'=w:=by by_cases b:257<l.length;{have d:=zf (zcw (l:=l) (m:=m) b);clear g;generalize l.length=n at b h ⊢;have hd:decide ((n:Int)<=257)=false:=Ed (by omega);go_enter func219,ntmps219;(go_wp2_with fail);go_ret;exact⟨zO d.o.symm,rfl⟩};{have f:=zf (QC l m a c B w g h);have d:=zf (zln (m:=m) (show l.length<=257 by omega));clear g;generalize l.length=n at b h f ⊢;generalize ziW l m=u at f d;have hd:(n:Int)<=257:=by{omega};go_enter func219,ntmps219;(go_wp2_with fail);refine f.o.mono ?_;rintro e w' ⟨rfl,i⟩;subst w';(go_wp2_with fail);go_ret;exact⟨zO d.o.symm,rfl⟩}
theorem znd(x:Int)(a:0<x)(b:x<=12):∃n:Nat,x=n/\1<=n/\n<=12/\part x=2 ^ (12-n):=⟨x.toNat,by omega,by omega,by omega,by unfold part;rw[Ei a]⟩
theorem zkv(x:Int)(a:¬0<x):part x=0:=Eh a
theorem zmG(l:List Int)(a:Option Addr)(p B:Nat)(w:zW)(F:Ints w B a l)(z:within l 12=true): Calls prog 256 #[.slice a l.length p] w fun e w'=>e=.returned (.int .i64 (j8 l:Nat))/\w'=w:=by have K:=zf F;have L:=zf (qb z).2;have O:=(qb z).1;clear F z;obtain⟨n,f⟩:∃n,n=l.length:=⟨_,rfl⟩;have g:=zf f;rw[<-f]at O ⊢;clear f;go_enter func256,ntmps256;(go_wp2_with fail);(go_loopw [8,3] (fun i v wr=>∃k s:Nat,i=.int .i64 k/\v=.int .i64 s/\k<=n/\s=j8 (l.take k)/\s<=4096*k/\wr=w) (fun i _ _=>n-(intOf i).toNat));(case atStart=>exact⟨0,0,rfl,rfl,En _,by simp[j8],by omega,rfl⟩);(case round=>obtain⟨k,s,rfl,rfl,U,G,P,Q⟩:=hrel;subst Q;have j:=zf G;clear G;by_cases q:k<n;{have d:k<l.length:=by{rw[<-g.o];exact q};obtain⟨b,off,rfl,S,E⟩:=K.o.some (by omega);have M:=E k d;have o:=zf (zkT d);have c:=L.o _ (Er d);obtain⟨x,H⟩:∃x,x=l[k]:=⟨_,rfl⟩;rw[<-H]at M c o;clear E H;by_cases D:0<x;{obtain⟨m,rfl,r,t,u⟩:=znd x D c.2;have C:=zuL m r t;have y:2 ^ (12-m)<=4096:=by{have:=zpg (m:Int);rw[u]at this;exact this};have h:=zf u;clear u;generalize 2 ^ (12-m)=R at C y h;(go_wp2_with fail);(go_roundw);(case rel=>exact⟨k+1,s+R,by go_num,by go_num,by omega,by rw[o.o,h.o,j.o],by omega,trivial⟩);(case measure=>simp[intOf];omega)};{have h:=zf (zkv x D);(go_wp2_with fail);(go_roundw);(case rel=>exact⟨k+1,s,by go_num,rfl,by omega,by rw[o.o,h.o,j.o];rfl,by omega,trivial⟩);(case measure=>simp[intOf];omega)}};{have I:Hid (s=j8 l):=by{unfold Hid;rw[j.o,Ez (by have:=g.o;omega)]};(go_wp2_with fail);go_ret;exact⟨by rw[<-I.o];rfl,rfl⟩})
theorem Qu(l:List Int)(a:Option Addr)(m B:Nat)(w:zW)(r:Ints w B a l)(D:l.length<=1048576): Calls prog 180 #[.slice a l.length m] w fun e w'=>e=.returned (.int .i64 (zJ l:Nat))/\w'=w:=by have z:=zf r;clear r;obtain⟨n,d⟩:∃n,n=l.length:=⟨_,rfl⟩;have f:=zf d;rw[<-d]at D ⊢;clear d;go_enter func180,ntmps180;(go_wp2_with fail);(go_loopw [8,3] (fun i v wr=>∃k s:Nat,i=.int .i64 k/\v=.int .i64 s/\k<=n/\s=zJ (l.take k)/\s<=k/\wr=w) (fun i _ _=>n-(intOf i).toNat));(case atStart=>exact⟨0,0,rfl,rfl,En _,by simp[zJ],by omega,rfl⟩);(case round=>obtain⟨k,s,rfl,rfl,H,t,E,F⟩:=hrel;subst F;have h:=zf t;clear t;by_cases o:k<n;{have g:k<l.length:=by{rw[<-f.o];exact o};obtain⟨b,off,rfl,G,q⟩:=z.o.some (by omega);have C:=q k g;have j:=zf (zdW g);obtain⟨x,u⟩:∃x,x=l[k]:=⟨_,rfl⟩;rw[<-u]at C j;clear q u;by_cases p:0<x;{have c:Hid (zJ (l.take (k+1))=s+1):=by{unfold Hid;rw[j.o,Ei p,h.o]};(go_wp2_with fail);(go_roundw);(case rel=>exact⟨k+1,s+1,by go_num,by go_num,by omega,c.o.symm,by omega,trivial⟩);(case measure=>simp[intOf];omega)};{have c:Hid (zJ (l.take (k+1))=s):=by{unfold Hid;rw[j.o,Eh p,h.o];rfl};(go_wp2_with fail);(go_roundw);(case rel=>exact⟨k+1,s,by go_num,rfl,by omega,c.o.symm,by omega,trivial⟩);(case measure=>simp[intOf];omega)}};{have y:Hid (s=zJ l):=by{unfold Hid;rw[h.o,Ez (by have:=f.o;omega)]};(go_wp2_with fail);go_ret;exact⟨by rw[<-y.o];rfl,rfl⟩})
theorem zoa(l:List Int)(y:Int)(a:Option Addr)(s B:Nat)(w:zW)(E:Ints w B a l)(K:l.length<=1048576): Calls prog 274 #[.slice a l.length s,.int .i64 y] w fun e w'=>(∃r:Int,e=.returned (.int .i64 r)/\Hid (l.contains y=decide (0<=r)))/\w'=w:=by have F:=zf E;clear E;obtain⟨n,f⟩:∃n,n=l.length:=⟨_,rfl⟩;have g:=zf f;rw[<-f]at K ⊢;clear f;go_enter func274,ntmps274;(go_wp2_with fail);(go_loopw [8] (fun i wr=>∃k:Nat,i=.int .i64 k/\k<=n/\(∀j (m:j<l.length),j<k->l[j]≠y)/\wr=w) (fun i _=>n-(intOf i).toNat));(case atStart=>exact⟨0,rfl,En _,fun j m c=>absurd c (Kd j),rfl⟩);(case round=>obtain⟨k,rfl,M,d,L⟩:=hrel;subst L;have v:=zf d;clear d;by_cases t:k<n;{have o:k<l.length:=by{rw[<-g.o];exact t};obtain⟨b,off,rfl,C,D⟩:=F.o.some (by omega);have G:=D k o;obtain⟨x,u⟩:∃x,x=l[k]:=⟨_,rfl⟩;have z:=zf u;rw[<-u]at G;clear D u;by_cases c:y=x;{have C:(y==x)=true:=Lb.2 c;have p:Hid (l.contains y=true):=by{unfold Hid;rw[Ou,c,z.o];exact Er o};clear c;(go_wp2_with fail);go_ret;exact⟨⟨k,rfl,p.o.trans (Eo (by omega)).symm⟩,rfl⟩};{have C:(y==x)=false:=Es.2 c;have q:=zf c;clear c;(go_wp2_with fail);(go_roundw);(case rel=>refine⟨k+1,by go_num,by omega,fun j m H=>?_,trivial⟩;by_cases e:j=k;{subst e;rw[<-z.o];exact fun h=>q.o h.symm};{exact v.o j m (by omega)});(case measure=>simp[intOf];omega)}};{have p:Hid (l.contains y=false):=by{unfold Hid;rw[Px,Ne,Ou];intro I;obtain⟨j,m,e⟩:=Fn I;exact v.o j m (by have:=g.o;omega) e};(go_wp2_with fail);go_ret;exact⟨⟨-1,rfl,p.o⟩,rfl⟩})
theorem zh0(l:List Int)(y:Int)(a:Option Addr)(b B:Nat)(w:zW)(i:Ints w B a l)(j:l.length<=1048576): Calls prog 255 #[.slice a l.length b,.int .i64 y] w fun e w'=>e=.returned (.bool (l.contains y))/\w'=w:=by have g:=zf (zoa l y a b B w i j);clear i;generalize l.length=n at g j ⊢;generalize l.contains y=c at g ⊢;go_enter func255,ntmps255;(go_wp2_with fail);refine g.o.mono ?_;rintro e w' ⟨⟨r,rfl,d⟩,m⟩;subst w';by_cases h:0<=r;{have f:Hid (c=true):=d.o.trans (Eo h);clear d;(go_wp2_with fail);go_ret;exact⟨zO f.o.symm,rfl⟩};{have f:Hid (c=false):=d.o.trans (Ed h);have k:=zf d.o;clear d;(go_wp2_with fail);go_ret;exact⟨zO (by first|exact f.o.symm|exact k.o.symm),rfl⟩}
theorem ZU(l:List Int)(a:Option Addr)(f B:Nat)(w:zW)(i:Ints w B a l)(j:l.length<=1048576): Calls prog 254 #[.slice a l.length f] w fun e w'=>e=.returned (.bool (right l))/\w'=w:=by have d:=zf (zao l 12 a f B w i j);cases b:within l 12 with|false=>{have h:=zf (zc5 (l:=l) (Or.inl b));rw[b]at d;clear i b;generalize l.length=n at d j ⊢;go_enter func254,ntmps254;(go_wp2_with fail);refine d.o.mono ?_;rintro e w' ⟨rfl,b⟩;subst w';(go_wp2_with fail);go_ret;exact⟨zO h.o.symm,rfl⟩}|true=>{have g:=zf (zmG l a f B w i b);by_cases k:j8 l<=4096;{have h:=zf (znH b k);rw[b]at d;clear i b;generalize l.length=n at d g j ⊢;generalize j8 l=c at g k;have m:(c:Int)<=4096:=by{omega};go_enter func254,ntmps254;(go_wp2_with fail);refine d.o.mono ?_;rintro e w' ⟨rfl,b⟩;subst w';(go_wp2_with fail);refine g.o.mono ?_;rintro e w' ⟨rfl,b⟩;subst w';(go_wp2_with fail);go_ret;exact⟨zO h.o.symm,rfl⟩};{have h:=zf (zc5 (l:=l) (Or.inr k));rw[b]at d;clear i b;generalize l.length=n at d g j ⊢;generalize j8 l=c at g k;have m:decide ((c:Int)<=4096)=false:=Ed (by omega);go_enter func254,ntmps254;(go_wp2_with fail);refine d.o.mono ?_;rintro e w' ⟨rfl,b⟩;subst w';(go_wp2_with fail);refine g.o.mono ?_;rintro e w' ⟨rfl,b⟩;subst w';(go_wp2_with fail);go_ret;exact⟨zO h.o.symm,rfl⟩}}
end Bi
namespace Ap
def zhJ(e:TypeId)(W W':zW):Prop:=∀(g:Nat) (cur:Array Value) (t:TypeId),t≠e->W.heap[g]?=some (.cells cur t (0,0))->W'.heap[g]?=some (.cells cur t (0,0))
theorem zhJ.below{e:TypeId}{W W':zW}(h:zU W W'):zhJ e W W':=fun g _ _ _ a=>(h.block g (Ev.1 a).1).trans a
theorem zpo{W W':zW}{base size n:Nat}{e:TypeId}{v:Value}{xs:List Value}(h:W.grownBy W' v.ownBlock)(c:W.ownsRow base e size v n xs):zhJ e W W':=fun g i t l a=>by
 rw[h.block g (Ev.1 a).1 (by
  intro b;obtain⟨_,c⟩:=c
  rcases c with⟨d,_⟩|⟨k,f,m,d,_,j,_⟩
  ·subst d
   simp[Value.ownBlock]at b
  ·subst d
   simp[Value.ownBlock]at b;subst b;rw[j]at a;simp at a
   exact l a.2.symm)]
 exact a
theorem zeB{P:Program}(w:zW)(base:Nat)(t ty e:TypeId)(i:TypeInfo)(z:Value)(size f:Nat)(I:P.underlying t=some (.slice e))(H:P.info? e=some i)(K:i.zero=some z)(o:i.size=size)(q:i.bytes=f)(s:z.cells.size=size)(E:0<size)(v:Value)(n:Nat)(xs:List Value)(d:JH w base e size v n xs)(a:Addr)(m c:Nat)(news:List Value)(r:news.length=m*size)(l:∀j u,news[j]?=some u->w.cell? (a.add j)=some u)(L:∀u∈news,u.oneCell'=true)(Q:0<m)(p:n+m<=maxLen)(g:(n+m)*f<=140737488355328)(h:base<=w.heap.size): ∃v' w',(Builtin.append_ #[t,t] ty #[v,.slice (some a) m c]).run P w=.ok v' w'/\w'.ownsRow base e size v' (n+m) (xs++news)/\(∀B,B<=base->Below B w w')/\zhJ e w w':=by rcases d with⟨b,rfl,rfl,rfl⟩|d;{subst o;subst q;have x:m<=9223372036854775807:=by{simp only[maxLen]at p;omega};have D:=Ul (P:=P) w t ty e i z I H K b 0 0 [] (by simp) (by simp) a m c news r l (by omega) (by omega) (Ru (by omega) g);refine⟨_,_,D,?_,fun B G=>?_,zhJ.below (((Eb _ w).drew).alloc (Ea _) _)⟩;{have C:=Rc w (0+m) 0 e;have y:grownCap w (0+m) 0 e<=maxLen:=Nx w (0+m) 0 e p;refine⟨by simpa using r,.inr ⟨w.heap.size,_,_,rfl,h,E2 w.drew _,C,y,?_,?_⟩⟩;{simp only[Sk,Ke,Rv,s,r,Ko];rw[Ff,<-Nj];congr 1;omega};{simp only[Mb,Mg];rw[show (0+m)*i.size=news.length by rw[Ff,r]];exact Pt}};{exact((Eb B w).drew).alloc (by simp;omega) _}};{obtain⟨v',w',D,M,F,_⟩:=run_append_own (P:=P) w base t ty e i z size f I H K o q s E v n xs d a m c news r l L p g h;refine⟨v',w',D,M,fun B G=>(Eb B w).grown F (by omega) ?_,zpo F d⟩;intro k O;exact Fe G (d.lt k O).1}
theorem qc{P:Program}(w:zW){p:Array Oper}{rest:List Oper}{o:Oper}{a:Act}{Q:Exit->Act->zW->Prop}(C:o.guard=none)(s x:Operand)(t:TypeId)
  (R:o.op=.call { callee:=.builtin .append,args:=#[s,x],argTypes:=#[t,t] })
  (base:Nat) (e:TypeId) (i:TypeInfo) (z:Value) (size b:Nat) (V:P.underlying t=some (.slice e)) (L:P.info? e=some i) (X:i.zero=some z)
  (k:i.size=size) (y:i.bytes=b) (E:z.cells.size=size) (D:0<size)
  (v:Value) (n:Nat) (xs:List Value) (U:a.eval s=v) (l:JH w base e size v n xs)
  (q:Addr) (m c:Nat) (news:List Value) (W:a.eval x=.slice (some q) m c) (M:news.length=m*size) (g:∀j u,news[j]?=some u->w.cell? (q.add j)=some u) (F:∀u∈news,u.oneCell'=true) (O:0<m)
  (r:n+m<=maxLen) (d:(n+m)*b<=140737488355328) (f:base<=w.heap.size)
  (h:∀v' w',w'.ownsRow base e size v' (n+m) (xs++news)->(∀B,B<=base->Below B w w')->zhJ e w w'->wpList P p Q rest (a.put o.dst v') w'):wpList P p Q (o :: rest) a w :=
 N4 C fun _ K=>by
  obtain⟨v',w',S,G,H,I⟩:=zeB (P:=P) w base t o.type e i z size b V L X k y E D v n xs l q m c news M g F O r d f;unfold Oper.wp execOp;simp only[R,resolve,invoke,builtin,Nf,Oh,Ox,Od,Ka,Mr,U,W,S];exact K _ _ (h v' w' G H I)
end Ap
namespace Bi
def cnt(l:List Int)(v:Int):Nat:=l.countP fun x=>decide (x=v)
theorem zth(l:List Int)(v x:Int):cnt (l++[x]) v=cnt l v+if x=v then 1 else 0:=by simp[cnt,List.countP_append,Pf]
theorem zeL{l:List Int}{k:Nat}(h:k<l.length)(v:Int):cnt (l.take (k+1)) v=cnt (l.take k) v+if l[k]=v then 1 else 0:=by rw[Z4 h,zth]
theorem zne(l:List Int)(v:Int)(k:Nat):cnt (l.take k) v<=cnt l v:=by unfold cnt;exact List.Sublist.countP_le (Sn k l)
theorem znG{l:List Int}{k:Nat}{v:Int}(h:k<l.length)(e:l[k]=v):cnt (l.take k) v+1<=cnt l v:=by have a:=zeL h v;rw[Ei e]at a;have b:=zne l v (k+1);omega
def zw2(v:Nat)(x:Int):Nat:=if 0<x/\x<=v then 2 ^ (12-x.toNat) else 0
def low(l:List Int)(v:Nat):Nat:=(l.map (zw2 v)).sum
theorem zpk(v:Nat)(x:Int):zw2 (v+1) x=zw2 v x+(if x=((v+1:Nat):Int) then 1 else 0)*2 ^ (12-(v+1)):=by unfold zw2;by_cases h:x=((v+1:Nat):Int);{rw[Ei h,Ei (by omega),Eh (by omega)];subst h;simp};{rw[Eh h];by_cases a:0<x/\x<=v;{rw[Ei a,Ei (by omega)];omega};{rw[Eh a,Eh (by omega)];omega}}
theorem zh4(l:List Int)(v:Nat):low l (v+1)=low l v+cnt l ((v+1:Nat):Int)*2 ^ (12-(v+1)):=by induction l with|nil=>{simp[low,cnt]}|cons x l a=>{simp only[low,Ka,Kg,cnt,Pf]at a ⊢;rw[a,zpk,Nj];by_cases h:x=((v+1:Nat):Int);{simp only[h,Ue,decide_true];omega};{simp only[h,Sz,decide_false,Bool.false_eq_true];omega}}
theorem ztH(l:List Int):low l 0=0:=by induction l with|nil=>{rfl}|cons x l a=>{simp only[low,Ka,Kg]at a ⊢;rw[a,zw2,Eh (by omega)]}
theorem zvK(l:List Int)(v:Nat):low l v<=j8 l:=by induction l with|nil=>{simp[low]}|cons x l a=>{simp only[low,j8,Ka,Kg]at a ⊢;have:zw2 v x<=part x:=by{unfold zw2 part;generalize 2 ^ (12-x.toNat)=p;split<;>split<;>omega};omega}
def zd2(l:List Int)(v n0 k:Nat):Nat:=n0+cnt (l.take k) v
def outN(l:List Int):Nat->Nat
 |0=>0
 |v+1=>2*outN l v+cnt l ((v+1:Nat):Int)
theorem zh8(l:List Int):∀v,v<=12->outN l v*2 ^ (12-v)=low l v:=by intro v;induction v with|zero=>{intro _;simp[outN,ztH]}|succ v a=>{intro b;rw[zh4,<-a (by omega)];simp only[outN];rw[Nj,show 12-v=12-(v+1)+1 by omega,Kb,Lc 2 (outN l v),Ng,Lc 2]}
theorem ziN{l:List Int}(i:j8 l<=4096){v k:Nat}(j:v<12)(f:k<l.length)(e:l[k]=((v+1:Nat):Int)):zd2 l (v+1) (2*outN l v) k<2 ^ (v+1):=by have g:=znG f e;have a:=zh8 l (v+1) (by omega);have h:=zvK l (v+1);have b:(2:Nat) ^ (v+1)*2 ^ (12-(v+1))=4096:=by{rw[<-Po,show v+1+(12-(v+1))=12 by omega]};have c:outN l (v+1)*2 ^ (12-(v+1))<=2 ^ (v+1)*2 ^ (12-(v+1)):=by{rw[a,b];omega};have d:outN l (v+1)<=2 ^ (v+1):=Rz c (Og (by decide));simp only[outN]at d;unfold zd2;omega
theorem zs9{l:List Int}(f:j8 l<=4096){v:Nat}(d:v<=12):outN l v<=2 ^ v:=by have a:=zh8 l v d;have e:=zvK l v;have b:(2:Nat) ^ v*2 ^ (12-v)=4096:=by{rw[<-Po,show v+(12-v)=12 by omega]};have c:outN l v*2 ^ (12-v)<=2 ^ v*2 ^ (12-v):=by{rw[a,b];omega};exact Rz c (Og (by decide))
theorem JX{l:List Int}(b:j8 l<=4096){v:Nat}(a:v<=12):outN l v<=4096:=by have c:=zs9 b a;have d:=Kv (n:=2) (by decide) a;omega
theorem zjZ(l:List Int)(v n0:Nat):zd2 l v n0 0=n0:=by simp[zd2,cnt]
theorem znm{l:List Int}{v n0 k:Nat}(h:k<l.length)(e:l[k]=(v:Int)):zd2 l v n0 (k+1)=zd2 l v n0 k+1:=by unfold zd2;rw[zeL h,Ei e];omega
theorem zpP{l:List Int}{v n0 k:Nat}(h:k<l.length)(e:¬l[k]=(v:Int)):zd2 l v n0 (k+1)=zd2 l v n0 k:=by unfold zd2;rw[zeL h,Eh e];omega
theorem zmL(l:List Int)(v:Nat):zd2 l (v+1) (2*outN l v) l.length=outN l (v+1):=by unfold zd2;rw[Fb];rfl
theorem zpw(l:List Int)(v n0 k:Nat):zd2 l v n0 k<=n0+l.length:=by unfold zd2 cnt;have:=P2 (p:=fun x=>decide (x=(v:Int))) (l:=l.take k);rw[E7]at this;omega
def zdN(l:List Int)(v n0:Nat)(o:List zY):Nat->List zY
 |0=>o
 |k+1=>if l[k]?=some (v:Int) then (zdN l v n0 o k).set k (zcn (zd2 l v n0 k) v) else zdN l v n0 o k
def zaY(l:List Int):Nat->List zY
 |0=>List.replicate l.length ⟨#[]⟩
 |v+1=>zdN l (v+1) (2*outN l v) (zaY l v) l.length
def QJ(l:List Int):List zY:=zaY l 12
def zzT(l:List Int):List zY:=if right l=true then QJ l else []
theorem zaO(l:List Int)(v n0:Nat)(o:List zY):∀k,(zdN l v n0 o k).length=o.length:=by intro k;induction k with|zero=>{rfl}|succ k a=>{simp only[zdN];split;{rw[Kn,a]};{exact a}}
theorem zaR(l:List Int):∀v,(zaY l v).length=l.length:=by intro v;induction v with|zero=>{simp[zaY]}|succ v a=>{simp only[zaY];rw[zaO,a]}
theorem Qh(l:List Int):(QJ l).length=l.length:=zaR l 12
theorem zhM{l:List Int}{v n0 k:Nat}{o:List zY}(h:k<l.length)(e:l[k]=(v:Int)):zdN l v n0 o (k+1)=(zdN l v n0 o k).set k (zcn (zd2 l v n0 k) v):=by simp only[zdN];rw[Ei (by rw[Ef h,e])]
theorem zk2{l:List Int}{v n0 k:Nat}{o:List zY}(h:k<l.length)(e:¬l[k]=(v:Int)):zdN l v n0 o (k+1)=zdN l v n0 o k:=by simp only[zdN];rw[Eh (by rw[Ef h];simp;exact e)]
end Bi
namespace Bi
open Sh (bt ZX)
theorem zuv(l:List Int)(v n0:Nat)(o:List zY)(i:Nat)(c:i<l.length)(d:o.length=l.length):∀k,k<=l.length -> (zdN l v n0 o k)[i]?=if i<k/\l[i]=(v:Int) then some (zcn (zd2 l v n0 i) v) else o[i]?:=by intro k;induction k with|zero=>{intro _;simp[zdN]}|succ k b=>{intro f;by_cases e:l[k]=(v:Int);{rw[zhM (by omega) e,N7];by_cases a:k=i;{subst a;rw[Ei rfl,Ei (by rw[zaO,d];exact c),Ei ⟨by omega,e⟩]};{rw[Eh a,b (by omega)];have:(i<k+1/\l[i]=(v:Int))=(i<k/\l[i]=(v:Int)):=propext ⟨fun h=>⟨by omega,h.2⟩,fun h=>⟨by omega,h.2⟩⟩;simp only[this]}};{rw[zk2 (by omega) e,b (by omega)];by_cases a:k=i;{subst a;rw[Eh (fun h=>e h.2),Eh (fun h=>e h.2)]};{have:(i<k+1/\l[i]=(v:Int))=(i<k/\l[i]=(v:Int)):=propext ⟨fun h=>⟨by omega,h.2⟩,fun h=>⟨by omega,h.2⟩⟩;simp only[this]}}}
def zrA(l:List Int)(i:Nat):Nat:=zd2 l (l.getD i 0).toNat (2*outN l ((l.getD i 0).toNat-1)) i
def qk(l:List Int)(i:Nat):zY:=if 0<l.getD i 0 then zcn (zrA l i) (l.getD i 0).toNat else ⟨#[]⟩
theorem ztV(l:List Int)(i:Nat)(a:i<l.length):∀v,v<=12->(zaY l v)[i]?=some (if 0<l[i]/\l[i]<=(v:Int) then qk l i else ⟨#[]⟩):=by have b:l.getD i 0=l[i]:=by{rw[Eg,Ef a];rfl};intro v;induction v with|zero=>{intro _;rw[Eh (by omega)];simp[zaY,a]}|succ v c=>{intro d;simp only[zaY];rw[zuv l (v+1) _ _ i a (zaR l v) l.length (Ea _),c (by omega)];by_cases e:l[i]=((v+1:Nat):Int);{rw[Ei ⟨a,e⟩,Ei (by omega)];unfold qk zrA;rw[b,Ei (by omega),e];simp};{rw[Eh (fun h=>e h.2)];have:(0<l[i]/\l[i]<=((v+1:Nat):Int))=(0<l[i]/\l[i]<=(v:Int)):=propext ⟨fun h=>⟨h.1,by omega⟩,fun h=>⟨h.1,by omega⟩⟩;simp only[this]}}
theorem zc0(l:List Int)(h:∀x∈l,0<=x/\x<=12)(i:Nat)(a:i<(QJ l).length):(QJ l)[i]=qk l i:=by have hi':i<l.length:=by{rw[Qh]at a;exact a};have d:=ztV l i hi' 12 (Ea _);have j:=h _ (Er hi');have g:l.getD i 0=l[i]:=by{rw[Eg,Ef hi'];rfl};have e:(QJ l)[i]?=some (QJ l)[i]:=Ef a;have c:(QJ l)[i]?=(zaY l 12)[i]?:=rfl;rw[e,d]at c;have f:=Fv c;rw[f];by_cases b:0<l[i];{rw[Ei ⟨b,by omega⟩]};{rw[Eh (fun x=>b x.1)];unfold qk;rw[g,Eh b]}
theorem jV(l:List Int)(i:Nat):(qk l i).size=(l.getD i 0).toNat:=by unfold qk;split;{exact znY _ _};{have:(l.getD i 0).toNat=0:=by{omega};rw[this];rfl}
theorem J9(l:List Int)(h:∀x∈l,0<=x/\x<=12)(i:Nat):(qk l i).size<=12:=by rw[jV];by_cases a:i<l.length;{have b:l.getD i 0=l[i]:=by{rw[Eg,Ef a];rfl};have:=h _ (Er a);rw[b];omega};{rw[Eg,Lf (by omega)];decide}
theorem zcG(l:List Int)(i:Nat)(h:¬0<l.getD i 0):qk l i=⟨#[]⟩:=Eh h
def okS(l:List Int)(x:Int):Prop:=0<=x/\x<l.length/\0<l.getD x.toNat 0
instance (l:List Int) (x:Int):Decidable (okS l x):=inferInstanceAs (Decidable (_/\_/\_))
def QG(l:List Int)(s:List Int):List UInt8:=s.flatMap fun x=>(qk l x.toNat).data.toList
def zff(l s:List Int):zY:=if 400<s.length∨whole l=false∨¬(∀x∈s,okS l x) then ⟨#[]⟩ else ⟨(QG l s).toArray⟩
theorem zim{l s:List Int}(h:400<s.length∨whole l=false):zff l s=⟨#[]⟩:=Ei (by rcases h with h|h;exact Or.inl h;exact Or.inr (Or.inl h))
theorem ztN{l s:List Int}{j:Nat}(a:j<s.length)(h:¬okS l s[j]):zff l s=⟨#[]⟩:=Ei (Or.inr (Or.inr fun g=>h (g _ (Er a))))
theorem zhR{l s:List Int}(a:¬400<s.length)(b:whole l=true)(c:∀x∈s,okS l x):zff l s=⟨(QG l s).toArray⟩:=Eh (by
 rintro (h|h|h)
 ·exact a h
 ·rw[b]at h;cases h
 ·exact h c)
theorem zjD(l s:List Int)(x:Int):QG l (s++[x])=QG l s++(qk l x.toNat).data.toList:=by simp[QG]
theorem zjw{l s:List Int}{k:Nat}(h:k<s.length):QG l (s.take (k+1))=QG l (s.take k)++(qk l s[k].toNat).data.toList:=by rw[Z4 h,zjD]
theorem zlM(l:List Int)(h:∀x∈l,0<=x/\x<=12)(s:List Int):(QG l s).length<=12*s.length:=by induction s with|nil=>{simp[QG]}|cons x s a=>{have b:=J9 l h x.toNat;have c:(qk l x.toNat).data.toList.length=(qk l x.toNat).size:=by{simp};simp only[QG,K6,Ek,Fm]at a ⊢;omega}
theorem Zm{l:List Int}(h:whole l=true):right l=true:=by unfold whole at h;rw[Fp]at h;exact h.1
theorem zeW{l:List Int}(h:whole l=true):∀x∈l,0<=x/\x<=12:=(qb (zH (Zm h)).1).2
theorem zcV{l:List Int}(h:whole l=true):l.length<=257:=(qb (zH (Zm h)).1).1
end Bi
namespace Bi
open Sh
def ze7(t:zY):Bool:=decide (∀j,j<t.size->bt t j=48∨bt t j=49)
theorem zhS{t:zY}(h:ze7 t=true):∀j,j<t.size->bt t j=48∨bt t j=49:=Fh h
theorem zhH{t:zY}(h:∀j,j<t.size->bt t j=48∨bt t j=49):ze7 t=true:=Eo h
theorem znb{t:zY}{j:Nat}(h:j<t.size)(a:bt t j≠48)(b:bt t j≠49):ze7 t=false:=Ed fun g=>by
 rcases g j h with e|e
 ·exact a e
 ·exact b e
def one(t:zY)(i:Nat):Nat:=if i<t.size/\bt t i=49 then 1 else 0
def pk(t:zY)(q:Nat):Nat->Nat
 |0=>0
 |r+1=>pk t q r+one t (8*q+r)*2 ^ (7-r)
theorem one_le(t:zY)(i:Nat):one t i<=1:=by unfold one;split<;>omega
theorem zv3(t:zY)(q:Nat):∀r,r<=8->∃n,pk t q r=n*2 ^ (8-r)/\n<2 ^ r:=by intro r;induction r with|zero=>{intro _;exact⟨0,by simp[pk],by decide⟩}|succ r c=>{intro g;obtain⟨n,b,d⟩:=c (by omega);have f:=one_le t (8*q+r);refine⟨2*n+one t (8*q+r),?_,by rw[Kb];omega⟩;have e:8-r=7-r+1:=by{omega};have a:8-(r+1)=7-r:=by{omega};simp only[pk];rw[b,e,Kb,a,Nj,Lc (2 ^ (7-r)) 2,<-Ng,Lc n 2]}
theorem ztl(t:zY)(q r:Nat)(d:r<=8):pk t q r<256:=by obtain⟨n,a,b⟩:=zv3 t q r d;rw[a];have c:n*2 ^ (8-r)<2 ^ r*2 ^ (8-r):=Rp b (Og (by decide));rw[<-Po,show r+(8-r)=8 by omega]at c;omega
def QV(t:zY):zY:=ZX ((t.size+7)/8) (fun q=>pk t q 8)
def zf0(t:zY):zY:=if 8000<t.size∨ze7 t=false then ⟨#[]⟩ else QV t
theorem ze1(t:zY)(h:8000<t.size∨ze7 t=false):zf0 t=⟨#[]⟩:=Ei h
theorem zgs(t:zY)(h:¬8000<t.size)(a:ze7 t=true):zf0 t=QV t:=Eh (by rw[a];simp;omega)
def pkK(t:zY)(k q:Nat):Nat:=pk t q (min 8 (k-8*q))
theorem zyi(t:zY)(k q:Nat):pkK t k q<256:=ztl t q _ (Uo _ _)
theorem zt9(t:zY)(q:Nat):pkK t 0 q=0:=by simp[pkK,pk]
theorem zjv(t:zY)(k q:Nat)(h:q≠k/8):pkK t (k+1) q=pkK t k q:=by unfold pkK;congr 1;omega
theorem zmH(t:zY)(k:Nat):pkK t k (k/8)=pk t (k/8) (k%8):=by unfold pkK;congr 1;omega
theorem zmW(t:zY)(k:Nat):pkK t (k+1) (k/8)=pk t (k/8) (k%8)+one t k*2 ^ (7-k%8):=by have e:min 8 (k+1-8*(k/8))=k%8+1:=by{omega};unfold pkK;rw[e];simp only[pk];rw[show 8*(k/8)+k%8=k by omega]
theorem zwi(t:zY)(k q:Nat)(v:Int)(h:one t k=1)(a:v=((pk t (k/8) (k%8)+2 ^ (7-k%8):Nat):Int)):upd (fun j=>((pkK t k j:Nat):Int)) (k/8) v q=(pkK t (k+1) q:Nat):=by subst a;unfold upd;by_cases e:q=k/8;{subst e;rw[Ei rfl,zmW,h,Pd]};{rw[Eh e,zjv t k q e]}
theorem ztd(t:zY)(k q:Nat)(h:one t k=0):((pkK t k q:Nat):Int)=(pkK t (k+1) q:Nat):=by by_cases e:q=k/8;{subst e;rw[zmW,h,Uc,zmH];rfl};{rw[zjv t k q e]}
theorem zgI(t:zY)(i:Nat)(h:t.size<=i):one t i=0:=by unfold one;rw[Eh (by omega)]
theorem zq4(t:zY)(q r:Nat)(h:t.size<=8*q+r):∀d,pk t q (r+d)=pk t q r:=by intro d;induction d with|zero=>{rfl}|succ d a=>{rw[<-Oa];simp only[pk];rw[zgI t _ (by omega),a];omega}
theorem zxt(t:zY)(q:Nat):pkK t t.size q=pk t q 8:=by unfold pkK;by_cases e:8<=t.size-8*q;{rw[Lg e]};{have a:min 8 (t.size-8*q)=t.size-8*q:=Nw (by omega);rw[a];have:=zq4 t q (t.size-8*q) (by omega) (8-(t.size-8*q));rw[show t.size-8*q+(8-(t.size-8*q))=8 by omega]at this;exact this.symm}
theorem zvl(t:zY):ZX ((t.size+7)/8) (fun q=>pkK t t.size q)=QV t:=qE _ _ _ fun q _=>zxt t q
theorem zzE(t:zY)(q r:Nat)(h:r<8):bits BinOp.or IntKind.u8 ((pk t q r:Nat):Int) ((2 ^ (7-r):Nat):Int)=((pk t q r+2 ^ (7-r):Nat):Int):=by obtain⟨n,b,f⟩:=zv3 t q r (by omega);have c:=ztl t q r (by omega);have d:2 ^ (7-r)<256:=by{have:=Kv (n:=2) (by decide) (show 7-r<=7 by omega);omega};rw[u8_or_nat _ _ c d];rw[Sw (8-r) (pk t q r) (2 ^ (7-r)) (by rw[b];exact Nat.mul_mod_left _ _) (by{have e:8-r=7-r+1:=by{omega};rw[e,Kb];have:=Og (n:=7-r) (a:=2) (by decide);omega})]
def hd(t:zY)(q:Nat):Nat->Nat
 |0=>0
 |r+1=>2*hd t q r+one t (8*q+r)
theorem zzF(t:zY)(q:Nat):∀r,r<=8->pk t q r=hd t q r*2 ^ (8-r):=by intro r;induction r with|zero=>{intro _;simp[pk,hd]}|succ r a=>{intro b;simp only[pk,hd];rw[a (by omega),show 8-r=7-r+1 by omega,Kb,show 8-(r+1)=7-r by omega,Nj,Lc (2 ^ (7-r)) 2,<-Ng,Lc (hd t q r) 2]}
theorem zvZ(t:zY)(q:Nat):hd t q 8=pk t q 8:=by have:=zzF t q 8 (Ea _);simpa using this.symm
theorem zzJ(t:zY)(q:Nat):∀r,hd t q r<2 ^ r:=by intro r;induction r with|zero=>{exact Nd 0}|succ r a=>{have:=one_le t (8*q+r);simp only[hd];rw[Kb];omega}
theorem zzC(t:zY)(q r:Nat)(h:r<=8):hd t q r<256:=by have a:=zzJ t q r;have b:=Kv (n:=2) (by decide) h;omega
def zo4(t:zY)(m:Nat):zY:=ZX m (fun i=>zcS (bt t (i/8)) (7-i%8))
def zam(t:zY)(m:Int):zY:=if 8000<t.size∨m<0∨8*(t.size:Int)<m then ⟨#[]⟩ else zo4 t m.toNat
theorem zbK(t:zY)(m:Int)(h:8000<t.size∨m<0∨8*(t.size:Int)<m):zam t m=⟨#[]⟩:=Ei h
theorem zbq(t:zY)(m:Nat)(h:¬8000<t.size)(a:m<=8*t.size):zam t m=zo4 t m:=by unfold zam;rw[Eh (by omega)];rfl
def opK(t:zY)(k i:Nat):Nat:=if i<k then zcS (bt t (i/8)) (7-i%8) else 0
theorem znt(t:zY)(j:Nat):opK t 0 j=0:=by simp[opK]
theorem zmX(t:zY)(k j:Nat)(v:Int)(a:v=(zcS (bt t (k/8)) (7-k%8):Nat)):upd (fun j=>((opK t k j:Nat):Int)) k v j=(opK t (k+1) j:Nat):=by subst a;unfold upd opK;by_cases e:j=k;{subst e;simp};{have:(j<k+1)=(j<k):=propext ⟨fun h=>by omega,fun h=>by omega⟩;simp only[e,this,Sz]}
theorem zp3(t:zY)(m:Nat):ZX m (fun j=>opK t m j)=zo4 t m:=qE _ _ _ fun j a=>by simp[opK,a]
theorem zvW(t:zY)(k j:Nat):opK t k j<256:=by unfold opK;have:=zfE (bt t (j/8)) (7-j%8);split<;>omega
end Bi
namespace So
section
variable {P:Program} {md:Region.Mode} {ops:Array Oper} {w:zW}
theorem zic{n:Nat}{o:Oper}{a:Act}{K:Act->Prop}{c:Act->zW->Prop}{Q':Exit->Act->zW->Prop}(h:∀a,K a->c a w)(b:o.still P a w K):o.wpIn Fence.wide n P a w c Q':=by refine⟨fun _ _=>trivial,?_⟩;unfold Oper.still at b;have e:(o.semAt Fence.wide.round a.eval)=execOp a.eval o:=rfl;rw[e];generalize (execOp a.eval o).run P w=r at b;cases r with|ok i w'=>{cases i with|value v=>{simp only[Oper.stillUpon]at b;obtain⟨rfl,b⟩:=b;exact h _ b}|skip=>{simp only[Oper.stillUpon]at b;obtain⟨rfl,b⟩:=b;exact h _ b}|enter f args=>{simp only[Oper.stillUpon]at b;obtain⟨rfl,v,d,b⟩:=b;refine⟨fun g=>(by cases g),Vc.2 (d.mono ?_)⟩;rintro e j ⟨rfl,rfl⟩;exact h _ b}|_=>{simp only[Oper.stillUpon]at b}}|_=>{simp only[Oper.stillUpon]at b}
theorem zgx{n i:Nat}{a:Act}{K:Act->Prop}{e:Act->zW->Prop}{Q':Exit->Act->zW->Prop}(h:∀a,K a->e a w)(b:stOp P ops w i K a):wpOpIn Fence.wide n P ops Q' i e a w:=by unfold stOp at b;unfold wpOpIn;split;{rename_i c;simp only[c]at b;exact h _ b};{rename_i o c;simp only[c]at b;split;{rename_i d;simp only[d,Ue]at b;exact zic h b};{rename_i d;simp only[d]at b;exact⟨fun _ _=>trivial,h _ b⟩}}
theorem zbI{n k g:Nat}{L:Array Bool->Act->Prop}{Q':Exit->Act->zW->Prop}(c:∀b a,L b a->wpAnyIn Fence.wide k P md ops Q' g b a w):
  ∀(f:Nat) (b:Array Bool) (a:Act),wpAnyL P md ops w n L f b a->wpAnyIn Fence.wide k P md ops Q' (f+g) b a w
 |0,b,a,h=>by rw[Ff];exact c _ _ h
 |f+1,b,a,h=>by
  rw[show f+1+g=(f+g)+1 by omega];exact⟨fun e=>absurd e h.1,fun i j=>zgx (fun a' d=>zbI c f _ a' d) (h.2 i j).2⟩
theorem zcr{k0:Nat}{Q':Exit->Act->zW->Prop}:∀(l:List Oper) (k:Nat) (listed:Array Bool) (a:Act) (w:zW),(∀j,l[j]?=ops[k+j]?) ->
  Region.seqB md ops l.length k listed=true->wpListIn Fence.wide k0 P ops Q' l a w->wpAnyIn Fence.wide k0 P md ops Q' l.length listed a w
 |[],_,_,_,_,_,hB,h=>⟨by simpa [Region.seqB] using hB,h⟩
 |o :: l,k,listed,a,w,hl,hB,h=>by
  have f:ops[k]?=some o:=by simpa using (hl 0).symm
  simp only[Fm,Region.seqB,Fp,Fz]at hB;refine⟨fun c=>(by rw[hB.1]at c;cases c),fun i d=>?_⟩;rw[hB.1]at d
  have b:i=k:=by simpa using d
  subst b
  have g:wpOpIn Fence.wide k0 P ops Q' i (wpListIn Fence.wide k0 P ops Q' l) a w:=by unfold wpOpIn;simp only[f];exact h
  exact wpOpIn_mono (fun a' w' e=>zcr l (i+1) _ a' w' (fun j=>by have:=hl (j+1);simpa [Oa,Nat.add_comm 1 j] using this) hB.2 e) g
theorem zaZ{B k0:Nat}{Q:Exit->Act->zW->Prop}{a:Act}{l:List Oper}(n:Nat)(v:P.follows .mixedOrders=true)(o:Region.lexTailB .any l.toArray n=true)(h:wpStill P l.toArray w.drew (fun a'=>wpListIn Fence.wide k0 P l.toArray Q (l.drop n) a' w.drew) (l.take n) a):(Code.region B l.toArray true).wpIn Fence.wide k0 P Q a w:=by simp only[Region.lexTailB,Fp,Fz]at o;obtain⟨⟨⟨⟨f,s⟩,y⟩,u⟩,e⟩:=o;have x:n<l.length:=by{simpa using s};have b:(l.take n).length=n:=by{simp;omega};have d:(l.drop n).length=l.toArray.size-n:=by{simp};have i:HeadInv .any l.toArray n (Array.replicate l.toArray.size false):=⟨by simp,fun j C _ r=>(by rw[getD_replicate_false]at r;cases r),fun t _ z=>getD_in (by simpa using z) (getD_replicate_false _ _)⟩;have H:=wpAnyL_lex (md:=.any) (g:=l.toArray.size-n) f y u s (l.take n) 0 _ a (fun j q=>by{have m:j<n:=by{rw[b]at q;exact q};simp[m]}) (by simpa using b) i (by rw[b];exact e) h;refine wpIn_region_any v ?_;have:=zbI (k:=k0) (Q':=Q) (g:=l.toArray.size-n) (fun c a' p=>by{have:=zcr (k0:=k0) (md:=.any) (Q':=Q) (l.drop n) n c a' w.drew (fun j=>by simp[Mi]) (by rw[d];exact p.1) p.2;rwa[d]at this}) _ _ _ H;rw[b,show n+(l.toArray.size-n)=l.toArray.size by omega]at this;exact this
end
end So
namespace Nm2
open Nu Go.Proofs.YtoojegpaofdbfaaGreatDoor.Gn
theorem zyH(n:Int):unz (zz n)=n:=by unfold zz;split;{rw[zlH _ (by omega)];omega};{rw[zmT _ (by omega)];omega}
theorem pow_eq(k:Nat):2 ^ (7*k)=128 ^ k:=by rw[Nat.pow_mul]
theorem zuC(U:Nat)(l:U<18446744073709551616):cnt 9 U<=9/\(∀j,j<cnt 9 U->128<=U/128 ^ j)/\U/128 ^ cnt 9 U<128:=by have c:∀f u,u/128 ^ f<128->(∀j,j<cnt f u->128<=u/128 ^ j)/\u/128 ^ cnt f u<128:=by{intro f;induction f with|zero=>{intro u h;exact⟨fun j a=>absurd a (Kd j),by simpa [cnt] using h⟩}|succ f k=>{intro u h;unfold cnt;split;{rename_i b;exact⟨fun j a=>absurd a (Kd j),by simpa using b⟩};{rename_i i;rw[div_pow]at h;obtain⟨d,g⟩:=k (u/128) h;refine⟨fun j a=>?_,by rw[div_pow];exact g⟩;match j with|0=>{simpa using (by omega:128<=u)}|j+1=>{rw[div_pow];exact d j (by omega)}}}};refine⟨za5 9 U,c 9 U ?_⟩;have e:(128:Nat) ^ 9=9223372036854775808:=by{decide};rw[e];omega
theorem ztz(U k:Nat):U%128 ^ k+U/128 ^ k%128*128 ^ k=U%128 ^ (k+1):=by rw[Kb,Nat.mod_mul,Lc (128 ^ k)]
theorem dec(s:zY)(U a K:Nat)(y:U<18446744073709551616)(x:K<=9)(c:∀j,j<K->128<=U/128 ^ j)(b:U/128 ^ K<128)(g:a+K<s.size)(p:∀j,j<K->Jx s (a+j)=U/128 ^ j%128+128)(i:Jx s (a+K)=U/128 ^ K): ∀d k,K-k=d->k<=K->run s (10-k) k (a+k) (U%128 ^ k)=(U,a+K+1,0):=by intro d;induction d with|zero=>{intro k hd q;obtain rfl:k=K:=by{omega};obtain⟨f,l⟩:∃f,10-k=f+1:=⟨9-k,by omega⟩;have e:=zb1 s (a+k) g;rw[i]at e;have o:¬(k=9/\1<s[a+k].toNat):=by{rintro⟨rfl,h⟩;rw[e,show (128:Nat) ^ 9=9223372036854775808 from by decide]at h;omega};have u:¬(s[a+k].toNat=0/\0<k):=by{rintro⟨h,r⟩;have w:=c (k-1) (by omega);rw[e,show k=(k-1)+1 from by omega,pow_div]at h;omega};rw[l,ze8 s f k (a+k) _ g o (by rw[e];exact b) u,e,pow_eq,Fw b];have t:U%128 ^ k+U/128 ^ k*128 ^ k=U:=by{rw[Lc];exact Nat.mod_add_div U (128 ^ k)};rw[t]}|succ d v=>{intro k hd q;have m:k<K:=by{omega};obtain⟨f,l⟩:∃f,10-k=f+1:=⟨9-k,by omega⟩;have n:a+k<s.size:=by{omega};have e:=zb1 s (a+k) n;rw[p k m]at e;rw[l,QA s f k (a+k) _ n (by omega) (by omega),e,pow_eq,Py,Nat.mod_mod,ztz,show f=10-(k+1) from by omega];exact v (k+1) (by omega) (by omega)}
end Nm2
namespace In
end In
namespace In
open St (Aft)
def Jw(w:zW)(lo hi:Nat)(v:Value)(l:List Int):Prop :=
 (v=.slice none 0 0/\l=[])∨∃g cap,v=.slice (some ⟨g,0,none⟩) l.length cap/\lo<=g/\g<hi/\IsO w g 2 l
theorem zx.inn{w:zW}{base:Nat}{v:Value}{l:List Int}(h:zx w base v l):Jw w base w.heap.size v l:=by rcases h.split with h|⟨g,a,d,c,_,b⟩;{exact .inl h};{exact .inr ⟨g,a,d,c,b.lt,b⟩}
theorem Jw.ints{w:zW}{f c:Nat}{v:Value}{l:List Int}(h:Jw w f c v l):∃a b,v=.slice a l.length b/\Ints w c a l:=by rcases h with⟨rfl,rfl⟩|⟨g,b,rfl,_,d,e⟩;{exact⟨none,0,rfl,.inl rfl⟩};{exact⟨_,b,rfl,e.ints d⟩}
def zzc(w:zW)(lo hi:Nat)(v:Value)(n:Nat):Prop:=Jw w lo hi v (marks 1 n)
end In
namespace St
def dg(k:Nat)(o:zY):zY:=if _h:k=0 then o else dg (k/10) (⟨#[UInt8.ofNat (48+k%10)]⟩++o)
termination_by k
decreasing_by omega
def zzq(k:Nat):zY:=⟨#[109]⟩++dg k ⟨#[]⟩
theorem zxK(W:zW)(y:Nat)(h:y<256):(convert 22 9 (.slice (some ⟨W.heap.size,0,none⟩) 1 1)).run prog (W.alloc (.cells #[.int .u8 (y:Int)] 5))=.ok (.string ⟨#[UInt8.ofNat y]⟩) (W.alloc (.cells #[.int .u8 (y:Int)] 5)):=by refine Nr (P:=prog) (W.alloc (.cells #[.int .u8 (y:Int)] 5)) 22 9 5 ⟨W.heap.size,0,none⟩ 1 [UInt8.ofNat y] underlying22 underlying5 underlying9 ?_;intro j a;match j,a with|0,_=>{simp[Addr.add];omega}
def marks(k n:Nat):List zY:=(List.range n).map fun j=>zzq (k+j)
def zz3(l:List zY)(k i:Nat):List zY:=marks k i++l.drop i
end St
namespace So
open Go.RowKit Go.Sort Go.Proofs
theorem zuZ(blk P a m b:Nat)(d:Array Nat)(w:zW)(cv:Value)(hH:HoldsK encI 1 w blk 0 d)(C:blk<w.heap.size)(ag:a<m)(ah:m<b)(hb:b<=d.size)(Y:d.size<=1048576): Calls prog 292 #[.slice (some ⟨blk,0,none⟩) d.size P,.int .i64 a,.int .i64 m,.int .i64 b,cv] w fun e w'=>e=.returned (.tuple #[])/\∃n f,w'=sortWorldK encI 1 w blk 0 n f #[]/\f.size=d.size/\dF f=qO a m b (dF d):=by have ab:=zc (qH hH);have HH:=zc hH;clear hH;obtain⟨z,hz⟩:∃z,z=d.size:=⟨_,rfl⟩;have HZ:=zc hz;rw[<-hz]at hb Y ⊢;clear hz;have HC:=zc (fun(n:Nat) (g:Array Nat) (X:g.size=z) (p q l:Nat) (Q:p+l<=q) (R:q+l<=z)=>zl1 blk P p q l g (sortWorldK encI 1 w blk 0 n g #[]) cv (zt HH.o C n g #[] (X.trans HZ.o)) (Ey C (zX n g #[])) Q (by rw[X];exact R) (by rw[X];exact Y));have I:=zc (fun(n x:Nat) (g f:Array Nat) (X:f.size=g.size)=>jG (enc:=encI) (k:=1) (w:=w) (blk:=blk) (off:=0) n x g f #[] #[] C X);obtain⟨Z,S⟩:∃Z,Z=m-a:=⟨_,rfl⟩;obtain⟨j0,U⟩:∃j0,j0=b-m:=⟨_,rfl⟩;have Q:((m:Int)-(a:Int))=(Z:Int):=by{omega};have R:((b:Int)-(m:Int))=(j0:Int):=by{omega};have aa:Hid (Z=m-a/\j0=b-m):=⟨S,U⟩;clear S U;go_enter func292,ntmps292;(go_wp2_with fail);clear Q R;(go_loopw [10,11] (fun u v wr=>∃(i j n:Nat) (g:Array Nat),u=.int .i64 i/\v=.int .i64 j/\0<i/\0<j/\i<=m-a/\j<=b-m/\g.size=z/\qO (m-i) m (m+j) (dF g)=qO a m b (dF d)/\wr=sortWorldK encI 1 w blk 0 n g #[]) (fun u v _=>(intOf u).toNat+(intOf v).toNat));(case atStart=>have t:=aa.o;exact⟨Z,j0,0,d,rfl,rfl,by omega,by omega,by omega,by omega,HZ.o.symm,by rw[t.1,t.2,show m-(m-a)=a by omega,show m+(b-m)=b by omega],ab.o⟩);(case round=>obtain⟨i,j,n,g,rfl,rfl,hi,hj,ac,ad,F,G,K⟩:=hrel;have HR:=zc G;have H:=zc F;have HW:=zc K;have D:=zc (fun p q l Q R=>HC.o n g F p q l Q R);rw[<-K,F]at D;obtain⟨p,hp⟩:∃p,p=m-i:=⟨_,rfl⟩;have e1:(m:Int)-(i:Int)=(p:Int):=by{omega};rw[<-hp]at HR;have E:=zc hp;clear G F K hp;by_cases t:i=j;{subst t;have af:((i:Int) != (i:Int))=false:=by{simp};have y:=zc (D.o p m i (by have:=E.o;omega) (by omega));(go_wp2_with fail);refine y.o.mono ?_;rintro e w' ⟨rfl,x,f,s,c,o⟩;have O:Hid (w'=sortWorldK encI 1 w blk 0 (n+x) f #[]):=by{unfold Hid;rw[s,HW.o,I.o n x g f (c.trans H.o.symm)];rfl};have L:Hid (dF f=qO a m b (dF d)):=by{unfold Hid;rw[o,E.o,zmB m i (dF g) (by omega),<-HR.o,E.o]};have B:=zc c;clear s c o;(go_wp2_with fail);refine Ku (v:=.tuple #[]) (by simp[results,results292,go_sem]) rfl ⟨rfl,n+x,f,O.o,B.o,L.o⟩};{have af:((i:Int) != (j:Int))=true:=by{simp;omega};have M:=zc t;clear t;by_cases ae:j<i;{have V:(j:Int)<(i:Int):=by{omega};obtain⟨r,W⟩:∃r,r=i-j:=⟨_,rfl⟩;have e2:(i:Int)-(j:Int)=(r:Int):=by{omega};have h:=zc W;clear W;have y:=zc (D.o p m j (by have:=E.o;omega) (by omega));(go_wp2_with fail);refine y.o.mono ?_;rintro e w' ⟨rfl,x,f,s,c,o⟩;have O:Hid (w'=sortWorldK encI 1 w blk 0 (n+x) f #[]):=by{unfold Hid;rw[s,HW.o,I.o n x g f (c.trans H.o.symm)];rfl};have L:Hid (qO (m-r) m (m+j) (dF f)=qO a m b (dF d)):=by{unfold Hid;rw[o,h.o,E.o,zmo m i j (dF g) ae (by omega),<-HR.o,E.o]};have B:=zc c;clear s c o;(go_wp2_with fail);(go_roundw);(case rel=>exact⟨r,j,n+x,f,rfl,rfl,by have:=h.o;omega,hj,by have:=h.o;omega,ad,B.o,L.o,O.o⟩);(case measure=>have:=h.o;simp[intOf];omega)};{have V:¬(j:Int)<(i:Int):=by{omega};obtain⟨r,W⟩:∃r,r=j-i:=⟨_,rfl⟩;have e2:(j:Int)-(i:Int)=(r:Int):=by{omega};have h:=zc W;obtain⟨q,hq⟩:∃q,q=m+j-i:=⟨_,rfl⟩;have e3:(m:Int)+(j:Int)-(i:Int)=(q:Int):=by{omega};have HQ:=zc hq;clear W hq;have y:=zc (D.o p q i (by have:=E.o;have:=HQ.o;omega) (by have:=HQ.o;omega));(go_wp2_with fail);refine y.o.mono ?_;rintro e w' ⟨rfl,x,f,s,c,o⟩;have O:Hid (w'=sortWorldK encI 1 w blk 0 (n+x) f #[]):=by{unfold Hid;rw[s,HW.o,I.o n x g f (c.trans H.o.symm)];rfl};have L:Hid (qO (m-i) m (m+r) (dF f)=qO a m b (dF d)):=by{unfold Hid;rw[o,h.o,E.o,HQ.o,zjn m i j (dF g) (by have:=M.o;omega) (by omega),<-HR.o,E.o]};have B:=zc c;clear s c o;(go_wp2_with fail);(go_roundw);(case rel=>exact⟨i,r,n+x,f,rfl,rfl,hi,by have:=h.o;have:=M.o;omega,ac,by have:=h.o;omega,B.o,L.o,O.o⟩);(case measure=>have:=h.o;simp[intOf];omega)}})
end So
namespace Ze
theorem zb0(m:Nat):(Builtin.zeroCells (Value.int .i64 0).cells m)=(List.replicate m (Value.int .i64 0)).toArray:=by apply Array.ext';apply Li;{simp[Builtin.zeroCells,Value.cells]};{intro i a b;simp[Builtin.zeroCells,Value.cells,Sj]}
theorem zpy(m:Nat):∀u∈List.replicate m (Value.int .i64 0),u.oneCell'=true:=by intro u a;rw[(List.mem_replicate.1 a).2];rfl
theorem zez{P:Program}(w:zW)(base:Nat)(t ti ty e:TypeId)(i:TypeInfo)(L:P.underlying t=some (.slice e))(y:P.underlying ti=some (.int .i64))(G:P.info? e=some i)(M:i.zero=some (.int .i64 0))(c:i.size=1)(r:i.bytes=8)(v:Value)(n:Nat)(xs:List Value)(a:w.ownsRow base e 1 v n xs)(m:Nat)(hs:n+m<=1048576)(B:base<=w.heap.size): ∃v' w',(Builtin.append_ #[t,ti] ty #[v,.int .i64 m]).run P w=.ok v' w'/\w'.ownsRow base e 1 v' (n+m) (xs++List.replicate m (.int .i64 0))/\w.grownBy w' v.ownBlock:=by have h:(xs++List.replicate m (Value.int .i64 0)).length=(n+m)*1:=by{rw[Ek,a.1,Fj];omega};have f:IntKind.i64.wrap (m:Int)=m:=by{simp[IntKind.wrap,IntKind.bits,IntKind.signed];omega};have l:IntKind.i64.wrap 0=0:=by{simp[IntKind.wrap,IntKind.bits,IntKind.signed]};have O:¬((m:Int)<0):=by{omega};have h1:¬((m:Int)*((8:Nat):Int) > 2 ^ 48):=by{omega};have grown:∀(d:Nat),d<n+m->∀(row:Option Nat),(w.drew.alloc (.cells (xs.toArray++(List.replicate m (Value.int .i64 0)).toArray++Builtin.zeroCells (Value.int .i64 0).cells (grownCap w (n+m) d e-(n+m))) e)).ownsRow base e 1 (.slice (some ⟨w.heap.size,0,none⟩) (n+m) (grownCap w (n+m) d e)) (n+m) (xs++List.replicate m (Value.int .i64 0)) /\ w.grownBy (w.drew.alloc (.cells (xs.toArray++(List.replicate m (Value.int .i64 0)).toArray++Builtin.zeroCells (Value.int .i64 0).cells (grownCap w (n+m) d e-(n+m))) e)) row:=by{intro d ho row;have V:=Rc w (n+m) d e;have C:grownCap w (n+m) d e<=maxLen:=Nx w (n+m) d e (by unfold maxLen;omega);refine⟨⟨h,.inr ⟨w.heap.size,_,_,rfl,B,E2 w.drew _,V,C,?_,?_⟩⟩,⟨rfl,rfl,rfl,by simp,fun k X _=>heap_alloc_old w.drew _ X⟩⟩;{have h2:=a.1;simp only[Sk,Ke,Rv,Fj,Value.cells,Ke,Fm,Ko];omega};{simp only[Mb,Fa];rw[<-Fa,<-h];exact Pt}};have Z:∀W:zW,(if m*1=0 then (pure #[]:Sem (Array Value)) else do pure (Builtin.zeroCells (<-zeroValue e).cells m)).run P W=.ok (List.replicate m (Value.int .i64 0)).toArray W:=by{intro W;by_cases z:m=0;{subst z;simp};{rw[Eh (by omega)];simp[zeroValue,typeInfo,G,M,zb0]}};rcases a.2 with⟨rfl,rfl⟩|⟨g,b,p,rfl,Q,Y,D,C,R,F⟩;{have hx:xs=[]:=Fu (by simpa using a.1);subst hx;by_cases z:m=0;{subst z;refine⟨.slice none 0 0,w,?_,Ow w base e 1,⟨rfl,rfl,rfl,Ea _,fun _ _ _=>rfl⟩⟩;simp[Builtin.append_,Lh L,Lh y,sizeOf,typeInfo,G,r,asInt,asIntOf,l]};{have o:=grown 0 (by omega) (Value.ownBlock (.slice none 0 0));simp only[Ff,Mg,Array.empty_append]at o ⊢;refine⟨_,_,?_,o.1,o.2⟩;have D:¬(281474976710656<Builtin.nextslicecap m 0*8):=by{rw[nextslicecap_zero (by omega)];omega};have q:¬(9223372036854775807<(m:Int)):=by{omega};have K:¬(281474976710656<(m:Int)*8):=by{omega};simp[Builtin.append_,Lh L,Lh y,sizeOf,typeInfo,zeroValue,G,M,c,r,asInt,asIntOf,f,O,K,z,q,D,Question.forced,run_firstCells_none,newRow,grownCap,zb0]}};{by_cases s:n+m<=b;{have I:n*1+(List.replicate m (Value.int .i64 0)).length<=p.size:=by{rw[Fj,R];omega};have x:=run_storeCells_at P g (n*1) e (List.replicate m (Value.int .i64 0)) 0 p w Y (by simpa using I) (zpy m);simp only[Ms]at x;have K:¬(281474976710656<(m:Int)*8):=by{omega};refine⟨.slice (some ⟨g,0,none⟩) (n+m) b,w.setRow g (p.toList.take (n*1)++List.replicate m (Value.int .i64 0)++p.toList.drop (n*1+(List.replicate m (Value.int .i64 0)).length)).toArray,?_,⟨h,.inr ⟨g,b,_,rfl,Q,Vd w g p _ e _ Y,s,C,?_,?_⟩⟩,⟨rfl,rfl,rfl,by simp,fun k _ X=>Ro w g k _ (fun e=>X (by simp[Value.ownBlock,e]))⟩⟩;{by_cases z:m=0;{subst z;simp at x;simp[Builtin.append_,Lh L,Lh y,sizeOf,typeInfo,zeroValue,G,c,r,asInt,asIntOf,D,Ol,l,x]};{simp at x;simp[Builtin.append_,Lh L,Lh y,sizeOf,typeInfo,zeroValue,G,M,c,r,asInt,asIntOf,f,O,K,z,s,Ol,zb0,x]}};{simp only[Ke,Ek,E7,Fy,Fq,Fj];omega};{rw[F,<-h];exact Pt}};{have E:∀j u,xs[j]?=some u->w.cell? ((⟨g,0,none⟩:Addr).add j)=some u:=a.cells (g:=g) rfl;have z:m≠0:=by{omega};have o:=grown b (by omega) (Value.ownBlock (.slice (some ⟨g,0,none⟩) n b));refine⟨_,_,?_,o.1,o.2⟩;have U:=run_firstCells_some (P:=P) w.drew 1 n ⟨g,0,none⟩ n b xs a.1 (by simpa using E);have hn:¬(n+m<=b):=by{omega};have q:¬(9223372036854775807<((n:Int)+(m:Int))):=by{omega};have S:Builtin.nextslicecap (n+m) b*8<=281474976710656:=Ru (by omega) (by omega);have H:¬(281474976710656<Builtin.nextslicecap (n+m) b*8):=by{omega};have K:¬(281474976710656<(m:Int)*8):=by{omega};simp[Builtin.append_,Lh L,Lh y,sizeOf,typeInfo,zeroValue,G,M,c,r,asInt,asIntOf,f,O,K,z,hn,q,H,Question.forced,U,newRow,grownCap,zb0]}}
theorem zcK{P:Program}(w:zW){f:Array Oper}{rest:List Oper}{o:Oper}{a:Act}{Q:Exit->Act->zW->Prop}(j:o.guard=none)(s x:Operand)(t l:TypeId)
  (y:o.op=.call { callee:=.builtin .append,args:=#[s,x],argTypes:=#[t,l] })
  (base:Nat) (e:TypeId) (i:TypeInfo) (C:P.underlying t=some (.slice e)) (k:P.underlying l=some (.int .i64)) (u:P.info? e=some i) (F:i.zero=some (.int .i64 0)) (c:i.size=1) (g:i.bytes=8)
  (v:Value) (n:Nat) (xs:List Value) (D:a.eval s=v) (d:w.ownsRow base e 1 v n xs) (m:Nat) (E:a.eval x=.int .i64 m) (B:n+m<=1048576) (b:base<=w.heap.size)
  (h:∀v' w',w'.ownsRow base e 1 v' (n+m) (xs++List.replicate m (.int .i64 0))->w.grownBy w' v.ownBlock->wpList P f Q rest (a.put o.dst v') w'):wpList P f Q (o :: rest) a w :=
 N4 j fun _ r=>by
  obtain⟨v',w',z,p,q⟩:=zez (P:=P) w base t l o.type e i C k u F c g v n xs d m B b;unfold Oper.wp execOp;simp only[y,resolve,invoke,builtin,Nf,Oh,Ox,Od,Ka,Mr,D,E,z];exact r _ _ (h v' w' p q)
end Ze
namespace Sh
def ze0(w:zW)(base:Nat)(v:Value)(n:Nat)(f:Nat->Nat):Prop :=
 ∃g cap,v=.slice (some ⟨g,0,none⟩) n cap/\base<=g/\g<w.heap.size/\n<=cap/\cap<=maxLen/\(∀j,j<n->w.cell? ⟨g,j,none⟩=some (.int .u8 (f j:Nat))) /\
  ∀j,n<=j->j<cap->(w.cell? ⟨g,j,none⟩).isSome=true/\w.frozen? ⟨g,j,none⟩=false
theorem ze0.congr{w:zW}{base:Nat}{v:Value}{n:Nat}{f f':Nat->Nat}(h:ze0 w base v n f)(e:∀j,j<n->f j=f' j):ze0 w base v n f':=by obtain⟨g,a,c,d,i,k,l,m,o⟩:=h;exact⟨g,a,c,d,i,k,l,fun j b=>by rw[m j b,e j b],o⟩
theorem ze0.alloc{w:zW}{base:Nat}{v:Value}{n:Nat}{f:Nat->Nat}(h:ze0 w base v n f)(o:Obj):ze0 (w.alloc o) base v n f:=by obtain⟨g,a,e,i,b,k,l,m,p⟩:=h;refine⟨g,a,e,i,by simp;omega,k,l,fun j q=>?_,fun j c d=>?_⟩;{rw[Uf o g j b];exact m j q};{rw[Uf o g j b,World.frozen?_alloc_past o g j b];exact p j c d}
theorem ze0.below{w w':zW}{base B:Nat}{v:Value}{n:Nat}{f:Nat->Nat}(h:ze0 w base v n f)(b:Below B w w')(s:w.heap.size<=B):ze0 w' base v n f:=by obtain⟨g,a,e,i,k,l,m,o,q⟩:=h;refine⟨g,a,e,i,Ey k b.size,l,m,fun j r=>?_,fun j c d=>?_⟩;{rw[b.cell (p:=⟨g,j,none⟩) (show g<B by omega)];exact o j r};{rw[b.cell (p:=⟨g,j,none⟩) (show g<B by omega),b.frozen (p:=⟨g,j,none⟩) (show g<B by omega)];exact q j c d}
theorem ze0.slice{w:zW}{base:Nat}{v:Value}{n:Nat}{f:Nat->Nat}(h:ze0 w base v n f):∃g a,v=.slice (some ⟨g,0,none⟩) n a/\n<=a:=by obtain⟨g,a,b,_,_,c,_⟩:=h;exact⟨g,a,b,c⟩
theorem zhQ(w:zW)(base:Nat)(s:zY)(e:TypeId)(l:s.size<=maxLen)(h:base<=w.heap.size): ze0 (w.drew.alloc (.cells (bytesRow s (grownCap w s.size 0 e)) e ((bytesRow s (grownCap w s.size 0 e)).size,(bytesRow s (grownCap w s.size 0 e)).size+1))) base (.slice (some ⟨w.heap.size,0,none⟩) s.size (grownCap w s.size 0 e)) s.size (bt s):=by have c:=Rc w s.size 0 e;have b:=Nx w s.size 0 e l;generalize grownCap w s.size 0 e=a at c b;have d:(bytesRow s a).size=a:=by{have:s.data.size=s.size:=rfl;simp[bytesRow];omega};have f:∀j,(w.drew.alloc (.cells (bytesRow s a) e ((bytesRow s a).size,(bytesRow s a).size+1))).cell? ⟨w.heap.size,j,none⟩=(bytesRow s a)[j]?:=fun j=>El _ w.heap.size j _ e _ (heap_alloc_last w.drew _);refine⟨w.heap.size,a,rfl,h,by simp,c,b,fun j g=>?_,fun j i k=>?_⟩;{rw[f,bytesRow_at s a j (show j<s.data.size from g)];have:=ZB s j g;simp only[<-this];rfl};{rw[f];refine⟨by rw[Lz (by omega)];rfl,?_⟩;unfold World.frozen?;rw[show (w.drew.alloc (.cells (bytesRow s a) e ((bytesRow s a).size,(bytesRow s a).size+1))).heap[(⟨w.heap.size,j,none⟩:Addr).block]?=some (.cells (bytesRow s a) e ((bytesRow s a).size,(bytesRow s a).size+1)) from heap_alloc_last w.drew _];simp[d];omega}
theorem zi1{P:Program}(w:zW)(base:Nat)(t ty e:TypeId)(i:TypeInfo)(Z:P.underlying t=some (.slice e))(Y:P.info? e=some i)(hz:i.zero=some (.int .u8 0))(a:i.size=1)(L:i.bytes=1)(v:Value)(n:Nat)(f:Nat->Nat)(H:ze0 w base v n f)(s:Addr)(c x:Nat)(hx:w.cell? (s.add 0)=some (.int .u8 (x:Nat)))(hn:n+1<=140737488355328)(r:base<=w.heap.size): ∃v' w',(Builtin.append_ #[t,t] ty #[v,.slice (some s) 1 c]).run P w=.ok v' w'/\ze0 w' base v' (n+1) (fun j=>if j=n then x else f j)/\w.grownBy w' v.ownBlock:=by obtain⟨g,b,rfl,Q,R,aa,M,D,I⟩:=H;have m:∀(j:Nat) (u:Value),[Value.int .u8 (x:Nat)][j]?=some u->w.cell? (s.add j)=some u:=by{intro j u d;match j,d with|0,d=>{simp at d;subst d;exact hx}};have G:∀u∈[Value.int .u8 (x:Nat)],u.oneCell'=true:=by{intro u hu;simp at hu;subst hu;rfl};by_cases h:n+1<=b;{obtain⟨K,W⟩:=I n (Ea _) h;have V:=run_append_room_cells (P:=P) w t ty e i Z Y g 0 n b s 1 c [.int .u8 (x:Nat)] (by simp[a]) m G h (fun j d=>by simp at d;subst d;simpa [a] using K) (fun j d=>by simp at d;subst d;simpa [a] using W);refine⟨_,_,V,?_,⟨rfl,rfl,rfl,?_,?_⟩⟩;{obtain⟨y,hy⟩:=Option.isSome_iff_exists.1 K;simp only[a,K3,Ff,World.setCells];refine⟨g,b,rfl,Q,by simpa using R,h,M,fun j d=>?_,fun j S F=>?_⟩;{by_cases q:j=n;{subst q;rw[Sr w _ _ hy];simp};{rw[Ph w _ _ _ (by simp<;>omega),D j (by omega)];simp[q]}};{rw[Ph w _ _ _ (by simp<;>omega),World.frozen?_setCell];exact I j (by omega) F}};{simp[a,World.setCells]};{intro k _ U;simp only[a,World.setCells];exact Et w _ k _ (by intro q;exact U (by simp[Value.ownBlock,q]))}};{have X:b=n:=by{omega};have V:=Ul (P:=P) w t ty e i (.int .u8 0) Z Y hz ⟨g,0,none⟩ n b ((List.range n).map fun j=>Value.int .u8 (f j:Nat)) (by simp[a]) (fun j u d=>by{have B:(⟨g,0,none⟩:Addr).add j=⟨g,j,none⟩:=by{unfold Addr.add;split<;>simp_all};rw[B];by_cases l:j<n;{simp[l]at d;rw[D j l,d]};{simp[l]at d}}) s 1 c [.int .u8 (x:Nat)] (by simp[a]) m (by omega) (by omega) (by rw[L];exact Ru (by omega) (by omega));have E:=Rc w (n+1) b e;have p:=Nx w (n+1) b e (by unfold maxLen;omega);refine⟨_,_,V,?_,⟨rfl,rfl,rfl,by simp,fun k U _=>Nt w.drew _ k U⟩⟩;generalize grownCap w (n+1) b e=z at E p;have C:∀(o:Array Value) (j:Nat),(w.drew.alloc (.cells o e)).cell? ⟨w.heap.size,j,none⟩=o[j]?:=fun o j=>World.cell?_alloc_new w.drew o e j;have O:∀(o:Array Value) (j:Nat),(w.drew.alloc (.cells o e)).frozen? ⟨w.heap.size,j,none⟩=false:=fun o j=>World.frozen?_alloc_new w.drew o e j;refine⟨w.heap.size,z,rfl,r,by simp,E,p,fun j d=>?_,fun j S F=>⟨?_,O _ j⟩⟩;{rw[C];by_cases q:j=n;{subst q;simp[Uv]};{have l:j<n:=by{omega};simp[Uv,l,d,q]}};{rw[C,Lz];{rfl};{simp[Rv,Value.cells];omega}}}
theorem Jn{P:Program}{w:zW}{k:Array Oper}{rest:List Oper}{o:Oper}{a:Act}{Q:Exit->Act->zW->Prop}(p:o.guard=none)(s y:Operand)(t:TypeId)(C:o.op=.call { callee:=.builtin .append,args:=#[s,y],argTypes:=#[t,t] })(base:Nat)(e:TypeId)(i:TypeInfo)(F:P.underlying t=some (.slice e))(z:P.info? e=some i)(I:i.zero=some (.int .u8 0))(d:i.size=1)(m:i.bytes=1)(v:Value)(n:Nat)(f:Nat->Nat)(E:a.eval s=v)(g:ze0 w base v n f)(l:Addr)(c x:Nat)(H:a.eval y=.slice (some l) 1 c)(G:w.cell? (l.add 0)=some (.int .u8 (x:Nat)))(B:n+1<=140737488355328)(b:base<=w.heap.size)(h:∀v' w',ze0 w' base v' (n+1) (fun j=>if j=n then x else f j)->w.grownBy w' v.ownBlock->wpList P k Q rest (a.put o.dst v') w'):wpList P k Q (o :: rest) a w:=by refine N4 p fun K u=>?_;obtain⟨v',w',D,q,r⟩:=zi1 (P:=P) w base t o.type e i F z I d m v n f g l c x G B b;unfold Oper.wp execOp;simp only[C,resolve,invoke,builtin,Nf,Oh,Ox,Od,Ka,Mr,E,H,D];exact u _ _ (h v' w' q r)
theorem ze0.piece{P:Program}{w:zW}{base g b L:Nat}{f:Nat->Nat}(h:ze0 w base (.slice (some ⟨g,0,none⟩) L b) L f)(off m c:Nat)(t:off+m<=L)(o:∀j,f j<256){src dst e:TypeId}(q:P.underlying src=some (.slice e))(n:P.underlying e=some (.int .u8))(hd:P.underlying dst=some .string): (convert src dst (.slice (some ⟨g,off,none⟩) m c)).run P w=.ok (.string (ZX m (fun j=>f (off+j)))) w:=by obtain⟨r,i,k,_,_,_,_,d,_⟩:=h;simp at k;obtain⟨rfl,rfl⟩:=k;have l:((List.range m).map fun j=>UInt8.ofNat (f (off+j))).length=m:=by{simp};have:=Nr (P:=P) w src dst e ⟨g,off,none⟩ c ((List.range m).map fun j=>UInt8.ofNat (f (off+j))) q n hd (by{intro j p;rw[l]at p;have a:(⟨g,off,none⟩:Addr).add j=⟨g,off+j,none⟩:=by{unfold Addr.add;split<;>simp_all};rw[a,d (off+j) (by omega)];have s:=o (off+j);simp;omega});rw[l]at this;exact this
theorem zxe{P:Program}{w:zW}{base e:Nat}{v:Value}{n:Nat}{f:Nat->Nat}(h:w.ownsRow base e 1 v n (qN .u8 n (fun j=>(f j:Nat))).toList)(b:∀j,f j<256){src dst:TypeId}(g:P.underlying src=some (.slice e))(a:P.underlying e=some (.int .u8))(hd:P.underlying dst=some .string): (convert src dst v).run P w=.ok (.string (ZX n f)) w:=by have c:((List.range n).map fun j=>UInt8.ofNat (f j)).length=n:=by{simp};have d:((List.range n).map fun j=>UInt8.ofNat (f j)).map Nu.bv=(qN .u8 n (fun j=>(f j:Nat))).toList:=by{simp only[qN,Pz];apply Mw;intro j _;have:=b j;simp[Nu.bv];omega};have:=Nu.qI (P:=P) (src:=src) (dst:=dst) ((List.range n).map fun j=>UInt8.ofNat (f j)) (by rw[c,d];exact h) g a hd;exact this
theorem zhX(s:Nat->Int)(j r:Nat)(c:r<4):((ziU s (4*j+r):Nat):Int)=s j/2 ^ (24-8*r)%256:=by rw[<-zjb];have a:(4*j+r)/4=j:=by{omega};have b:(4*j+r)%4=r:=by{omega};rw[a,b]
theorem zuV(s:Nat->Int)(j:Nat)(a b c d:Int)(i:a=s j/16777216%256)(k:b=s j/65536%256)(l:c=s j/256%256)(m:d=s j%256): (qN .u8 (4*j) (fun q=>(ziU s q:Nat))).toList++[.int .u8 a,.int .u8 b,.int .u8 c,.int .u8 d]=(qN .u8 (4*(j+1)) (fun q=>(ziU s q:Nat))).toList:=by have e:a=((ziU s (4*j):Nat):Int):=by{rw[i];exact(zhX s j 0 (by decide)).symm};have f:b=((ziU s (4*j+1):Nat):Int):=by{rw[k];exact(zhX s j 1 (by decide)).symm};have g:c=((ziU s (4*j+2):Nat):Int):=by{rw[l];exact(zhX s j 2 (by decide)).symm};have h:d=((ziU s (4*j+3):Nat):Int):=by{rw[m,zhX s j 3 (by decide)];simp};rw[e,f,g,h,show 4*(j+1)=4*j+1+1+1+1 by omega,<-zbc,<-zbc,<-zbc,<-zbc];simp
theorem ztD(W:zW)(a b c d:Value)(t:TypeId):∀(j:Nat) (u:Value),[a,b,c,d][j]?=some u->(W.alloc (.cells #[a,b,c,d] t)).cell? ((⟨W.heap.size,0,none⟩:Addr).add j)=some u:=by intro j u e;match j,e with|0,e=>{simp at e;subst e;simp[Addr.add]}|1,e=>{simp at e;subst e;simp[Addr.add]}|2,e=>{simp at e;subst e;simp[Addr.add]}|3,e=>{simp at e;subst e;simp[Addr.add]}
end Sh
namespace St
def zzV(w:zW)(a:Option Addr)(len cap:Nat)(ss:List zY):Prop :=
 (a=none/\len=0/\cap=0/\ss=[]) ∨
 ∃x,a=some x/\len<=cap/\cap<=maxLen/\ss.length=cap/\(∀i,i<ss.length->w.cell? (x.add i)=some (.string (ss.getD i ByteArray.empty)))/\∀s∈ss,s.size<=maxLen
end St
namespace Dr
theorem zbZ{W:zW}{B:Nat}{a b c d:Value}{T:TypeId}(h:W.heap[B]?=some (.cells #[a,b,c,d] T (0,0)))(v:Value): (W.setCell ⟨B,3,none⟩ v).heap[B]?=some (.cells #[a,b,c,v] T (0,0)):=by rw[Ep W B 3 _ T v h];rfl
def zzl(a:Option Addr)(len cap:Nat)(mix size:Int):Obj:=.cells #[.slice a len cap,.int .i64 0,.int .u64 mix,.int .i64 size] 91 (0,0)
theorem zmu{w wr:zW}{a:Option Addr}{len d:Nat}{c size:Int}(q:Row w w.heap.size a len)(p:zaV w.heap.size (w.alloc (zzl a len d 88172645463325252 0)) wr)(m:wr.heap[w.heap.size]?=some (zzl a len d c size))(h:0<=c)(j:c<=18446744073709551615)(k:0<=size)(l:size<=12):Src wr w.heap.size a len d:=by refine⟨p.row ?_,0,c,size,m,Vg _,by omega,h,j,k,l⟩;rcases q with g|⟨b,off,rfl,e,n⟩;{exact .inl g};{refine .inr ⟨b,off,rfl,e,fun i o=>?_⟩;obtain⟨z,f,r,s⟩:=n i o;exact⟨z,(K4 _ _ ⟨b,off+i,none⟩ (Of w _ f)).trans f,r,s⟩}
theorem J4(a:Option Addr)(len g:Nat)(w:zW)(I:len<=1048576)(B:Row w w.heap.size a len): Calls prog 32 #[.slice a len g] w fun e w'=>e=.returned (.pointer (some ⟨w.heap.size,0,none⟩))/\Src w' w.heap.size a len g/\zU w w'/\w'.heap.size=w.heap.size+1:=by have j:=zZ B;clear B;go_enter func32,ntmps32;go_wp2;(go_loopw [4] (fun i wr=>∃(k:Nat) (d:Int),i=.int .i64 k/\k<=len/\0<=d/\d<=18446744073709551615/\wr.heap[w.heap.size]?=some (zzl a len g d 0)/\zaV w.heap.size (w.alloc (zzl a len g 88172645463325252 0)) wr) (fun i _=>len-(intOf i).toNat));(case atStart=>exact⟨0,88172645463325252,rfl,En _,by decide,by decide,E2 _ _,zaV.refl _ _⟩);(case round=>obtain⟨k,d,rfl,H,q,r,l,y⟩:=hrel;have c2:wr.cell? ⟨w.heap.size,2,none⟩=some (.int .u64 d):=by{rw[El wr _ 2 _ _ _ l];rfl};have t:wr.cell? ⟨w.heap.size,3,none⟩=some (.int .i64 0):=by{rw[El wr _ 3 _ _ _ l];rfl};have f:=fun o=>Ee wr w.heap.size o _ _ l;have h:=zZ l;have c:=zZ y;clear l y;by_cases s:k<len;{by_cases D:k<64;{rcases j.o with G|⟨b,off,rfl,n,u⟩;{exfalso;omega};{obtain⟨z,C,K,L⟩:=u k s;have E:wr.cell? ⟨b,off+k,none⟩=some (.int .u8 z):=(Nk (w:=w.alloc _) (a:=⟨b,off+k,none⟩) (c.o.2.2.2.2 b (Vb n))).trans ((K4 _ _ ⟨b,off+k,none⟩ n).trans C);clear u C;have g1:(k:Int)<(len:Int):=by{omega};go_wp2;(go_region);go_wp2;(go_roundw);(case rel=>exact⟨k+1,_,by go_num,by omega,(QK _).1,(QK _).2,zcx h.o _,(c.o.set 2 _).drew⟩);(case measure=>simp[intOf];omega)}};{have hd:decide ((k:Int)<64)=false:=Ed (by omega);have g1:(k:Int)<(len:Int):=by{omega};have F:=fun v=>sc1 (W:=wr) (p:=⟨w.heap.size,3,none⟩) (x:=.int .i64 0) t v;by_cases m:(12:Int)<(len:Int)/20;{go_wp2;go_ret;refine⟨rfl,zmu j.o ((c.o.set 3 _).set 3 _) (zbZ (zbZ h.o _) _) q r (by omega) (by omega),?_,?_⟩;{exact((c.o.set 3 _).set 3 _).below ((Eb _ _).alloc (Ea _) _) (Ea _)};{have:=((c.o.set 3 (.int .i64 0)).set 3 (.int .i64 0)).2.2.2.1;simpa [World.setCell] using this}};{go_wp2;go_ret;refine⟨rfl,zmu j.o (c.o.set 3 _) (zbZ h.o _) q r (by omega) (by omega),?_,?_⟩;{exact(c.o.set 3 _).below ((Eb _ _).alloc (Ea _) _) (Ea _)};{have:=(c.o.set 3 (.int .i64 0)).2.2.2.1;simpa [World.setCell] using this}}}};{have hd:decide ((k:Int)<(len:Int))=false:=Ed (by omega);have F:=fun v=>sc1 (W:=wr) (p:=⟨w.heap.size,3,none⟩) (x:=.int .i64 0) t v;by_cases m:(12:Int)<(len:Int)/20;{go_wp2;go_ret;refine⟨rfl,zmu j.o ((c.o.set 3 _).set 3 _) (zbZ (zbZ h.o _) _) q r (by omega) (by omega),?_,?_⟩;{exact((c.o.set 3 _).set 3 _).below ((Eb _ _).alloc (Ea _) _) (Ea _)};{have:=((c.o.set 3 (.int .i64 0)).set 3 (.int .i64 0)).2.2.2.1;simpa [World.setCell] using this}};{go_wp2;go_ret;refine⟨rfl,zmu j.o (c.o.set 3 _) (zbZ h.o _) q r (by omega) (by omega),?_,?_⟩;{exact(c.o.set 3 _).below ((Eb _ _).alloc (Ea _) _) (Ea _)};{have:=(c.o.set 3 (.int .i64 0)).2.2.2.1;simpa [World.setCell] using this}}})
end Dr
namespace Tr
def zzX(n:Nat):Nat:=if _h:n=0 then 0 else n%2+zzX (n/2)
termination_by n
decreasing_by omega
def f1(a:Nat):Nat:=(a/2 &&& 85)+(a &&& 85)
def f2(a:Nat):Nat:=(a/4 &&& 51)+(a &&& 51)
def zz7(a:Nat):Nat:=a%2+(a/2%2+(a/4%2+(a/8%2+(a/16%2+(a/32%2+(a/64%2+a/128%2))))))
end Tr
end Go.Proofs.YtoojegpaofdbfaaGreatDoor
