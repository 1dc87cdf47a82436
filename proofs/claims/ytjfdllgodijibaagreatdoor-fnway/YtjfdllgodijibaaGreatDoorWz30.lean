/- Texts put together: HuLeastS, HuLeast, HuDel, HuTake, HuFlat, HuTrees, HuConcat, HuDeep, HuMid. -/
import Derived.Test.YtjfdllgodijibaaGreatDoorWz29
import Derived.Deep.RegionWith
import Derived.BigQuiet
import Derived.Shelf.Abstract
import Derived.Deep.RegionLaw
import Derived.Lib.SliceRun
import Derived.Deep.Upon
import Derived.Test.YtjfdllgodijibaaGreatDoorWz28
import Derived.Shelf.Spec.SlicesGrow
/- For the walk of l04Least: the least but one, step by step. -/
namespace Go.Proofs.YtjfdllgodijibaaGreatDoor.Hf
open Go.RowKit
def oi:Option Nat->Int
 |none=>-1
 |some k=>(k:Int)
theorem lb_lt (l:List Tree) (a:Nat):∀ i k,lb l a i=some k->k<i
 |0,k,h=>by cases h
 |i+1,k,h=>by
  rw[lb]at h
  split at h
  ·have:=lb_lt l a i k h
   omega
  ·split at h
   ·simp at h
    omega
   ·rename_i k' hk'
    have:=lb_lt l a i k' hk'
    split at h<;>simp at h<;>omega
theorem lb_none {l:List Tree} {a i:Nat} (h:lb l a i=none) (hia:¬i=a):lb l a (i+1)=some i:=by
 rw[lb,if_neg hia,h]
theorem lb_some {l:List Tree} {a i k:Nat} (h:lb l a i=some k) (hia:¬i=a):lb l a (i+1)=if wt l i<wt l k then some i else some k:=by
 rw[lb,if_neg hia,h]
end Go.Proofs.YtjfdllgodijibaaGreatDoor.Hf


/- The walks of weightOf and leastAt. -/
namespace Go.Proofs.YtjfdllgodijibaaGreatDoor.Hf
open Go.RowKit
end Go.Proofs.YtjfdllgodijibaaGreatDoor.Hf


/- The walk of slices.Delete of one tree. -/
namespace Go.Proofs.YtjfdllgodijibaaGreatDoor.Hf
open Go.RowKit
def lays (cur:Array Value):Nat->List Value->Array Value
 |_,[]=>cur
 |o,v :: r=>lays (cur.setIfInBounds o v) (o+1) r
end Go.Proofs.YtjfdllgodijibaaGreatDoor.Hf


/- The walk of takeLeast. -/
namespace Go.Proofs.YtjfdllgodijibaaGreatDoor.Hf
open Go.RowKit
open In (IsI irow)
structure Wr (g gl:Nat) (w w':World):Prop where
 os:w'.os=w.os
 tape:w'.tape=w.tape
 output:w'.output=w.output
 size:w.heap.size<=w'.heap.size
 block:∀ k,k<w.heap.size->k≠g->k≠gl->w'.heap[k]? = w.heap[k]?
theorem Wr.refl (g gl:Nat) (w:World):Wr g gl w w:=⟨rfl,rfl,rfl,Nat.le_refl _,fun _ _ _ _=>rfl⟩
theorem Wr.trans {g gl:Nat} {a b c:World} (h:Wr g gl a b) (k:Wr g gl b c):Wr g gl a c :=
 ⟨k.os.trans h.os,k.tape.trans h.tape,k.output.trans h.output,Nat.le_trans h.size k.size,fun i hi h1 h2=>(k.block i (Nat.lt_of_lt_of_le hi h.size) h1 h2).trans (h.block i hi h1 h2)⟩
theorem Wr.of {g gl:Nat} {a b:World} (h:Below a.heap.size a b):Wr g gl a b:=⟨h.os,h.tape,h.output,h.size,fun k hk _ _=>h.block k hk⟩
theorem Wr.more {g gl:Nat} {a b c:World} (h:Wr g gl a b) (k:Below b.heap.size b c):Wr g gl a c:=h.trans (Wr.of k)
theorem Wr.setl {g gl:Nat} {a b:World} (h:Wr g gl a b) (o:Nat) (v:Value):Wr g gl a (b.setCell ⟨gl,o,none⟩ v) :=
 ⟨h.os,h.tape,h.output,by simpa [World.setCell] using h.size,fun k hk h1 h2=>by
  rw[heap_setCell_other b _ k v h2]
  exact h.block k hk h1 h2⟩
theorem Wr.new {g gl:Nat} {a b:World} (h:Wr g gl a b) {z:Nat} (hz:a.heap.size<=z) (o:Nat) (v:Value):Wr g gl a (b.setCell ⟨z,o,none⟩ v) :=
 ⟨h.os,h.tape,h.output,by simpa [World.setCell] using h.size,fun k hk h1 h2=>by
  rw[heap_setCell_other b _ k v (by show k≠z;omega)]
  exact h.block k hk h1 h2⟩
def up (d:List Nat):List Int:=d.map fun (x:Nat)=>(x:Int)
theorem up_length (d:List Nat):(up d).length=d.length:=List.length_map ..
theorem up_at (d:List Nat) (k:Nat) (h:k<d.length):(up d)[k]'(by rw[up_length];exact h)=((d.getD k 0:Nat):Int):=by
 unfold up
 rw[List.getElem_map,List.getD_eq_getElem?_getD,List.getElem?_eq_getElem h]
 rfl
theorem up_set (d:List Nat) (k v:Nat):(up d).set k (v:Int)=up (d.set k v):=by
 unfold up
 rw[List.map_set]
theorem incs_next (d s:List Nat) (j:Nat) (h:j<s.length):incs d (s.take (j+1))=(incs d (s.take j)).set s[j] ((incs d (s.take j)).getD s[j] 0+1):=by
 rw[List.take_add_one,List.getElem?_eq_getElem h]
 unfold incs
 rw[List.foldl_append]
 rfl
theorem incs_le (s:List Nat):∀ (d:List Nat) (j:Nat),(∀ k∈s,k<d.length)->(incs d s).getD j 0<=d.getD j 0+s.length:=by
 unfold incs
 induction s with
 |nil=>intro d j _;exact Nat.le_refl _
 |cons k s ih =>
  intro d j hk
  rw[List.foldl_cons]
  have h1:=ih (d.set k (d.getD k 0+1)) j (fun x hx=>by rw[List.length_set];exact hk x (List.mem_cons_of_mem _ hx))
  rw[getD_set _ _ _ _ (hk k (List.mem_cons_self ..))]at h1
  rw[List.length_cons]
  split at h1
  ·rename_i e
   subst e
   omega
  ·omega
theorem first_mt (m:List MT) (hl:least (mt m) m.length<m.length):(m[least (mt m) m.length]).1=first (mt m):=by
 unfold first at0
 rw[mt_length,List.getD_eq_getElem?_getD]
 unfold mt
 rw[List.getElem?_map,List.getElem?_eq_getElem (by unfold mt at hl;exact hl)]
 rfl
theorem erase_map:∀ (m:List MT) (i:Nat),(m.eraseIdx i).map (fun x=>x.fst)=(m.map fun x=>x.fst).eraseIdx i
 |[],_=>rfl
 |_ :: _,0=>rfl
 |x :: m,i+1=>by
  rw[List.eraseIdx_cons_succ,List.map_cons,List.map_cons,List.eraseIdx_cons_succ,erase_map m i]
theorem rest_mt (m:List MT):mt (m.eraseIdx (least (mt m) m.length))=rest1 (mt m):=by
 unfold rest1
 rw[mt_length]
 unfold mt
 rw[erase_map]
end Go.Proofs.YtjfdllgodijibaaGreatDoor.Hf


/- The walks of flatten and treesOf. -/
namespace Go.Proofs.YtjfdllgodijibaaGreatDoor.Hf
open Go.RowKit
open In (IsI irow Ints made_ints)
def midF (c:List Nat) (j:Nat):List Nat:=(flat c).take j++List.replicate (c.length-j) 0
theorem up_get {c:List Nat} {W:World} {b off:Nat} (hc:∀ j (h:j<(up c).length),W.cell? ⟨b,off+j,none⟩=some (.int .i64 (up c)[j])) (j:Nat) (h:j<c.length):W.cell? ⟨b,off+j,none⟩=some (.int .i64 (c[j]:Nat)):=by
 rw[hc j (by rw[up_length];exact h),up_at c j h,List.getD_eq_getElem?_getD,List.getElem?_eq_getElem h]
 rfl
end Go.Proofs.YtjfdllgodijibaaGreatDoor.Hf


/- The walk of treesOf. -/
namespace Go.Proofs.YtjfdllgodijibaaGreatDoor.Hf
open Go.RowKit
open In (IsI irow Ints made_ints)
theorem two_new (W:World) (x y:Value) (t:TypeId):∀ (j:Nat) (u:Value),[x,y][j]? = some u->(W.alloc (.cells #[x,y] t)).cell? ((⟨W.heap.size,0,none⟩:Addr).add j)=some u:=by
 intro j u hj
 match j,hj with
 |0,hj=>simp at hj;subst hj;simp[Addr.add]
 |1,hj=>simp at hj;subst hj;simp[Addr.add]
theorem two_one {x y:Value} (hx:x.oneCell'=true) (hy:y.oneCell'=true):∀ u∈[x,y],u.oneCell'=true:=by
 intro u hu
 simp at hu
 rcases hu with rfl|rfl
 ·exact hx
 ·exact hy
theorem Keeps.grown {W W':World} {row:Option Nat} (h:W.grownBy W' row) (hr:∀ k,row=some k->∃ cs t,W.heap[k]? = some (.cells cs t (0,0))/\t≠3):Keeps W W':=fun g cur e=>by
 rw[h.block g (lt_row e) (by
  intro hg
  obtain⟨cs,t,hk,ht⟩:=hr g hg.symm
  rw[hk]at e
  simp at e
  exact ht e.2)]
 exact e
theorem OwnT.rowT {W:World} {e:TypeId} {base:Nat} {v:Value} {m:List MT} (h:OwnT W e base v m) (he:e≠3):∀ k,v.ownBlock=some k->∃ cs t,W.heap[k]? = some (.cells cs t (0,0))/\t≠3:=by
 intro k hk
 obtain⟨_,h⟩:=h
 rcases h with⟨h,_⟩|⟨g,cap,cur,hv,_,hb,_⟩
 ·subst h
  simp[Value.ownBlock]at hk
 ·subst hv
  simp[Value.ownBlock]at hk
  subst hk
  exact⟨cur,e,hb,he⟩
theorem OwnT.alloc {W:World} {e:TypeId} {base:Nat} {v:Value} {m:List MT} (h:OwnT W e base v m) (o:Obj):OwnT (W.alloc o) e base v m:=World.ownsRow.alloc h o
theorem OwnT.snoc {W:World} {e:TypeId} {base:Nat} {v:Value} {m:List MT} {x:MT} (h:W.ownsRow base e 2 v (m.length+1) (cells m++[.int .i64 (x.1.1:Nat),x.2])):OwnT W e base v (m++[x]):=by
 unfold OwnT
 rw[List.length_append,cells_append]
 exact h
theorem Sym.one (W:World) (j:Nat):Sym (W.alloc (.cells #[.int .i64 (j:Nat)] 3)) (.slice (some ⟨W.heap.size,0,none⟩) 1 1) [j] :=
 ⟨W.heap.size,1,_,rfl,heap_alloc_new W _,Nat.le_refl _,fun i hi=>by
  have:i=0:=by simpa using hi
  subst this
  rfl⟩
theorem trees_yes (c:List Nat) (j:Nat) (h:j<c.length) (h0:0<c[j]):trees c (j+1)=trees c j++[(c[j],[j])]:=by
 have:c.getD j 0=c[j]:=by rw[List.getD_eq_getElem?_getD,List.getElem?_eq_getElem h];rfl
 rw[trees,this,if_pos h0]
theorem trees_no (c:List Nat) (j:Nat) (h:j<c.length) (h0:¬0<c[j]):trees c (j+1)=trees c j:=by
 have:c.getD j 0=c[j]:=by rw[List.getD_eq_getElem?_getD,List.getElem?_eq_getElem h];rfl
 rw[trees,this,if_neg h0]
end Go.Proofs.YtjfdllgodijibaaGreatDoor.Hf


/- The walk of slices.Concat of two rows of symbols. -/
namespace Go.Proofs.YtjfdllgodijibaaGreatDoor.Hf
open Go.RowKit Go.Shelf
theorem Tryz.infoInt:(Tryz.prog.info? 3).map (fun i=>(i.zero,i.size,i.bytes))=some (some (.int .i64 0),1,8):=by kernel_rfl
def nums (s:List Nat):List Value:=s.map fun (x:Nat)=>Value.int .i64 (x:Int)
def OwnY (W:World) (base:Nat) (v:Value) (s:List Nat):Prop:=W.ownsRow base 3 1 v s.length (nums s)
theorem nums_length (s:List Nat):(nums s).length=s.length:=List.length_map ..
theorem nums_one (s:List Nat):∀ u∈nums s,u.oneCell'=true:=by
 intro u hu
 obtain⟨x,_,rfl⟩:=List.mem_map.1 hu
 rfl
theorem Sym.news {W:World} {g:Nat} {s:List Nat} (hc:∀ j (h:j<s.length),W.cell? ⟨g,j,none⟩=some (.int .i64 (s[j]:Nat))):∀ j u,(nums s)[j]? = some u->W.cell? ((⟨g,0,none⟩:Addr).add j)=some u:=by
 intro j u hu
 have hj:j<s.length:=by
  have:=(List.getElem?_eq_some_iff.1 hu).1
  rwa[nums_length]at this
 unfold nums at hu
 rw[List.getElem?_map,List.getElem?_eq_getElem hj]at hu
 rw[Addr.add_lit,Nat.zero_add,hc j hj]
 exact hu
theorem OwnY.sym {W:World} {base:Nat} {v:Value} {s:List Nat} (h:OwnY W base v s) (h0:0<s.length):Sym W v s:=by
 obtain⟨_,h⟩:=h
 rcases h with⟨_,h⟩|⟨g,cap,cur,hv,_,hb,hn,_,hs,ht⟩
 ·omega
 ·refine⟨g,cap,cur,hv,hb,hn,fun j hj=>?_⟩
  have:(nums s)[j]? = some (.int .i64 (s[j]:Nat)):=by
   unfold nums
   rw[List.getElem?_map,List.getElem?_eq_getElem hj]
   rfl
  rw[<-ht,List.getElem?_take_of_lt (by omega),Array.getElem?_toList]at this
  exact this
theorem OwnY.app {W:World} {base:Nat} {v:Value} {s t:List Nat} (h:W.ownsRow base 3 1 v (s.length+t.length) (nums s++nums t)):OwnY W base v (s++t):=by
 unfold OwnY
 rw[List.length_append]
 unfold nums at h ⊢
 rw[List.map_append]
 exact h
def tot (a b:List Nat) (i:Nat):Nat:=if i=0 then 0 else if i=1 then a.length else a.length+b.length
def pre (a b:List Nat) (i:Nat):List Nat:=if i=0 then [] else if i=1 then a else a++b
end Go.Proofs.YtjfdllgodijibaaGreatDoor.Hf


/- What the walks of depthsOf and l04Lengths want of the plain mathematics. -/
namespace Go.Proofs.YtjfdllgodijibaaGreatDoor.Hf
open Go.RowKit
open In (IsI irow Ints made_ints)
def ns (l:List Tree):Nat:=(l.map fun t=>t.2.length).sum
theorem ns_perm {l l':List Tree} (p:l.Perm l'):ns l=ns l':=(p.map _).sum_nat
theorem ns_join (l:List Tree) (h:2<=l.length):ns (join l)=ns l:=by
 rw[ns_perm (two_perm l h),ns_perm (join_perm l)]
 unfold ns both
 simp only[List.map_cons,List.sum_cons,List.length_append]
 omega
theorem ns_trees (c:List Nat):∀ i,ns (trees c i)<=i
 |0=>Nat.le_refl _
 |i+1=>by
  have:=ns_trees c i
  rw[trees]
  split
  ·unfold ns at this ⊢
   rw[List.map_append,List.sum_append]
   simp
   exact this
  ·omega
theorem ns_mem (l:List Tree) (t:Tree) (h:t∈l):t.2.length<=ns l:=le_sum _ _ (List.mem_map.2 ⟨t,h,rfl⟩)
theorem fib_ge:∀ k,k+1<=fib (k+2)
 |0=>by decide
 |1=>by decide
 |k+2=>by
  have h1:=fib_ge k
  have h2:=fib_ge (k+1)
  rw[show fib (k+2+2)=fib (k+2)+fib (k+1+2) from rfl]
  omega
theorem Inv.small {l:List Tree} {d:List Nat} {n:Nat} (h:Inv l d n) (s:Nat):d.getD s 0<=n:=by
 rcases h.bound s with h|h
 ·unfold dep at h
  omega
 ·have:=fib_ge (dep d s)
  unfold dep at h this
  omega
theorem Inv.weights {l:List Tree} {d:List Nat} {n:Nat} (h:Inv l d n) (h2:2<=l.length):(first l).1+(second l).1<=n:=by
 have:=(h.perm (two_perm l h2)).sum
 simp only[List.map_cons,List.sum_cons]at this
 omega
theorem taken (m:List MT) (k:Nat) (hn:m.length=k+1):∃ x,m[least (mt m) (k+1)]? = some x/\x∈m/\x.1=first (mt m)/\mt (m.eraseIdx (least (mt m) (k+1)))=rest1 (mt m)/\(m.eraseIdx (least (mt m) (k+1))).length=k/\∀ y∈m.eraseIdx (least (mt m) (k+1)),y∈m:=by
 have hl:least (mt m) m.length<m.length:=by
  have:=least_lt (mt m) (by rw[mt_length];omega)
  rw[mt_length]at this
  exact this
 rw[<-hn]
 refine⟨m[least (mt m) m.length],List.getElem?_eq_getElem hl,List.getElem_mem hl,first_mt m hl,rest_mt m,?_,fun y hy=>List.mem_of_mem_eraseIdx hy⟩
 rw[List.length_eraseIdx,if_pos hl]
 omega
theorem Keeps.wr {g gl:Nat} {w w':World} (h:Wr g gl w w') {cs cl:Array Value} {t u:TypeId} (hg:w.heap[g]? = some (.cells cs t (0,0))) (ht:t≠3) (hl:w.heap[gl]? = some (.cells cl u (0,0))) (hu:u≠3):Keeps w w':=fun k cur e=>by
 rw[h.block k (lt_row e) (by
  rintro rfl
  rw[hg]at e
  simp at e
  exact ht e.2) (by
  rintro rfl
  rw[hl]at e
  simp at e
  exact hu e.2)]
 exact e
theorem OwnT.of {W:World} {e:TypeId} {base g cap n:Nat} {m:List MT} {cur:Array Value} (hn:m.length=n) (hg:base<=g) (hb:W.heap[g]? = some (.cells cur e (0,0))) (hc:n<=cap) (hm:cap<=maxLen) (hs:cur.size=cap*2) (ht:cur.toList.take (n*2)=cells m):OwnT W e base (.slice (some ⟨g,0,none⟩) n cap) m:=by
 subst hn
 exact⟨cells_length m,.inr ⟨g,cap,cur,rfl,hg,hb,hc,hm,hs,ht⟩⟩
theorem OwnT.parts {W:World} {e:TypeId} {base:Nat} {v:Value} {m:List MT} (h:OwnT W e base v m) (h0:0<m.length):∃ g cap cur,v=.slice (some ⟨g,0,none⟩) m.length cap/\base<=g/\m.length<=cap/\cap<=maxLen/\W.heap[g]? = some (.cells cur e (0,0))/\cur.size=cap*2/\cur.toList.take (m.length*2)=cells m:=by
 obtain⟨_,h⟩:=h
 rcases h with⟨_,h⟩|⟨g,cap,cur,hv,hg,hb,hn,hm,hs,ht⟩
 ·omega
 ·exact⟨g,cap,cur,hv,hg,hn,hm,hb,hs,ht⟩
theorem sum_all (c:List Nat) (hl:c.length<=257) (hm:∀ x∈c,x<=10000):c.sum<=2570000:=by
 have:=sum_le c 10000 hm
 omega
end Go.Proofs.YtjfdllgodijibaaGreatDoor.Hf


/- Between the two takes of depthsOf. -/
namespace Go.Proofs.YtjfdllgodijibaaGreatDoor.Hf
open Go.RowKit
open In (IsI irow Ints made_ints)
end Go.Proofs.YtjfdllgodijibaaGreatDoor.Hf

