/- Texts put together: LsReadW, KpLaid, HuffPlain, HuffBound, HuffOf, HuLeastB, HuRow, HuLeastS, HuLeast, HuDel. -/
import Derived.Test.YtkgjfdanjmnmbaaGreatDoorOz24
import Derived.Test.YtkgjfdanjmnmbaaGreatDoorOz8
import Derived.Test.YtkgjfdanjmnmbaaGreatDoorOz20
import Derived.ChangeSame
import Derived.OpenVars
import Derived.LaidMore
import Derived.Lib.SmallJoins
import Derived.WalkKit
import Derived.Test.YtkgjfdanjmnmbaaGreatDoorOz23
import Derived.Laws.OwnMore
import Derived.Deep.RegionWith
import Derived.BigQuiet
import Derived.Shelf.Abstract
import Derived.Deep.RegionLaw
import Derived.Lib.SliceRun
import Derived.Deep.Upon
set_option maxRecDepth 100000
set_option maxHeartbeats 8000000
/- The walks of ListRead. -/
namespace Go.Proofs.YtkgjfdanjmnmbaaGreatDoor.Ls
open Go.RowKit
open Gn (rd getV handle rt textV handle_below handle_alloc)
def HH (w:World):Prop:=w.cell? ⟨1,0,none⟩=some handle
theorem hh_keep {w w':World} (h:HH w) (hb:Below w.heap.size w w'):HH w':=handle_below hb h
end Go.Proofs.YtkgjfdanjmnmbaaGreatDoor.Ls


/- What a row's list of three variables gives a walk. -/
namespace Go.Proofs.YtkgjfdanjmnmbaaGreatDoor.Kp
open Go.RowKit Go.ChangeShapes Go.WideShapes Go.ChangeAt Go.Deep
open Ls (HH)
open Sh (Vars)
theorem etK:Tryz.prog.globalNamed "errors.errorType"=some 1:=by kernel_rfl
theorem rtK:(Tryz.prog.cutTypes.find? (·.1 == "internal/reflectlite.rtype")).map (·.2)=some 141:=by kernel_rfl
theorem oneRowK:((List.range 296).filter fun t=>Tryz.prog.rowNamed t [101,114,114,111,114])=[82]:=by kernel_rfl
theorem typesSizeK:Tryz.prog.types.size=296:=by kernel_rfl
theorem both_of_laid {W:World} (h:laidMetH Tryz.prog [("errors.errorType",Rows.laid_errors_errorType),("loop.example/g00550/impl.firstState",Rows.laid_loop_example_g00550_impl_firstState),("loop.example/g00550/impl.roundNumbers",Rows.laid_loop_example_g00550_impl_roundNumbers)] W):HH W/\Vars W:=by
 have h':laidMet Tryz.prog [("loop.example/g00550/impl.firstState",Rows.laid_loop_example_g00550_impl_firstState),("loop.example/g00550/impl.roundNumbers",Rows.laid_loop_example_g00550_impl_roundNumbers)] W/\handlesMet Tryz.prog [("errors.errorType",Rows.laid_errors_errorType)] W:=h
 refine⟨?_,Sh.vars_of_laid (by rw[MakeChecks.laidMetH_plain _ _ _ (by kernel_rfl)];exact h'.1)⟩
 obtain⟨name,u,ty,e1,e2,e3,e4,e5⟩:=h'.2 _ (List.mem_singleton.2 rfl)
 have en:name=[101,114,114,111,114]:=(Option.some.inj e1).symm
 subst en
 obtain rfl:=Option.some.inj (rtK.symm.trans e2)
 have hm:ty∈(List.range 296).filter fun t=>Tryz.prog.rowNamed t [101,114,114,111,114]:=List.mem_filter.2 ⟨List.mem_range.2 (by rw[<-typesSizeK];exact e3),e4⟩
 rw[oneRowK]at hm
 obtain rfl:=List.mem_singleton.1 hm
 have hh:typeHandle Tryz.prog 82=.pointer (some ⟨4,82,none⟩):=by kernel_rfl
 rw[hh]at e5
 show W.cell? ⟨1,0,none⟩=some Gn.handle
 unfold Gn.handle
 simpa using World.var?_cell etK e5 0
end Go.Proofs.YtkgjfdanjmnmbaaGreatDoor.Kp


/- Plain mathematics of lengths: trees are put together, the two least ones first; of counts of 1 and 2 no length comes above 12. -/
namespace Go.Proofs.YtkgjfdanjmnmbaaGreatDoor.Hf
abbrev Tree:=Nat × List Nat
def wt (l:List Tree) (i:Nat):Nat:=(l.getD i (0,[])).1
def least (l:List Tree):Nat->Nat
 |0=>0
 |i+1=>if wt l i<wt l (least l i) then i else least l i
theorem least_le (l:List Tree):∀ i,least l i<=i-1
 |0=>Nat.le_refl _
 |i+1=>by
  rw[least]
  have:=least_le l i
  split<;>omega
theorem least_lt (l:List Tree) (h:0<l.length):least l l.length<l.length:=by
 have:=least_le l l.length
 omega
theorem least_min (l:List Tree):∀ i j,j<i->wt l (least l i)<=wt l j
 |0,j,h=>by omega
 |i+1,j,h=>by
  rw[least]
  by_cases hj:j=i
  ·subst hj
   split<;>omega
  ·have:=least_min l i j (by omega)
   split<;>omega
def at0 (l:List Tree) (i:Nat):Tree:=l.getD i (0,[])
def first (l:List Tree):Tree:=at0 l (least l l.length)
def rest1 (l:List Tree):List Tree:=l.eraseIdx (least l l.length)
def second (l:List Tree):Tree:=first (rest1 l)
def rest2 (l:List Tree):List Tree:=rest1 (rest1 l)
def both (l:List Tree):Tree:=((first l).1+(second l).1,(first l).2++(second l).2)
def join (l:List Tree):List Tree:=rest2 l++[both l]
theorem rest1_length (l:List Tree) (h:0<l.length):(rest1 l).length=l.length-1:=by
 unfold rest1
 rw[List.length_eraseIdx,if_pos (least_lt l h)]
theorem rest2_length (l:List Tree) (h:2<=l.length):(rest2 l).length=l.length-2:=by
 unfold rest2
 rw[rest1_length _ (by rw[rest1_length l (by omega)];omega),rest1_length l (by omega)]
 omega
theorem join_length (l:List Tree) (h:2<=l.length):(join l).length=l.length-1:=by
 unfold join
 rw[List.length_append,rest2_length l h]
 simp
 omega
def incs (d:List Nat) (s:List Nat):List Nat:=s.foldl (fun d k=>d.set k (d.getD k 0+1)) d
theorem incs_length (s:List Nat):∀ d,(incs d s).length=d.length:=by
 unfold incs
 induction s with
 |nil=>intro d;rfl
 |cons k s ih =>
  intro d
  rw[List.foldl_cons,ih,List.length_set]
theorem getD_set (d:List Nat) (k j v:Nat) (hk:k<d.length):(d.set k v).getD j 0=if j=k then v else d.getD j 0:=by
 rw[List.getD_eq_getElem?_getD,List.getElem?_set]
 by_cases h:k=j
 ·subst h
  rw[if_pos rfl,if_pos hk,if_pos rfl]
  rfl
 ·rw[if_neg h,if_neg (fun e=>h e.symm),List.getD_eq_getElem?_getD]
theorem incs_at (s:List Nat):∀ (d:List Nat) (j:Nat),s.Nodup->(∀ k∈s,k<d.length)->(incs d s).getD j 0=if j∈s then d.getD j 0+1 else d.getD j 0:=by
 unfold incs
 induction s with
 |nil=>intro d j _ _;simp
 |cons k s ih =>
  intro d j hn hk
  obtain⟨h1,h2⟩:=List.nodup_cons.1 hn
  have hkd:=hk k (List.mem_cons_self ..)
  rw[List.foldl_cons,ih (d.set k (d.getD k 0+1)) j h2 (fun x hx=>by rw[List.length_set];exact hk x (List.mem_cons_of_mem _ hx)),getD_set _ _ _ _ hkd]
  by_cases hj:j=k
  ·subst hj
   rw[if_neg h1,if_pos rfl,if_pos (List.mem_cons_self ..)]
  ·rw[if_neg hj]
   by_cases hs:j∈s
   ·rw[if_pos hs,if_pos (List.mem_cons_of_mem _ hs)]
   ·rw[if_neg hs,if_neg (fun h=>by rcases List.mem_cons.1 h with h|h;exact hj h;exact hs h)]
def run:Nat->List Tree->List Nat->List Nat
 |0,_,d=>d
 |f+1,l,d=>if l.length<=1 then d else run f (join l) (incs (incs d (first l).2) (second l).2)
theorem run_done (f:Nat) (l:List Tree) (d:List Nat) (h:l.length<=1):run f l d=d:=by
 cases f with
 |zero=>rfl
 |succ f=>rw[run,if_pos h]
theorem run_more (l:List Tree) (d:List Nat) (h:¬l.length<=1):run l.length l d=run (join l).length (join l) (incs (incs d (first l).2) (second l).2):=by
 rw[join_length l (by omega)]
 obtain⟨f,hf⟩:∃ f,l.length=f+1:=⟨l.length-1,by omega⟩
 rw[hf,run,if_neg h]
 rfl
end Go.Proofs.YtkgjfdanjmnmbaaGreatDoor.Hf


/- Plain mathematics of lengths: how deep trees come to be. -/
namespace Go.Proofs.YtkgjfdanjmnmbaaGreatDoor.Hf
def fib:Nat->Nat
 |0=>0
 |1=>1
 |n+2=>fib n+fib (n+1)
theorem fib_le (n:Nat):fib n<=fib (n+1):=by
 cases n with
 |zero=>decide
 |succ n =>
  rw[show fib (n+1+1)=fib n+fib (n+1) from rfl]
  omega
theorem fib_mono {m n:Nat} (h:m<=n):fib m<=fib n:=by
 induction n with
 |zero =>
  have:m=0:=by omega
  rw[this]
  exact Nat.le_refl _
 |succ n ih =>
  by_cases hm:m=n+1
  ·rw[hm]
   exact Nat.le_refl _
  ·exact Nat.le_trans (ih (by omega)) (fib_le n)
def dep (d:List Nat) (s:Nat):Nat:=d.getD s 0
def sep (d:List Nat) (t u:Tree):Prop:=(∀ s∈t.2,fib (dep d s+1)<=u.1)/\(∀ s∈u.2,fib (dep d s+1)<=t.1)/\∀ s∈t.2,s ∉ u.2
theorem sep_symm {d:List Nat} {t u:Tree} (h:sep d t u):sep d u t:=⟨h.2.1,h.1,fun s hs ht=>h.2.2 s ht hs⟩
structure Inv (l:List Tree) (d:List Nat) (n:Nat):Prop where
 own:∀ t∈l,∀ s∈t.2,fib (dep d s+2)<=t.1
 nd:∀ t∈l,t.2.Nodup
 lt:∀ t∈l,∀ s∈t.2,s<d.length
 pw:l.Pairwise (sep d)
 sum:(l.map (·.1)).sum=n
 out:∀ s,(∀ t∈l,s ∉ t.2)->dep d s=0
theorem Inv.perm {l l':List Tree} {d:List Nat} {n:Nat} (h:Inv l d n) (p:l.Perm l'):Inv l' d n :=
 ⟨fun t ht=>h.own t (p.mem_iff.2 ht),fun t ht=>h.nd t (p.mem_iff.2 ht),fun t ht=>h.lt t (p.mem_iff.2 ht),(p.pairwise_iff sep_symm).1 h.pw,(p.map _).sum_nat.symm.trans h.sum,fun s hs=>h.out s fun t ht=>hs t (p.mem_iff.1 ht)⟩
theorem first_mem (l:List Tree) (h:0<l.length):first l=l[least l l.length]'(least_lt l h):=by
 unfold first at0
 rw[List.getD_eq_getElem?_getD,List.getElem?_eq_getElem (least_lt l h)]
 rfl
theorem erase_perm:∀ (l:List Tree) (i:Nat) (h:i<l.length),l.Perm (l[i] :: l.eraseIdx i)
 |[],i,h=>absurd h (Nat.not_lt_zero i)
 |_ :: _,0,_=>List.Perm.refl _
 |x :: l,i+1,h=>((erase_perm l i (Nat.lt_of_succ_lt_succ h)).cons x).trans (List.Perm.swap _ _ _)
theorem le_sum:∀ (l:List Nat) (x:Nat),x∈l->x<=l.sum
 |[],x,h=>absurd h (List.not_mem_nil)
 |y :: l,x,h=>by
  rw[List.sum_cons]
  rcases List.mem_cons.1 h with rfl|h
  ·omega
  ·have:=le_sum l x h
   omega
theorem first_perm (l:List Tree) (h:0<l.length):l.Perm (first l :: rest1 l):=by
 rw[first_mem l h]
 exact erase_perm l _ (least_lt l h)
theorem first_min (l:List Tree) (t:Tree) (ht:t∈l):(first l).1<=t.1:=by
 obtain⟨j,hj,rfl⟩:=List.getElem_of_mem ht
 have:=least_min l l.length j hj
 unfold wt at this
 rw[show (l.getD j (0,[]))=l[j] by rw[List.getD_eq_getElem?_getD,List.getElem?_eq_getElem hj];rfl]at this
 exact this
theorem two_perm (l:List Tree) (h:2<=l.length):l.Perm (first l :: second l :: rest2 l) :=
 (first_perm l (by omega)).trans ((first_perm (rest1 l) (by rw[rest1_length l (by omega)];omega)).cons _)
theorem join_perm (l:List Tree):(join l).Perm (both l :: rest2 l):=List.perm_append_comm
theorem two_dep (d a b:List Nat) (ha:a.Nodup) (hb:b.Nodup) (hab:∀ s∈a,s ∉ b) (la:∀ s∈a,s<d.length) (lb:∀ s∈b,s<d.length) (s:Nat):dep (incs (incs d a) b) s=if s∈a++b then dep d s+1 else dep d s:=by
 unfold dep
 rw[incs_at b _ s hb (fun k hk=>by rw[incs_length];exact lb k hk),incs_at a d s ha la]
 by_cases h1:s∈a
 ·rw[if_neg (hab s h1),if_pos h1,if_pos (List.mem_append_left _ h1)]
 ·by_cases h2:s∈b
  ·rw[if_pos h2,if_neg h1,if_pos (List.mem_append_right _ h2)]
  ·rw[if_neg h2,if_neg h1,if_neg (fun h=>by rcases List.mem_append.1 h with h|h;exact h1 h;exact h2 h)]
theorem Inv.two {a b:Tree} {r:List Tree} {d:List Nat} {n:Nat} (h:Inv (a :: b :: r) d n) (hm:∀ c∈r,a.1<=c.1/\b.1<=c.1):Inv ((a.1+b.1,a.2++b.2) :: r) (incs (incs d a.2) b.2) n:=by
 have ma:a∈a :: b :: r:=List.mem_cons_self ..
 have mb:b∈a :: b :: r:=List.mem_cons_of_mem _ (List.mem_cons_self ..)
 have mr:∀ c∈r,c∈a :: b :: r:=fun c hc=>List.mem_cons_of_mem _ (List.mem_cons_of_mem _ hc)
 obtain⟨pa,pb'⟩:=List.pairwise_cons.1 h.pw
 obtain⟨pb,pr⟩:=List.pairwise_cons.1 pb'
 have sab:=pa b (List.mem_cons_self ..)
 have hd:=two_dep d a.2 b.2 (h.nd a ma) (h.nd b mb) sab.2.2 (h.lt a ma) (h.lt b mb)
 have hlen:(incs (incs d a.2) b.2).length=d.length:=by rw[incs_length,incs_length]
 have hout:∀ c∈r,∀ s∈c.2,dep (incs (incs d a.2) b.2) s=dep d s:=fun c hc s hs=>by
  rw[hd,if_neg]
  intro hx
  rcases List.mem_append.1 hx with hx|hx
  ·exact(pa c (List.mem_cons_of_mem _ hc)).2.2 s hx hs
  ·exact(pb c hc).2.2 s hx hs
 refine⟨?_,?_,?_,?_,?_,?_⟩
 ·intro t ht s hs
  rcases List.mem_cons.1 ht with rfl|ht
  ·rw[hd,if_pos hs,show fib (dep d s+1+2)=fib (dep d s+1)+fib (dep d s+2) from rfl]
   show _<=a.1+b.1
   rcases List.mem_append.1 hs with hs|hs
   ·have h1:=sab.1 s hs
    have h2:=h.own a ma s hs
    omega
   ·have h1:=sab.2.1 s hs
    have h2:=h.own b mb s hs
    omega
  ·rw[hout t ht s hs]
   exact h.own t (mr t ht) s hs
 ·intro t ht
  rcases List.mem_cons.1 ht with rfl|ht
  ·exact List.nodup_append.2 ⟨h.nd a ma,h.nd b mb,fun x hx y hy e=>sab.2.2 x hx (e ▸ hy)⟩
  ·exact h.nd t (mr t ht)
 ·intro t ht s hs
  rw[hlen]
  rcases List.mem_cons.1 ht with rfl|ht
  ·rcases List.mem_append.1 hs with hs|hs
   ·exact h.lt a ma s hs
   ·exact h.lt b mb s hs
  ·exact h.lt t (mr t ht) s hs
 ·refine List.pairwise_cons.2 ⟨fun c hc=>⟨?_,?_,?_⟩,?_⟩
  ·intro s hs
   rw[hd,if_pos hs]
   rcases List.mem_append.1 hs with hs|hs
   ·exact Nat.le_trans (h.own a ma s hs) (hm c hc).1
   ·exact Nat.le_trans (h.own b mb s hs) (hm c hc).2
  ·intro s hs
   rw[hout c hc s hs]
   have:=(pa c (List.mem_cons_of_mem _ hc)).2.1 s hs
   show _<=a.1+b.1
   omega
  ·intro s hs hc'
   rcases List.mem_append.1 hs with hs|hs
   ·exact(pa c (List.mem_cons_of_mem _ hc)).2.2 s hs hc'
   ·exact(pb c hc).2.2 s hs hc'
  ·refine List.Pairwise.imp_of_mem ?_ pr
   intro c c' hc hc' hs
   refine⟨fun s x=>?_,fun s x=>?_,hs.2.2⟩
   ·rw[hout c hc s x]
    exact hs.1 s x
   ·rw[hout c' hc' s x]
    exact hs.2.1 s x
 ·have:=h.sum
  simp only[List.map_cons,List.sum_cons]at this ⊢
  omega
 ·intro s hs
  have h0:=hs _ (List.mem_cons_self ..)
  rw[hd,if_neg h0]
  refine h.out s fun t ht hts=>?_
  rcases List.mem_cons.1 ht with rfl|ht
  ·exact h0 (List.mem_append_left _ hts)
  ·rcases List.mem_cons.1 ht with rfl|ht
   ·exact h0 (List.mem_append_right _ hts)
   ·exact hs t (List.mem_cons_of_mem _ ht) hts
theorem Inv.join {l:List Tree} {d:List Nat} {n:Nat} (h:Inv l d n) (h2:2<=l.length):Inv (join l) (incs (incs d (first l).2) (second l).2) n:=by
 refine Inv.perm (Inv.two (h.perm (two_perm l h2)) fun c hc=>⟨?_,?_⟩) (join_perm l).symm
 ·exact first_min l c ((two_perm l h2).mem_iff.2 (List.mem_cons_of_mem _ (List.mem_cons_of_mem _ hc)))
 ·refine first_min (rest1 l) c ?_
  have hp:=first_perm (rest1 l) (by rw[rest1_length l (by omega)];omega)
  exact hp.mem_iff.2 (List.mem_cons_of_mem _ hc)
theorem Inv.bound {l:List Tree} {d:List Nat} {n:Nat} (h:Inv l d n) (s:Nat):dep d s=0∨fib (dep d s+2)<=n:=by
 by_cases hs:∀ t∈l,s ∉ t.2
 ·exact .inl (h.out s hs)
 ·refine .inr ?_
  obtain⟨t,ht⟩:∃ t,¬(t∈l->s ∉ t.2):=Classical.not_forall.1 hs
  obtain⟨hl,hst⟩:t∈l/\s∈t.2:=⟨Classical.byContradiction fun e=>ht fun h=>absurd h e,Classical.byContradiction fun e=>ht fun _=>e⟩
  refine Nat.le_trans (h.own t hl s hst) ?_
  rw[<-h.sum]
  exact le_sum _ _ (List.mem_map.2 ⟨t,hl,rfl⟩)
theorem run_bound (f:Nat):∀ (l:List Tree) (d:List Nat) (n:Nat),Inv l d n->∀ s,dep (run f l d) s=0∨fib (dep (run f l d) s+2)<=n:=by
 induction f with
 |zero=>intro l d n h s;exact h.bound s
 |succ f ih =>
  intro l d n h s
  rw[run]
  split
  ·exact h.bound s
  ·exact ih _ _ _ (h.join (by omega)) s
theorem run_length (f:Nat):∀ (l:List Tree) (d:List Nat),(run f l d).length=d.length:=by
 induction f with
 |zero=>intro l d;rfl
 |succ f ih =>
  intro l d
  rw[run]
  split
  ·rfl
  ·rw[ih,incs_length,incs_length]
end Go.Proofs.YtkgjfdanjmnmbaaGreatDoor.Hf


/- Plain mathematics of lengths: counts made more alike till no length is above 12. -/
namespace Go.Proofs.YtkgjfdanjmnmbaaGreatDoor.Hf
def trees (c:List Nat):Nat->List Tree
 |0=>[]
 |i+1=>if 0<c.getD i 0 then trees c i++[(c.getD i 0,[i])] else trees c i
theorem trees_length (c:List Nat):∀ i,(trees c i).length<=i
 |0=>Nat.le_refl _
 |i+1=>by
  rw[trees]
  have:=trees_length c i
  split
  ·rw[List.length_append]
   simp
   exact this
  ·omega
theorem trees_mem (c:List Nat):∀ i t,t∈trees c i->∃ j,j<i/\0<c.getD j 0/\t=(c.getD j 0,[j])
 |0,t,h=>absurd h (List.not_mem_nil)
 |i+1,t,h=>by
  rw[trees]at h
  split at h
  ·rcases List.mem_append.1 h with h|h
   ·obtain⟨j,hj,hr⟩:=trees_mem c i t h
    exact⟨j,by omega,hr⟩
   ·exact⟨i,by omega,by assumption,List.mem_singleton.1 h⟩
  ·obtain⟨j,hj,hr⟩:=trees_mem c i t h
   exact⟨j,by omega,hr⟩
def zeros (n:Nat):List Nat:=List.replicate n 0
theorem dep_zeros (n s:Nat):dep (zeros n) s=0:=by
 unfold dep zeros
 rw[List.getD_eq_getElem?_getD,List.getElem?_replicate]
 split<;>rfl
theorem sum_take (c:List Nat) (i:Nat) (h:i<c.length):(c.take (i+1)).sum=(c.take i).sum+c.getD i 0:=by
 rw[List.take_add_one,List.getElem?_eq_getElem h,List.sum_append,List.getD_eq_getElem?_getD,List.getElem?_eq_getElem h]
 simp
theorem trees_inv (c:List Nat):∀ i,i<=c.length->Inv (trees c i) (zeros c.length) (c.take i).sum
 |0,_=>⟨fun t h=>absurd h (List.not_mem_nil),fun t h=>absurd h (List.not_mem_nil),fun t h=>absurd h (List.not_mem_nil),List.Pairwise.nil,rfl,fun s _=>dep_zeros _ _⟩
 |i+1,h=>by
  have ih:=trees_inv c i (by omega)
  rw[sum_take c i (by omega),trees]
  by_cases h0:0<c.getD i 0
  ·rw[if_pos h0]
   refine⟨?_,?_,?_,?_,?_,fun s _=>dep_zeros _ _⟩
   ·intro t ht s hs
    rw[dep_zeros]
    obtain⟨j,_,hj,rfl⟩:=trees_mem c (i+1) t (by rw[trees,if_pos h0];exact ht)
    exact hj
   ·intro t ht
    obtain⟨j,_,hj,rfl⟩:=trees_mem c (i+1) t (by rw[trees,if_pos h0];exact ht)
    simp
   ·intro t ht s hs
    obtain⟨j,hji,hj,rfl⟩:=trees_mem c (i+1) t (by rw[trees,if_pos h0];exact ht)
    rw[List.mem_singleton.1 hs,show (zeros c.length).length=c.length from List.length_replicate ..]
    omega
   ·refine List.pairwise_append.2 ⟨ih.pw,List.pairwise_singleton _ _,fun t ht u hu=>?_⟩
    obtain⟨j,hji,hj,rfl⟩:=trees_mem c i t ht
    rw[List.mem_singleton.1 hu]
    refine⟨fun s _=>?_,fun s _=>?_,fun s hs hs'=>?_⟩
    ·rw[dep_zeros]
     exact h0
    ·rw[dep_zeros]
     exact hj
    ·have e1:=List.mem_singleton.1 hs
     have e2:=List.mem_singleton.1 hs'
     omega
   ·rw[List.map_append,List.sum_append,ih.sum]
    simp
  ·rw[if_neg h0,show c.getD i 0=0 by omega]
   exact ih
def depths (c:List Nat):List Nat :=
 if (trees c c.length).length=1 then (zeros c.length).set ((at0 (trees c c.length) 0).2.getD 0 0) 1 else run (trees c c.length).length (trees c c.length) (zeros c.length)
theorem depths_length (c:List Nat):(depths c).length=c.length:=by
 unfold depths
 split
 ·rw[List.length_set]
  exact List.length_replicate ..
 ·rw[run_length]
  exact List.length_replicate ..
theorem depths_bound (c:List Nat) (s:Nat):dep (depths c) s<=1∨fib (dep (depths c) s+2)<=c.sum:=by
 unfold depths
 split
 ·refine .inl ?_
  unfold dep
  rw[List.getD_eq_getElem?_getD,List.getElem?_set]
  split
  ·split
   ·exact Nat.le_refl _
   ·exact Nat.zero_le _
  ·have:=dep_zeros c.length s
   unfold dep at this
   rw[List.getD_eq_getElem?_getD]at this
   omega
 ·have h:=trees_inv c c.length (Nat.le_refl _)
  rw[List.take_length]at h
  rcases run_bound (trees c c.length).length _ _ _ h s with h|h
  ·exact .inl (by omega)
  ·exact .inr h
def okay (d:List Nat):Bool:=d.all (fun x=>decide (x<=12))
theorem sum_le (c:List Nat) (m:Nat) (h:∀ x∈c,x<=m):c.sum<=m*c.length:=by
 induction c with
 |nil=>simp
 |cons x c ih =>
  have h1:=ih fun y hy=>h y (List.mem_cons_of_mem _ hy)
  have h2:=h x (List.mem_cons_self ..)
  rw[List.sum_cons,List.length_cons,Nat.mul_add]
  omega
theorem okay_small (c:List Nat) (h:∀ x∈c,x<=2) (hl:c.length<=257):okay (depths c)=true:=by
 unfold okay
 rw[List.all_eq_true]
 intro x hx
 obtain⟨j,hj,rfl⟩:=List.getElem_of_mem hx
 have hd:dep (depths c) j=(depths c)[j]:=by
  unfold dep
  rw[List.getD_eq_getElem?_getD,List.getElem?_eq_getElem hj]
  rfl
 have hs:=sum_le c 2 h
 rw[<-hd]
 rcases depths_bound c j with h1|h1
 ·exact decide_eq_true (by omega)
 ·refine decide_eq_true (Nat.le_of_not_lt fun h12=>?_)
  have h2:=fib_mono (show 15<=dep (depths c) j+2 by omega)
  rw[show fib 15=610 from rfl]at h2
  omega
def flat (c:List Nat):List Nat:=c.map fun x=>if 0<x then x/2+1 else 0
theorem flat_length (c:List Nat):(flat c).length=c.length:=by
 unfold flat
 rw[List.length_map]
theorem flat_le (c:List Nat):(flat c).sum<=c.sum:=by
 unfold flat
 induction c with
 |nil=>exact Nat.le_refl _
 |cons x c ih =>
  rw[List.map_cons,List.sum_cons,List.sum_cons]
  split<;>omega
theorem flat_lt (c:List Nat) (h:∃ x∈c,3<=x):(flat c).sum<c.sum:=by
 induction c with
 |nil =>
  obtain⟨x,hx,_⟩:=h
  cases hx
 |cons x c ih =>
  have hle:=flat_le c
  unfold flat at hle ih ⊢
  rw[List.map_cons,List.sum_cons,List.sum_cons]
  obtain⟨y,hy,h3⟩:=h
  rcases List.mem_cons.1 hy with rfl|hy
  ·rw[if_pos (by omega)]
   omega
  ·have:=ih ⟨y,hy,h3⟩
   split<;>omega
theorem flat_more (c:List Nat) (hl:c.length<=257) (h:¬okay (depths c)=true):(flat c).sum<c.sum:=by
 refine flat_lt c (Classical.byContradiction fun hn=>h (okay_small c (fun x hx=>?_) hl))
 refine Nat.le_of_not_lt fun h3=>hn ⟨x,hx,h3⟩
def ofN:Nat->List Nat->List Nat
 |0,c=>depths c
 |f+1,c=>if okay (depths c)=true then depths c else ofN f (flat c)
theorem ofN_more (f:Nat):∀ (c:List Nat) (g:Nat),c.length<=257->c.sum<=f->c.sum<=g->ofN f c=ofN g c:=by
 induction f with
 |zero =>
  intro c g hl hf _
  have hz:okay (depths c)=true:=Classical.byContradiction fun h=>by
   have:=flat_more c hl h
   omega
  cases g with
  |zero=>rfl
  |succ g=>rw[ofN,ofN,if_pos hz]
 |succ f ih =>
  intro c g hl hf hg
  rw[ofN]
  by_cases h:okay (depths c)=true
  ·rw[if_pos h]
   cases g with
   |zero=>rfl
   |succ g=>rw[ofN,if_pos h]
  ·have hlt:=flat_more c hl h
   rw[if_neg h]
   cases g with
   |zero=>omega
   |succ g =>
    rw[ofN,if_neg h]
    exact ih (flat c) g (by rw[flat_length];exact hl) (by omega) (by omega)
def lenOf (c:List Nat):List Nat:=ofN c.sum c
theorem lenOf_yes (c:List Nat) (h:okay (depths c)=true):lenOf c=depths c:=by
 unfold lenOf
 cases c.sum with
 |zero=>rfl
 |succ f=>rw[ofN,if_pos h]
theorem lenOf_no (c:List Nat) (hl:c.length<=257) (h:¬okay (depths c)=true):lenOf c=lenOf (flat c):=by
 have hlt:=flat_more c hl h
 unfold lenOf
 obtain⟨f,hf⟩:∃ f,c.sum=f+1:=⟨c.sum-1,by omega⟩
 rw[hf,ofN,if_neg h]
 exact ofN_more f (flat c) _ (by rw[flat_length];exact hl) (by omega) (Nat.le_refl _)
end Go.Proofs.YtkgjfdanjmnmbaaGreatDoor.Hf


/- Plain mathematics: the first of the least but one, and what is left. -/
namespace Go.Proofs.YtkgjfdanjmnmbaaGreatDoor.Hf
def lb (l:List Tree) (a:Nat):Nat->Option Nat
 |0=>none
 |i+1=>if i=a then lb l a i else match lb l a i with
  |none=>some i
  |some k=>if wt l i<wt l k then some i else some k
def shift (a b:Nat):Nat:=if b<a then b else b+1
theorem wt_low (l:List Tree) (a j:Nat) (h:j<a):wt (l.eraseIdx a) j=wt l j:=by
 unfold wt
 rw[List.getD_eq_getElem?_getD,List.getD_eq_getElem?_getD,List.getElem?_eraseIdx_of_lt h]
theorem wt_high (l:List Tree) (a j:Nat) (h:a<=j):wt (l.eraseIdx a) j=wt l (j+1):=by
 unfold wt
 rw[List.getD_eq_getElem?_getD,List.getD_eq_getElem?_getD,List.getElem?_eraseIdx_of_ge h]
theorem wt_shift (l:List Tree) (a b:Nat):wt (l.eraseIdx a) b=wt l (shift a b):=by
 unfold shift
 split
 ·exact wt_low l a b (by assumption)
 ·exact wt_high l a b (by omega)
theorem lb_low (l:List Tree) (a:Nat):∀ i,i<=a->lb l a i=if i=0 then none else some (shift a (least (l.eraseIdx a) i))
 |0,_=>rfl
 |i+1,h=>by
  have ih:=lb_low l a i (by omega)
  have hle:=least_le (l.eraseIdx a) i
  rw[lb,if_neg (by omega),ih,if_neg (Nat.succ_ne_zero i),least]
  by_cases h0:i=0
  ·subst h0
   rw[if_pos rfl]
   show some 0=_
   have:least (l.eraseIdx a) 0=0:=rfl
   rw[this,if_neg (Nat.lt_irrefl _)]
   unfold shift
   rw[if_pos (by omega)]
  ·rw[if_neg h0]
   simp only
   rw[wt_low l a i (by omega),wt_shift l a (least (l.eraseIdx a) i)]
   by_cases hw:wt l i<wt l (shift a (least (l.eraseIdx a) i))
   ·rw[if_pos hw,if_pos hw]
    unfold shift
    rw[if_pos (by omega)]
   ·rw[if_neg hw,if_neg hw]
theorem lb_high (l:List Tree) (a:Nat):∀ i,lb l a (a+1+i)=if a+i=0 then none else some (shift a (least (l.eraseIdx a) (a+i)))
 |0=>by
  rw[Nat.add_zero,lb,if_pos rfl,lb_low l a a (Nat.le_refl _),Nat.add_zero]
 |i+1=>by
  have ih:=lb_high l a i
  have hle:=least_le (l.eraseIdx a) (a+i)
  rw[show a+1+(i+1)=(a+1+i)+1 by omega,lb,if_neg (by omega),ih,show a+(i+1)=(a+i)+1 by omega,if_neg (Nat.succ_ne_zero _),least]
  have hs:shift a (a+i)=a+1+i:=by
   unfold shift
   rw[if_neg (by omega)]
   omega
  by_cases h0:a+i=0
  ·rw[if_pos h0]
   simp only
   have h00:least (l.eraseIdx a) (a+i)=0:=by rw[h0];rfl
   rw[h00,h0,if_neg (Nat.lt_irrefl _),<-hs,h0]
  ·rw[if_neg h0]
   simp only
   rw[wt_high l a (a+i) (by omega),show a+i+1=a+1+i by omega,wt_shift l a (least (l.eraseIdx a) (a+i))]
   by_cases hw:wt l (a+1+i)<wt l (shift a (least (l.eraseIdx a) (a+i)))
   ·rw[if_pos hw,if_pos hw,hs]
   ·rw[if_neg hw,if_neg hw]
theorem lb_all (l:List Tree) (a n:Nat) (ha:a<n) (h2:2<=n):lb l a n=some (shift a (least (l.eraseIdx a) (n-1))):=by
 have:=lb_high l a (n-(a+1))
 rw[show a+1+(n-(a+1))=n by omega,show a+(n-(a+1))=n-1 by omega,if_neg (by omega)]at this
 exact this
end Go.Proofs.YtkgjfdanjmnmbaaGreatDoor.Hf


/- Rows of trees in memory. -/
namespace Go.Proofs.YtkgjfdanjmnmbaaGreatDoor.Hf
open Go.RowKit
theorem hideH {p:Prop} (h:p):Hid p:=h
abbrev MT:=Tree × Value
def cells:List MT->List Value
 |[]=>[]
 |x :: m=>.int .i64 (x.1.1:Nat) :: x.2 :: cells m
theorem cells_length:∀ m:List MT,(cells m).length=m.length*2
 |[]=>rfl
 |x :: m=>by
  rw[cells,List.length_cons,List.length_cons,cells_length m,List.length_cons]
  omega
theorem cells_append:∀ m k:List MT,cells (m++k)=cells m++cells k
 |[],k=>rfl
 |x :: m,k=>by
  rw[List.cons_append,cells,cells,cells_append m k]
  rfl
theorem cells_at:∀ (m:List MT) (i:Nat) (h:i<m.length),(cells m)[i*2]? = some (.int .i64 (m[i].1.1:Nat))/\(cells m)[i*2+1]? = some m[i].2
 |x :: m,0,_=>⟨rfl,rfl⟩
 |x :: m,i+1,h=>by
  have:=cells_at m i (Nat.lt_of_succ_lt_succ h)
  rw[cells,show (i+1)*2=i*2+2 by omega,show i*2+2+1=(i*2+1)+2 by omega]
  exact this
def Sym (W:World) (v:Value) (s:List Nat):Prop :=
 ∃ g cap cur,v=.slice (some ⟨g,0,none⟩) s.length cap/\W.heap[g]? = some (.cells cur 3 (0,0))/\s.length<=cap/\∀ j (h:j<s.length),cur[j]? = some (.int .i64 (s[j]:Nat))
def Keeps (W W':World):Prop:=∀ (g:Nat) (cur:Array Value),W.heap[g]? = some (.cells cur 3 (0,0))->W'.heap[g]? = some (.cells cur 3 (0,0))
theorem Keeps.refl (W:World):Keeps W W:=fun _ _ h=>h
theorem Keeps.trans {W W' W'':World} (h:Keeps W W') (k:Keeps W' W''):Keeps W W'':=fun g cur e=>k g cur (h g cur e)
theorem lt_row {w:World} {g:Nat} {o:Obj} (h:w.heap[g]? = some o):g<w.heap.size:=(Array.getElem?_eq_some_iff.1 h).1
theorem Keeps.below {W W':World} (h:Below W.heap.size W W'):Keeps W W':=fun g _ e=>(h.block g (lt_row e)).trans e
theorem Keeps.set {W:World} {g:Nat} {cs:Array Value} {e:TypeId} (hg:W.heap[g]? = some (.cells cs e (0,0))) (he:e≠3) (i:Nat) (v:Value):Keeps W (W.setCell ⟨g,i,none⟩ v):=fun k cur h=>by
 rw[heap_setCell_other W _ k v (by
  rintro rfl
  rw[hg]at h
  simp at h
  exact he h.2)]
 exact h
theorem Sym.keeps {W W':World} {v:Value} {s:List Nat} (h:Sym W v s) (k:Keeps W W'):Sym W' v s:=by
 obtain⟨g,cap,cur,hv,hg,hc⟩:=h
 exact⟨g,cap,cur,hv,k g cur hg,hc⟩
theorem Sym.cell {W:World} {v:Value} {s:List Nat} (h:Sym W v s):∃ g cap,v=.slice (some ⟨g,0,none⟩) s.length cap/\g<W.heap.size/\s.length<=cap/\∀ j (h:j<s.length),W.cell? ⟨g,j,none⟩=some (.int .i64 (s[j]:Nat)):=by
 obtain⟨g,cap,cur,hv,hg,hs,hc⟩:=h
 exact⟨g,cap,hv,lt_row hg,hs,fun j hj=>(cell_of_row W g j _ _ _ hg).trans (hc j hj)⟩
def OwnT (W:World) (e:TypeId) (base:Nat) (v:Value) (m:List MT):Prop:=W.ownsRow base e 2 v m.length (cells m)
def Syms (W:World) (m:List MT):Prop:=∀ x∈m,Sym W x.2 x.1.2
theorem Syms.keeps {W W':World} {m:List MT} (h:Syms W m) (k:Keeps W W'):Syms W' m:=fun x hx=>(h x hx).keeps k
theorem OwnT.slice {W:World} {e:TypeId} {base:Nat} {v:Value} {m:List MT} (h:OwnT W e base v m) (h0:0<m.length):∃ g cap cur,v=.slice (some ⟨g,0,none⟩) m.length cap/\base<=g/\m.length<=cap/\W.heap[g]? = some (.cells cur e (0,0))/\cur.size=cap*2/\cur.toList.take (m.length*2)=cells m:=by
 obtain⟨_,h⟩:=h
 rcases h with⟨_,h⟩|⟨g,cap,cur,hv,hg,hb,hn,_,hs,ht⟩
 ·omega
 ·exact⟨g,cap,cur,hv,hg,hn,hb,hs,ht⟩
theorem row_at {W:World} {e:TypeId} {g:Nat} {cur:Array Value} {m:List MT} (hb:W.heap[g]? = some (.cells cur e (0,0))) (ht:cur.toList.take (m.length*2)=cells m) (i:Nat) (hi:i<m.length) :
  W.cell? ⟨g,i*2,none⟩=some (.int .i64 (m[i].1.1:Nat))/\W.cell? ⟨g,i*2+1,none⟩=some m[i].2:=by
 have hc:=cells_at m i hi
 rw[<-ht]at hc
 rw[List.getElem?_take_of_lt (by omega),List.getElem?_take_of_lt (by omega),Array.getElem?_toList,Array.getElem?_toList]at hc
 exact⟨(cell_of_row W g _ _ _ _ hb).trans hc.1,(cell_of_row W g _ _ _ _ hb).trans hc.2⟩
def mt (m:List MT):List Tree:=m.map (·.1)
theorem mt_length (m:List MT):(mt m).length=m.length:=List.length_map ..
theorem wt_mt (m:List MT) (i:Nat) (h:i<m.length):wt (mt m) i=m[i].1.1:=by
 unfold wt mt
 rw[List.getD_eq_getElem?_getD,List.getElem?_map,List.getElem?_eq_getElem h]
 rfl
end Go.Proofs.YtkgjfdanjmnmbaaGreatDoor.Hf


/- For the walk of l04Least: the least but one, step by step. -/
namespace Go.Proofs.YtkgjfdanjmnmbaaGreatDoor.Hf
open Go.RowKit
def oi:Option Nat->Int
 |none=>-1
 |some k=>(k:Int)
theorem lb_lt (l:List Tree) (a:Nat):∀ i k,lb l a i=some k->k<i
 |0,k,h=>by cases h
 |i+1,k,h=>by
  rw[lb]at h
  split at h
  ·have:=lb_lt l a i k h
   omega
  ·split at h
   ·simp at h
    omega
   ·rename_i k' hk'
    have:=lb_lt l a i k' hk'
    split at h<;>simp at h<;>omega
theorem lb_none {l:List Tree} {a i:Nat} (h:lb l a i=none) (hia:¬i=a):lb l a (i+1)=some i:=by
 rw[lb,if_neg hia,h]
theorem lb_some {l:List Tree} {a i k:Nat} (h:lb l a i=some k) (hia:¬i=a):lb l a (i+1)=if wt l i<wt l k then some i else some k:=by
 rw[lb,if_neg hia,h]
end Go.Proofs.YtkgjfdanjmnmbaaGreatDoor.Hf


namespace Go.Proofs.YtkgjfdanjmnmbaaGreatDoor.Hf
open Go.RowKit
theorem weight_any (n:Int) (v:Value) (w:World):Calls Tryz.prog 197 #[.agg #[.int .i64 n,v]] w fun e w'=>e=.returned (.int .i64 n)/\Below w.heap.size w w':=by
 go_enter Tryz.func197,Tryz.ntmps197
 go_wp2_with fail
 go_ret
 exact⟨rfl,(Below.refl _ _).alloc (Nat.le_refl _) _⟩
theorem weight_enters:∀ args w,(callFunc 197 args).run Tryz.prog w=.ok (.enter 197 args) w:=enters_of Tryz.func197 (by kernel_rfl) rfl
theorem least_next (m:List MT) (i:Nat) (hi:i<m.length) (hl:least (mt m) i<m.length):least (mt m) (i+1)=if m[i].1.1<m[least (mt m) i].1.1 then i else least (mt m) i:=by
 rw[least,wt_mt m i hi,wt_mt m _ hl]
theorem least_any (g n cap:Nat) (m:List MT) (cur:Array Value) (t:TypeId) (w:World) (hn:m.length=n) (h0:0<n) (h257:n<=257) (hb:w.heap[g]? = some (.cells cur t (0,0))) (ht:cur.toList.take (m.length*2)=cells m) :
  Calls Tryz.prog 196 #[.slice (some ⟨g,0,none⟩) n cap,.func (.func 197) #[] #[]] w fun e w'=>e=.returned (.int .i64 (least (mt m) n:Nat))/\Below w.heap.size w w':=by
 have he:=weight_enters
 have HN:=hideH hn
 have hg:=lt_row hb
 have HC:=hideH (fun (W:World) (hW:Below w.heap.size w W) i hi=>row_at (m:=m) ((hW.block g hg).trans hb) ht i hi)
 have HL:=hideH (least_le (mt m))
 clear hn hb ht
 go_enter Tryz.func196,Tryz.ntmps196
 go_wp2_with fail
 go_loopw [9,5] (fun iv kv wr=>∃ i k:Nat,iv=.int .i64 i/\kv=.int .i64 k/\i<=n/\k=least (mt m) i/\Below w.heap.size w wr) (fun iv _ _=>n-(intOf iv).toNat)
 case atStart=>exact⟨0,0,rfl,rfl,Nat.zero_le _,rfl,Below.refl _ _⟩
 case round =>
  obtain⟨i,k,rfl,rfl,hi,hk,hbw⟩:=hrel
  have HK:=hideH hk
  have BW:=hideH hbw
  clear hk hbw
  by_cases hlt:i<n
  ·have hkn:k<n:=by have h1:=HL.out i;have h2:=HK.out;omega
   have hi':i<m.length:=by rw[HN.out];exact hlt
   have hk':k<m.length:=by rw[HN.out];exact hkn
   obtain⟨ci0,ci1⟩:=HC.out _ BW.out i hi'
   obtain⟨ck0,ck1⟩:=HC.out _ BW.out k hk'
   have HCI:=hideH (fun W hW=>HC.out W hW i hi')
   have HCK:=hideH (fun W hW=>HC.out W hW k hk')
   have HNX:=hideH (least_next m i hi' (by rw[<-HK.out];exact hk'))
   have HNX2:Hid (least (mt m) (i+1)=if m[i].1.1<m[k].1.1 then i else k):=by
    have:=HNX.out
    simp only[<-HK.out]at this
    exact this
   clear HNX
   generalize m[i]=x at ci0 ci1 HCI HNX2
   generalize m[k]=y at ck0 ck1 HCK HNX2
   obtain⟨⟨xw,xs⟩,xv⟩:=x
   obtain⟨⟨yw,ys⟩,yv⟩:=y
   simp only at ci0 ci1 ck0 ck1 HCI HCK HNX2
   clear hi' hk'
   go_wp2_with fail
   go_region_with (first|(go_at_call_of 197 (Value.int IntKind.i64 (xw:Int));(with_reducible refine(weight_any _ _ _).mono ?_);rintro e w2 ⟨rfl,hb2⟩;have B2:=hideH (BW.out.drew.trans (hb2.mono BW.out.drew.size));obtain⟨di0,di1⟩:=HCI.out _ B2.out;obtain⟨dk0,dk1⟩:=HCK.out _ B2.out;clear hb2)|(go_at_call_of 197 (Value.int IntKind.i64 (yw:Int));(with_reducible refine(weight_any _ _ _).mono ?_);rintro e w3 ⟨rfl,hb3⟩;have B3:=hideH (B2.out.trans (hb3.mono B2.out.size));clear hb3))
   all_goals (
    by_cases hxy:xw<yw
    ·have hxy':(xw:Int)<(yw:Int):=by omega
     rw[if_pos hxy]at HNX2
     go_wp2_with fail
     go_roundw
     case rel=>exact⟨i+1,i,by go_num,rfl,by omega,HNX2.out.symm,B3.out⟩
     case measure=>simp[intOf];omega
    ·have hxy':decide ((xw:Int)<(yw:Int))=false:=by simp;omega
     rw[if_neg hxy]at HNX2
     go_wp2_with fail
     go_roundw
     case rel=>exact⟨i+1,k,by go_num,rfl,by omega,HNX2.out.symm,B3.out⟩
     case measure=>simp[intOf];omega)
  ·obtain rfl:i=n:=by omega
   go_wp2_with fail
   go_ret
   exact⟨by rw[HK.out];rfl,BW.out⟩
end Go.Proofs.YtkgjfdanjmnmbaaGreatDoor.Hf


namespace Go.Proofs.YtkgjfdanjmnmbaaGreatDoor.Hf
open Go.RowKit
def lays (cur:Array Value):Nat->List Value->Array Value
 |_,[]=>cur
 |o,v :: r=>lays (cur.setIfInBounds o v) (o+1) r
theorem lays_size:∀ (vs:List Value) (o:Nat) (cur:Array Value),(lays cur o vs).size=cur.size
 |[],_,_=>rfl
 |v :: r,o,cur=>by rw[lays,lays_size r,Array.size_setIfInBounds]
theorem lays_heap (g:Nat) (t:TypeId):∀ (vs:List Value) (o:Nat) (cur:Array Value) (w:World),w.heap[g]? = some (.cells cur t (0,0))->(w.setCells g o vs).heap[g]? = some (.cells (lays cur o vs) t (0,0))
 |[],_,_,_,h=>h
 |v :: r,o,_,w,h=>lays_heap g t r (o+1) _ _ (heap_setCell_same w g o _ _ v h)
theorem lays_list:∀ (vs:List Value) (o:Nat) (cur:Array Value),o+vs.length<=cur.size->(lays cur o vs).toList=cur.toList.take o++vs++cur.toList.drop (o+vs.length)
 |[],o,cur,_=>by
  rw[lays,List.append_nil,List.length_nil,Nat.add_zero,List.take_append_drop]
 |v :: r,o,cur,h=>by
  rw[List.length_cons]at h
  rw[lays,lays_list r (o+1) _ (by rw[Array.size_setIfInBounds];omega),Array.toList_setIfInBounds,List.length_cons]
  have h1:(cur.toList.set o v).take (o+1)=cur.toList.take o++[v]:=by
   rw[List.take_add_one,List.take_set_of_le (Nat.le_refl _),List.getElem?_set_self (by rw[Array.length_toList];omega)]
   rfl
  rw[h1,List.drop_set_of_lt (by omega),show o+1+r.length=o+(r.length+1) by omega,List.append_assoc,List.append_assoc,List.append_assoc]
  rfl
theorem cells_take:∀ (m:List MT) (i:Nat),cells (m.take i)=(cells m).take (i*2)
 |[],i=>by simp[cells]
 |x :: m,0=>by simp[cells]
 |x :: m,i+1=>by
  rw[List.take_succ_cons,cells,cells,cells_take m i,show (i+1)*2=i*2+1+1 by omega,List.take_succ_cons,List.take_succ_cons]
theorem cells_drop:∀ (m:List MT) (i:Nat),cells (m.drop i)=(cells m).drop (i*2)
 |[],i=>by simp[cells]
 |x :: m,0=>by simp
 |x :: m,i+1=>by
  rw[List.drop_succ_cons,cells,cells_drop m i,show (i+1)*2=i*2+1+1 by omega,List.drop_succ_cons,List.drop_succ_cons]
theorem cells_one (m:List MT) (h:∀ x∈m,x.2.oneCell'=true):∀ u∈cells m,u.oneCell'=true:=by
 induction m with
 |nil=>intro u hu;cases hu
 |cons x m ih =>
  intro u hu
  rw[cells]at hu
  rcases List.mem_cons.1 hu with rfl|hu
  ·rfl
  ·rcases List.mem_cons.1 hu with rfl|hu
   ·exact h x (List.mem_cons_self ..)
   ·exact ih (fun y hy=>h y (List.mem_cons_of_mem _ hy)) u hu
theorem gone_list (cur:Array Value) (m:List MT) (n cap i:Nat) (hn:m.length=n) (hi:i<n) (hc:n<=cap) (hs:cur.size=cap*2) (ht:cur.toList.take (n*2)=cells m) (x y:Value) :
  (lays (lays cur (i*2) (cells (m.drop (i+1)))) ((n-1)*2) [x,y]).toList.take ((m.eraseIdx i).length*2)=cells (m.eraseIdx i):=by
 have hl:(cells (m.drop (i+1))).length=(n-(i+1))*2:=by rw[cells_length,List.length_drop,hn]
 have he:(m.eraseIdx i).length=n-1:=by rw[List.length_eraseIdx,if_pos (by omega),hn]
 have h1:cur.toList.take (i*2)=cells (m.take i):=by
  rw[cells_take,<-ht,List.take_take,Nat.min_eq_left (by omega)]
 rw[he,lays_list _ _ _ (by rw[lays_size,List.length_cons,List.length_cons,List.length_nil,hs];omega),List.append_assoc,List.take_append_of_le_length (by rw[List.length_take,Array.length_toList,lays_size,hs];omega),List.take_take,Nat.min_self,lays_list _ _ _ (by rw[hl,hs];omega),h1]
 have hl1:(cells (m.take i)).length=i*2:=by rw[cells_length,List.length_take,hn];omega
 rw[List.take_append_of_le_length (by rw[List.length_append,hl1,hl];omega),List.take_of_length_le (by rw[List.length_append,hl1,hl];omega),<-cells_append,<-List.eraseIdx_eq_take_drop_succ]
theorem Tryz.infoTree:(Tryz.prog.info? 224).map (fun i=>(i.zero,i.size,i.bytes))=some (some (.agg #[.int .i64 0,.slice none 0 0]),2,32):=by kernel_rfl
theorem clear_one (w:World) (t e ty:TypeId) (ht:Tryz.prog.underlying t=some (.slice e)) (hv:∀ w,(zeroValue e).run Tryz.prog w=.ok (.agg #[.int .i64 0,.slice none 0 0]) w) (b o c:Nat)
  (hc:∀ j,j<2->(w.cell? ⟨b,o+j,none⟩).isSome=true) (hf:∀ j,j<2->w.frozen? ⟨b,o+j,none⟩=false) :
  (Builtin.clear_ #[t] ty #[.slice (some ⟨b,o,none⟩) 1 c]).run Tryz.prog w=.ok (.tuple #[]) (w.setCells b o [.int .i64 0,.slice none 0 0]):=by
 have hzc:(Builtin.zeroCells (Value.agg #[.int .i64 0,.slice none 0 0]).cells 1).toList=[.int .i64 0,.slice none 0 0]:=by kernel_rfl
 have hst:=run_storeCells_cells (P:=Tryz.prog) b o [.int .i64 0,.slice none 0 0] 0 w (by simpa using hc) (by simpa using hf) (by intro v hv';simp at hv';rcases hv' with rfl|rfl<;>rfl)
 simp only[Nat.add_zero]at hst
 simp[Builtin.clear_,run_underlying ht,hv,hzc,hst]
theorem zero_tree (w:World):(zeroValue 224).run Tryz.prog w=.ok (.agg #[.int .i64 0,.slice none 0 0]) w:=by
 simp[zeroValue,go_sem]
 rfl
theorem delete_any (g k cap i:Nat) (m:List MT) (cur:Array Value) (w:World) (hn:m.length=k+1) (hi:i<=k) (hc:k+1<=cap) (h257:k<=257) (hb:w.heap[g]? = some (.cells cur 224 (0,0))) (hs:cur.size=cap*2) (ht:cur.toList.take ((k+1)*2)=cells m) (h1:∀ x∈m,x.2.oneCell'=true) :
  Calls Tryz.prog 198 #[.slice (some ⟨g,0,none⟩) (k+1) cap,.int .i64 i,.int .i64 ((i:Int)+1)] w fun e w'=>e=.returned (.slice (some ⟨g,0,none⟩) k cap)/\w'=(w.drew.setCells g (0+i*2) (cells (m.drop (i+1)))).setCells g (k*2) [.int .i64 0,.slice none 0 0]:=by
 obtain⟨i0,hi0,hz0,hz1,hz2⟩:=info_parts Tryz.infoTree
 have hic:i<=cap:=by omega
 have hjc:i+1<=cap:=by omega
 have g1:(i:Int)+1<=(k:Int)+1:=by omega
 have g2:(i:Int)+1<=cap:=by omega
 have g3:(k:Int)+1<=cap:=by omega
 have g4:((i:Int)==(i:Int)+1)=false:=by simp;omega
 have g5:(0:Int)<=(i:Int)+1:=by omega
 have hL:i+(k-i)=k:=by omega
 have hlen:(cells (m.drop (i+1))).length=(k-i)*2:=by rw[cells_length,List.length_drop,hn];omega
 obtain⟨A,hA,hsrc⟩:∃ A:Addr,(if cap=i+1 then some (⟨g,0,none⟩:Addr) else some ⟨g,(i+1)*2,none⟩)=some A/\Hid (∀ t u,(cells (m.drop (i+1)))[t]? = some u->w.drew.cell? (A.add t)=some u):=by
  by_cases h:cap=i+1
  ·refine⟨⟨g,0,none⟩,by simp[h],fun t u hu=>?_⟩
   have h0:(cells (m.drop (i+1))).length=0:=by rw[hlen];omega
   rw[List.length_eq_zero_iff.1 h0]at hu
   simp at hu
  ·refine⟨⟨g,(i+1)*2,none⟩,by simp[h],fun t u hu=>?_⟩
   have ht':t<(k-i)*2:=by
    have:=(List.getElem?_eq_some_iff.1 hu).1
    rwa[hlen]at this
   rw[Addr.add_lit]
   refine(cell_of_row w g _ _ _ _ hb).trans ?_
   rw[cells_drop,List.getElem?_drop,<-ht,List.getElem?_take_of_lt (by omega),Array.getElem?_toList]at hu
   exact hu
 have s1:Hid ((cells (m.drop (i+1))).length=(k-i)*2):=hlen
 have s2:Hid (∀ u∈cells (m.drop (i+1)),u.oneCell'=true):=cells_one _ fun x hx=>h1 x (List.mem_of_mem_drop hx)
 have hcz:∀ j,j<cap*2->(w.cell? ⟨g,j,none⟩).isSome=true:=fun j hj=>by
  rw[cell_of_row w g j _ _ _ hb,Array.getElem?_eq_getElem (by omega)]
  rfl
 have s3:Hid (∀ t,t<(cells (m.drop (i+1))).length->(w.drew.cell? ⟨g,0+i*2+t,none⟩).isSome=true/\w.drew.frozen? ⟨g,0+i*2+t,none⟩=false):=fun t ht'=>by
  rw[hlen]at ht'
  exact⟨hcz _ (by omega),frozen_of_row w g _ _ _ hb⟩
 obtain⟨W1,hW1⟩:∃ W1,W1=w.drew.setCells g (0+i*2) (cells (m.drop (i+1))):=⟨_,rfl⟩
 have hb1:W1.heap[g]? = some (.cells (lays cur (0+i*2) (cells (m.drop (i+1)))) 224 (0,0)):=by
  rw[hW1]
  exact lays_heap g _ _ _ _ _ hb
 have hcl:∀ ty,(Builtin.clear_ #[220] ty #[.slice (some ⟨g,k*2,none⟩) 1 (cap-k)]).run Tryz.prog W1=.ok (.tuple #[]) (W1.setCells g (k*2) [.int .i64 0,.slice none 0 0]):=fun ty =>
  clear_one W1 _ _ ty Tryz.underlying220 zero_tree g _ _ (fun j hj=>by
   rw[cell_of_row W1 g _ _ _ _ hb1,Array.getElem?_eq_getElem (by rw[lays_size];omega)]
   rfl) (fun j hj=>frozen_of_row W1 g _ _ _ hb1)
 have hW:Hid (W1=w.drew.setCells g (0+i*2) (cells (m.drop (i+1)))):=hW1
 rw[<-hW1]
 generalize cells (m.drop (i+1))=news at hsrc s1 s2 s3 hW
 clear hlen hb1 hcz hb ht hs hW1
 go_enter Tryz.func198,Tryz.ntmps198
 go_wp2_with fail
 go_region_law (refine step_append_room rfl (.tmp 22) (.tmp 25) 220 rfl 224 i0 2 Tryz.underlying220 hi0 hz1 g 0 i cap (by simp[Act.eval,Act.put]) A (k-i) (cap-(i+1)) news (by simp[Act.eval,Act.put]) s1.out hsrc.out s2.out (by omega) s3.out ?_;rw[<-hW.out])
 go_wp2_with fail
 go_ret
 exact⟨rfl,rfl⟩
end Go.Proofs.YtkgjfdanjmnmbaaGreatDoor.Hf

