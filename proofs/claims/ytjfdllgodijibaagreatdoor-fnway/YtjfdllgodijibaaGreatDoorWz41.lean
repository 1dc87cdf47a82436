/- Texts put together: HuKraft, PkJoin, PackPlain, SortPlain, SoRow, SoStill, SoIter, SoCmpT, OrdPlain. -/
import Derived.Test.YtjfdllgodijibaaGreatDoorWz31
import Derived.Test.YtjfdllgodijibaaGreatDoorWz19
import Derived.Test.YtjfdllgodijibaaGreatDoorWz23
import Derived.WalkKit
import Derived.Test.YtjfdllgodijibaaGreatDoorChecked
import Derived.Shelf.SlSortCmp.InsertionK
import Derived.WalkSpells
import Derived.WalkLawsBesides
import Derived.BigRegion
import Derived.BigQuiet
import Derived.Deep.QuietTactic
import Derived.StillTail
import Derived.OrdersIn
import Derived.CallsIn
import Derived.OwnWalkIn
import Derived.TacticsInMore
import Derived.StillTailTactics
import Derived.RangeFuncNested
import Derived.RangeFuncBound
import Derived.RangeFuncCalls
import Derived.RangeFuncLeaves
import Derived.RangeFuncBox
import Derived.Shelf.Abstract
import Derived.Shelf.RegionOpen
import Derived.LoopNIn
import Derived.LoopIn
import Derived.Maps.AppendAt
import Derived.Stop.RegionWithIn
/- Plain mathematics of lengths: of counts that are not all 0 they are whole, and just the symbols that count have one. -/
namespace Go.Proofs.YtjfdllgodijibaaGreatDoor.Hf
open Bi (csum above part whole right within within_of csum_snoc above_snoc)
def kr (K:Nat) (d s:List Nat):Nat:=(s.map fun k=>2 ^ (K-dep d k)).sum
theorem kr_append (K:Nat) (d s t:List Nat):kr K d (s++t)=kr K d s+kr K d t:=by
 unfold kr
 rw[List.map_append,List.sum_append]
theorem kr_perm (K:Nat) (d:List Nat) {s t:List Nat} (p:s.Perm t):kr K d s=kr K d t:=(p.map _).sum_nat
theorem kr_congr (K:Nat) (d d' s:List Nat) (h:∀ k∈s,dep d' k=dep d k):kr K d' s=kr K d s:=by
 unfold kr
 rw[List.map_congr_left fun k hk=>by rw[h k hk]]
theorem kr_up (K:Nat) (d d' s:List Nat) (h:∀ k∈s,dep d' k=dep d k+1/\dep d k+1<=K):2*kr K d' s=kr K d s:=by
 induction s with
 |nil=>rfl
 |cons k s ih =>
  have h1:=ih fun x hx=>h x (List.mem_cons_of_mem _ hx)
  obtain⟨h2,h3⟩:=h k (List.mem_cons_self ..)
  unfold kr at h1 ⊢
  rw[List.map_cons,List.sum_cons,List.map_cons,List.sum_cons,Nat.mul_add,h1,h2]
  have:2*2 ^ (K-(dep d k+1))=2 ^ (K-dep d k):=by
   rw[show K-dep d k=(K-(dep d k+1))+1 by omega,Nat.pow_succ]
   omega
  rw[this]
def KrInv (K:Nat) (l:List Tree) (d:List Nat):Prop:=∀ t∈l,kr K d t.2=2 ^ K
def alls (l:List Tree):List Nat:=l.flatMap fun t=>t.2
theorem alls_perm {l l':List Tree} (p:l.Perm l'):(alls l).Perm (alls l'):=p.flatMap_right _
theorem alls_join (l:List Tree) (h:2<=l.length):(alls (join l)).Perm (alls l):=by
 have e:alls (both l :: rest2 l)=alls (first l :: second l :: rest2 l):=by
  unfold alls both
  rw[List.flatMap_cons,List.flatMap_cons,List.flatMap_cons,List.append_assoc]
 exact(alls_perm (join_perm l)).trans (e ▸ (alls_perm (two_perm l h)).symm)
theorem dep_join {l:List Tree} {d:List Nat} {n:Nat} (h:Inv l d n) (h2:2<=l.length) (s:Nat):dep (incs (incs d (first l).2) (second l).2) s=if s∈(first l).2++(second l).2 then dep d s+1 else dep d s:=by
 have h':=h.perm (two_perm l h2)
 obtain⟨pa,_⟩:=List.pairwise_cons.1 h'.pw
 exact two_dep d _ _ (h'.nd _ (List.mem_cons_self ..)) (h'.nd _ (List.mem_cons_of_mem _ (List.mem_cons_self ..))) (pa _ (List.mem_cons_self ..)).2.2 (h'.lt _ (List.mem_cons_self ..)) (h'.lt _ (List.mem_cons_of_mem _ (List.mem_cons_self ..))) s
theorem KrInv.join {K:Nat} {l:List Tree} {d:List Nat} {n:Nat} (hk:KrInv K l d) (h:Inv l d n) (h2:2<=l.length) (hn:n<=K):KrInv K (join l) (incs (incs d (first l).2) (second l).2):=by
 have hd:=dep_join h h2
 have hj:=h.join h2
 have hp:=two_perm l h2
 have h':=h.perm hp
 obtain⟨pa,pb'⟩:=List.pairwise_cons.1 h'.pw
 obtain⟨pb,_⟩:=List.pairwise_cons.1 pb'
 have hup:∀ s,s∈(first l).2++(second l).2->dep (incs (incs d (first l).2) (second l).2) s=dep d s+1/\dep d s+1<=K:=by
  intro s hs
  have e:=hd s
  rw[if_pos hs]at e
  refine⟨e,?_⟩
  have:=hj.small s
  unfold dep at e ⊢
  omega
 intro t ht
 rcases List.mem_cons.1 ((join_perm l).mem_iff.1 ht) with rfl|hr
 ·have h3:=kr_up K d _ (first l).2 fun k hk=>hup k (List.mem_append_left _ hk)
  have h4:=kr_up K d _ (second l).2 fun k hk=>hup k (List.mem_append_right _ hk)
  rw[hk _ (hp.mem_iff.2 (List.mem_cons_self ..))]at h3
  rw[hk _ (hp.mem_iff.2 (List.mem_cons_of_mem _ (List.mem_cons_self ..)))]at h4
  show kr K _ ((first l).2++(second l).2)=_
  rw[kr_append]
  omega
 ·rw[kr_congr K d _ t.2 fun k hk=>?_]
  ·exact hk t (hp.mem_iff.2 (List.mem_cons_of_mem _ (List.mem_cons_of_mem _ hr)))
  ·rw[hd,if_neg]
   intro hx
   rcases List.mem_append.1 hx with hx|hx
   ·exact(pa t (List.mem_cons_of_mem _ hr)).2.2 k hx hk
   ·exact(pb t hr).2.2 k hx hk
theorem run_kraft {K:Nat} (f:Nat):∀ (l:List Tree) (d:List Nat) (n:Nat),Inv l d n->n<=K->l.length<=f->0<l.length->KrInv K l d->kr K (run f l d) (alls l)=2 ^ K:=by
 induction f with
 |zero=>intro l d n _ _ h1 h2;omega
 |succ f ih =>
  intro l d n h hn hf h0 hk
  rw[run]
  by_cases h1:l.length<=1
  ·rw[if_pos h1]
   obtain⟨t,rfl⟩:=List.length_eq_one_iff.1 (show l.length=1 by omega)
   have:=hk t (List.mem_singleton.2 rfl)
   unfold alls
   rw[List.flatMap_cons,List.flatMap_nil,List.append_nil]
   exact this
  ·rw[if_neg h1]
   have hjl:=join_length l (by omega)
   rw[<-kr_perm K _ (alls_join l (by omega))]
   exact ih (join l) _ n (h.join (by omega)) hn (by omega) (by omega) (hk.join h (by omega) hn)
theorem run_out (f:Nat):∀ (l:List Tree) (d:List Nat) (n s:Nat),Inv l d n->s ∉ alls l->dep (run f l d) s=dep d s:=by
 induction f with
 |zero=>intro l d n s _ _;rfl
 |succ f ih =>
  intro l d n s h hs
  rw[run]
  by_cases h1:l.length<=1
  ·rw[if_pos h1]
  ·rw[if_neg h1,ih (join l) _ n s (h.join (by omega)) (fun hx=>hs ((alls_join l (by omega)).mem_iff.1 hx)),dep_join h (by omega),if_neg]
   intro hx
   refine hs ((alls_perm (two_perm l (by omega))).mem_iff.2 ?_)
   unfold alls
   rw[List.flatMap_cons,List.flatMap_cons]
   rcases List.mem_append.1 hx with hx|hx
   ·exact List.mem_append_left _ hx
   ·exact List.mem_append_right _ (List.mem_append_left _ hx)
def syms (c:List Nat) (n:Nat):List Nat:=(List.range n).filter fun i=>decide (0<c.getD i 0)
theorem syms_succ (c:List Nat) (n:Nat):syms c (n+1)=if 0<c.getD n 0 then syms c n++[n] else syms c n:=by
 unfold syms
 rw[List.range_succ,List.filter_append,List.filter_cons,List.filter_nil]
 by_cases h:0<c.getD n 0
 ·rw[if_pos h,if_pos (decide_eq_true h)]
 ·rw[if_neg h,if_neg (by simpa using h),List.append_nil]
theorem alls_trees (c:List Nat):∀ n,alls (trees c n)=syms c n
 |0=>rfl
 |n+1=>by
  have ih:=alls_trees c n
  rw[syms_succ,trees]
  split
  ·unfold alls at ih ⊢
   rw[List.flatMap_append,ih]
   rfl
  ·exact ih
theorem trees_syms (c:List Nat):∀ n,(trees c n).length=(syms c n).length
 |0=>rfl
 |n+1=>by
  have ih:=trees_syms c n
  rw[syms_succ,trees]
  split
  ·rw[List.length_append,List.length_append,ih]
   rfl
  ·exact ih
theorem mem_syms {c:List Nat} {n i:Nat}:i∈syms c n↔i<n/\0<c.getD i 0:=by
 unfold syms
 rw[List.mem_filter,List.mem_range,decide_eq_true_eq]
theorem kr_pos (K:Nat) (d:List Nat) (s:List Nat) (h:0<s.length):0<kr K d s:=by
 cases s with
 |nil=>exact absurd h (by decide)
 |cons k s =>
  unfold kr
  rw[List.map_cons,List.sum_cons]
  have:=Nat.two_pow_pos (K-dep d k)
  omega
theorem kr_shift (K:Nat) (d s:List Nat) (hK:12<=K) (h:∀ k∈s,dep d k<=12):kr K d s=2 ^ (K-12)*kr 12 d s:=by
 unfold kr
 induction s with
 |nil=>rfl
 |cons k s ih =>
  have h1:=h k (List.mem_cons_self ..)
  rw[List.map_cons,List.sum_cons,List.map_cons,List.sum_cons,ih (fun x hx=>h x (List.mem_cons_of_mem _ hx)),Nat.mul_add,<-Nat.pow_add,show K-12+(12-dep d k)=K-dep d k by omega]
theorem dep_okay {D:List Nat} (h:okay D=true) (i:Nat):dep D i<=12:=by
 unfold okay at h
 rw[List.all_eq_true]at h
 unfold dep
 by_cases hi:i<D.length
 ·rw[List.getD_eq_getElem?_getD,List.getElem?_eq_getElem hi]
  exact of_decide_eq_true (h _ (List.getElem_mem hi))
 ·rw[List.getD_eq_getElem?_getD,List.getElem?_eq_none (by omega)]
  exact Nat.zero_le _
theorem depths_two (c:List Nat) (h2:2<=(syms c c.length).length) (ho:okay (depths c)=true):(∀ i,0<dep (depths c) i↔i∈syms c c.length)/\kr 12 (depths c) (syms c c.length)=4096:=by
 have hinv:=trees_inv c c.length (Nat.le_refl _)
 rw[List.take_length]at hinv
 have hl:=trees_syms c c.length
 have hD:depths c=run (trees c c.length).length (trees c c.length) (zeros c.length):=by
  unfold depths
  rw[if_neg (by omega)]
 have hK:KrInv (c.sum+12) (trees c c.length) (zeros c.length):=by
  intro t ht
  obtain⟨j,_,_,rfl⟩:=trees_mem c c.length t ht
  unfold kr
  simp[dep_zeros]
 have hkr:=run_kraft (K:=c.sum+12) _ (trees c c.length) (zeros c.length) c.sum hinv (by omega) (Nat.le_refl _) (by omega) hK
 rw[alls_trees,<-hD]at hkr
 refine⟨fun i=>⟨fun hi=>?_,fun hi=>?_⟩,?_⟩
 ·refine Classical.byContradiction fun hn=>?_
  have:=run_out (trees c c.length).length (trees c c.length) (zeros c.length) c.sum i hinv (by rw[alls_trees];exact hn)
  rw[<-hD,dep_zeros]at this
  omega
 ·refine Nat.pos_of_ne_zero fun h0=>?_
  have hp:=List.perm_cons_erase hi
  rw[kr_perm _ _ hp]at hkr
  have hp2:=kr_pos (c.sum+12) (depths c) ((syms c c.length).erase i) (by
   have:=hp.length_eq
   rw[List.length_cons]at this
   omega)
  unfold kr at hkr hp2
  rw[List.map_cons,List.sum_cons,h0,Nat.sub_zero]at hkr
  omega
 ·have hs:=kr_shift (c.sum+12) (depths c) (syms c c.length) (by omega) fun k _=>dep_okay ho k
  rw[hkr,Nat.pow_add,Nat.add_sub_cancel]at hs
  have:=Nat.eq_of_mul_eq_mul_left (Nat.two_pow_pos c.sum) hs
  rw[<-this]
theorem sums_syms (D:List Nat) (S:Nat->Bool) (h:∀ i,i<D.length->(S i=true↔0<dep D i)):∀ k,k<=D.length->csum (up (D.take k))=kr 12 D ((List.range k).filter S)/\above (up (D.take k))=((List.range k).filter S).length
 |0,_=>⟨rfl,rfl⟩
 |k+1,hk=>by
  obtain⟨h1,h2⟩:=sums_syms D S h k (by omega)
  have hd:dep D k=D[k]:=by
   unfold dep
   rw[List.getD_eq_getElem?_getD,List.getElem?_eq_getElem (by omega)]
   rfl
  have e:up (D.take (k+1))=up (D.take k)++[((D[k]:Nat):Int)]:=by
   rw[List.take_add_one,List.getElem?_eq_getElem (by omega)]
   unfold up
   rw[List.map_append]
   rfl
  rw[e,csum_snoc,above_snoc,h1,h2,List.range_succ,List.filter_append,kr_append,List.length_append,List.filter_cons,List.filter_nil]
  have hi:=h k (by omega)
  rw[hd]at hi
  by_cases hp:0<D[k]
  ·rw[if_pos (hi.2 hp)]
   unfold Bi.part kr
   rw[if_pos (by omega),if_pos (by omega),List.map_cons,List.map_nil,List.sum_cons,List.sum_nil,hd]
   exact⟨rfl,rfl⟩
  ·rw[if_neg (fun hx=>hp (hi.1 hx))]
   unfold Bi.part
   rw[if_neg (by omega),if_neg (by omega)]
   exact⟨rfl,rfl⟩
theorem syms_all (c:List Nat) (D:List Nat) (hl:D.length=c.length) (h:∀ i,0<dep D i↔i∈syms c c.length):csum (up D)=kr 12 D (syms c c.length)/\above (up D)=(syms c c.length).length:=by
 have:=sums_syms D (fun i=>decide (0<c.getD i 0)) (fun i hi=>by
  rw[decide_eq_true_eq,h i,mem_syms]
  exact⟨fun x=>⟨by omega,x⟩,fun x=>x.2⟩) D.length (Nat.le_refl _)
 rw[List.take_length,hl]at this
 exact this
theorem depths_one (c:List Nat) (h1:(syms c c.length).length=1):(∀ i,0<dep (depths c) i↔i∈syms c c.length)/\kr 12 (depths c) (syms c c.length)=2048:=by
 have hl:=trees_syms c c.length
 obtain⟨t,ht⟩:=List.length_eq_one_iff.1 (hl.trans h1)
 obtain⟨j,hj,hc,hte⟩:=trees_mem c c.length t (by rw[ht];exact List.mem_singleton.2 rfl)
 have hs:syms c c.length=[j]:=by
  rw[<-alls_trees,ht,hte]
  rfl
 have hD:depths c=(zeros c.length).set j 1:=by
  unfold depths
  rw[if_pos (by omega),ht,hte]
  rfl
 have hd:∀ i,dep (depths c) i=if i=j then 1 else 0:=by
  intro i
  rw[hD]
  unfold dep
  rw[getD_set _ _ _ _ (by unfold zeros;rw[List.length_replicate];exact hj)]
  split
  ·rfl
  ·exact dep_zeros _ _
 rw[hs]
 refine⟨fun i=>?_,?_⟩
 ·rw[hd i,List.mem_singleton]
  split<;>rename_i e<;>simp[e]
 ·unfold kr
  rw[List.map_cons,List.map_nil,List.sum_cons,List.sum_nil,hd j,if_pos rfl]
  rfl
theorem depths_none (c:List Nat) (h0:(syms c c.length).length=0):∀ i,0<dep (depths c) i↔i∈syms c c.length:=by
 have hl:=trees_syms c c.length
 have hs:=List.eq_nil_of_length_eq_zero h0
 have ht:trees c c.length=[]:=List.eq_nil_of_length_eq_zero (hl.trans h0)
 intro i
 rw[hs]
 unfold depths
 rw[ht,if_neg (by decide)]
 have:run ([]:List Tree).length [] (zeros c.length)=zeros c.length:=rfl
 rw[this,dep_zeros]
 simp
theorem whole_depths (c:List Nat) (hl:c.length<=257) (ho:okay (depths c)=true):(∀ i,0<dep (depths c) i↔i∈syms c c.length)/\(0<(syms c c.length).length->whole (up (depths c))=true):=by
 have hw:within (up (depths c)) 12=true:=by rw[within_okay _ (by rw[depths_length];exact hl)];exact ho
 by_cases h0:(syms c c.length).length=0
 ·exact⟨depths_none c h0,fun h=>by omega⟩
 ·by_cases h1:(syms c c.length).length=1
  ·obtain⟨ha,hb⟩:=depths_one c h1
   obtain⟨hc,hd⟩:=syms_all c (depths c) (depths_length c) ha
   refine⟨ha,fun _=>?_⟩
   unfold whole right
   rw[hw,hc,hb,hd,h1]
   rfl
  ·obtain⟨ha,hb⟩:=depths_two c (by omega) ho
   obtain⟨hc,hd⟩:=syms_all c (depths c) (depths_length c) ha
   refine⟨ha,fun _=>?_⟩
   unfold whole right
   rw[hw,hc,hb]
   rfl
theorem syms_flat (c:List Nat) (n:Nat):syms (flat c) n=syms c n:=by
 unfold syms
 congr 1
 funext i
 have:(flat c).getD i 0=if 0<c.getD i 0 then c.getD i 0/2+1 else 0:=by
  unfold flat
  rw[List.getD_eq_getElem?_getD,List.getElem?_map,List.getD_eq_getElem?_getD]
  cases c[i]? with
  |none=>rfl
  |some x=>rfl
 rw[this]
 by_cases h:0<c.getD i 0
 ·rw[if_pos h,decide_eq_true h,decide_eq_true (by omega)]
 ·rw[if_neg h,decide_eq_false h]
  rfl
theorem lenOf_facts (c:List Nat) (hl:c.length<=257):(lenOf c).length=c.length/\(∀ i,dep (lenOf c) i<=12)/\(∀ i,0<dep (lenOf c) i↔i∈syms c c.length)/\(0<(syms c c.length).length->whole (up (lenOf c))=true):=by
 obtain⟨k,hk⟩:∃ k,c.sum=k:=⟨_,rfl⟩
 induction k using Nat.strongRecOn generalizing c with
 |_ k ih =>
  by_cases ho:okay (depths c)=true
  ·rw[lenOf_yes c ho]
   exact⟨depths_length c,dep_okay ho,whole_depths c hl ho⟩
  ·have hlt:=flat_more c hl ho
   rw[lenOf_no c hl ho]
   obtain⟨h1,h2,h3,h4⟩:=ih (flat c).sum (by omega) (flat c) (by rw[flat_length];exact hl) rfl
   rw[flat_length]at h1 h3 h4
   rw[syms_flat]at h3 h4
   exact⟨h1,h2,h3,h4⟩
end Go.Proofs.YtjfdllgodijibaaGreatDoor.Hf


/- The walks of countsOf and tableOf. -/
namespace Go.Proofs.YtjfdllgodijibaaGreatDoor.Pk
open Go.RowKit
open St (Strs IsS made_strs)
open In (Ints IsI OwnI made_ints)
open Nu (putS)
open Hf (up up_length up_at up_set incs incs_next incs_length incs_le dep)
def countsN (s:List Int):List Nat:=incs (Hf.zeros 257) (Hf.nats s)
theorem nats_at (s:List Int) (k:Nat) (h:k<s.length):(Hf.nats s)[k]'(by unfold Hf.nats;rw[List.length_map];exact h)=s[k].toNat:=by
 unfold Hf.nats
 rw[List.getElem_map]
theorem zeros_length (n:Nat):(Hf.zeros n).length=n:=List.length_replicate ..
theorem countsN_length (s:List Int):(countsN s).length=257:=by
 unfold countsN
 rw[incs_length,zeros_length]
theorem counts_le (s:List Int) (h:∀ x∈s,0<=x/\x<=256) (k j:Nat):(incs (Hf.zeros 257) ((Hf.nats s).take k)).getD j 0<=s.length:=by
 have h1:=incs_le ((Hf.nats s).take k) (Hf.zeros 257) j (fun y hy=>by
  obtain⟨x,hx,rfl⟩:=List.mem_map.1 (List.mem_of_mem_take hy)
  have:=h x hx
  rw[zeros_length]
  omega)
 have h2:=Hf.dep_zeros 257 j
 unfold Hf.dep at h2
 rw[List.length_take]at h1
 have h3:(Hf.nats s).length=s.length:=List.length_map ..
 omega
def rowT (d:List Nat):Nat->List Int
 |0=>[]
 |k+1=>if 0<d.getD k 0 then rowT d k++[(k:Int),((d.getD k 0:Nat):Int)] else rowT d k
theorem rowT_length (d:List Nat):∀ k,(rowT d k).length<=2*k
 |0=>Nat.le_refl _
 |k+1=>by
  have:=rowT_length d k
  rw[rowT]
  split
  ·rw[List.length_append]
   simp
   omega
  ·omega
end Go.Proofs.YtjfdllgodijibaaGreatDoor.Pk


/- Plain mathematics of bits in bytes: eight bits a byte, the first one highest. -/
namespace Go.Proofs.YtjfdllgodijibaaGreatDoor.Bi
open Go.RowKit
open Sh
def good (t:ByteArray):Bool:=decide (∀ j,j<t.size->bt t j=48∨bt t j=49)
theorem good_yes {t:ByteArray} (h:good t=true):∀ j,j<t.size->bt t j=48∨bt t j=49:=of_decide_eq_true h
theorem good_of {t:ByteArray} (h:∀ j,j<t.size->bt t j=48∨bt t j=49):good t=true:=decide_eq_true h
theorem good_not {t:ByteArray} {j:Nat} (h:j<t.size) (h1:bt t j≠48) (h2:bt t j≠49):good t=false:=decide_eq_false fun g=>by
 rcases g j h with e|e
 ·exact h1 e
 ·exact h2 e
def one (t:ByteArray) (i:Nat):Nat:=if i<t.size/\bt t i=49 then 1 else 0
def pk (t:ByteArray) (q:Nat):Nat->Nat
 |0=>0
 |r+1=>pk t q r+one t (8*q+r)*2 ^ (7-r)
theorem one_le (t:ByteArray) (i:Nat):one t i<=1:=by unfold one;split<;>omega
theorem pk_mul (t:ByteArray) (q:Nat):∀ r,r<=8->∃ n,pk t q r=n*2 ^ (8-r)/\n<2 ^ r:=by
 intro r
 induction r with
 |zero=>intro _;exact⟨0,by simp[pk],by decide⟩
 |succ r ih =>
  intro hr
  obtain⟨n,h1,h2⟩:=ih (by omega)
  have h3:=one_le t (8*q+r)
  refine⟨2*n+one t (8*q+r),?_,by rw[Nat.pow_succ];omega⟩
  have e:8-r=7-r+1:=by omega
  have e2:8-(r+1)=7-r:=by omega
  simp only[pk]
  rw[h1,e,Nat.pow_succ,e2,Nat.add_mul,Nat.mul_comm (2 ^ (7-r)) 2,<-Nat.mul_assoc,Nat.mul_comm n 2]
theorem pk_lt (t:ByteArray) (q r:Nat) (hr:r<=8):pk t q r<256:=by
 obtain⟨n,h1,h2⟩:=pk_mul t q r hr
 rw[h1]
 have h3:n*2 ^ (8-r)<2 ^ r*2 ^ (8-r):=Nat.mul_lt_mul_of_pos_right h2 (Nat.pow_pos (by decide))
 rw[<-Nat.pow_add,show r+(8-r)=8 by omega]at h3
 omega
def packV (t:ByteArray):ByteArray:=strF ((t.size+7)/8) (fun q=>pk t q 8)
def packR (t:ByteArray):ByteArray:=if 8000<t.size∨good t=false then ⟨#[]⟩ else packV t
theorem packR_no (t:ByteArray) (h:8000<t.size∨good t=false):packR t=⟨#[]⟩:=if_pos h
theorem packR_yes (t:ByteArray) (h:¬8000<t.size) (h2:good t=true):packR t=packV t:=if_neg (by rw[h2];simp;omega)
def pkK (t:ByteArray) (k q:Nat):Nat:=pk t q (min 8 (k-8*q))
theorem one_behind (t:ByteArray) (i:Nat) (h:t.size<=i):one t i=0:=by unfold one;rw[if_neg (by omega)]
def hd (t:ByteArray) (q:Nat):Nat->Nat
 |0=>0
 |r+1=>2*hd t q r+one t (8*q+r)
theorem hd_pk (t:ByteArray) (q:Nat):∀ r,r<=8->pk t q r=hd t q r*2 ^ (8-r):=by
 intro r
 induction r with
 |zero=>intro _;simp[pk,hd]
 |succ r ih =>
  intro hr
  simp only[pk,hd]
  rw[ih (by omega),show 8-r=7-r+1 by omega,Nat.pow_succ,show 8-(r+1)=7-r by omega,Nat.add_mul,Nat.mul_comm (2 ^ (7-r)) 2,<-Nat.mul_assoc,Nat.mul_comm (hd t q r) 2]
theorem hd_all (t:ByteArray) (q:Nat):hd t q 8=pk t q 8:=by
 have:=hd_pk t q 8 (Nat.le_refl _)
 simpa using this.symm
theorem hd_lt (t:ByteArray) (q:Nat):∀ r,hd t q r<2 ^ r:=by
 intro r
 induction r with
 |zero=>exact Nat.lt_succ_self 0
 |succ r ih =>
  have:=one_le t (8*q+r)
  simp only[hd]
  rw[Nat.pow_succ]
  omega
theorem hd_le (t:ByteArray) (q r:Nat) (h:r<=8):hd t q r<256:=by
 have h1:=hd_lt t q r
 have h2:=Nat.pow_le_pow_right (n:=2) (by decide) h
 omega
def openV (t:ByteArray) (m:Nat):ByteArray:=strF m (fun i=>bitB (bt t (i/8)) (7-i%8))
def openR (t:ByteArray) (m:Int):ByteArray:=if 8000<t.size∨m<0∨8*(t.size:Int)<m then ⟨#[]⟩ else openV t m.toNat
def opK (t:ByteArray) (k i:Nat):Nat:=if i<k then bitB (bt t (i/8)) (7-i%8) else 0
end Go.Proofs.YtjfdllgodijibaaGreatDoor.Bi


/- Plain mathematics of a stable sort in place: rows as functions, parts turned round, and what a merge of two sorted parts needs. -/
namespace Go.Proofs.YtjfdllgodijibaaGreatDoor.So
open Go.RowKit
def seg (f:Nat->Nat) (a b:Nat):List Nat:=(List.range' a (b-a)).map f
theorem seg_split (f:Nat->Nat) {a m b:Nat} (h1:a<=m) (h2:m<=b):seg f a b=seg f a m++seg f m b:=by
 unfold seg
 have:=List.range'_append_1 (s:=a) (m:=m-a) (n:=b-m)
 rw[show a+(m-a)=m by omega,show m-a+(b-m)=b-a by omega]at this
 rw[<-this,List.map_append]
theorem seg_congr {f g:Nat->Nat} {a b:Nat} (h:∀ i,a<=i->i<b->f i=g i):seg f a b=seg g a b:=by
 unfold seg
 apply List.map_congr_left
 intro i hi
 have:=List.mem_range'_1.1 hi
 exact h i (by omega) (by omega)
def PermF (a b:Nat) (f g:Nat->Nat):Prop:=(seg g a b).Perm (seg f a b)/\∀ i,i<a∨b<=i->g i=f i
theorem PermF.refl (a b:Nat) (f:Nat->Nat):PermF a b f f:=⟨List.Perm.refl _,fun _ _=>rfl⟩
theorem PermF.trans {a b:Nat} {f g h:Nat->Nat} (h1:PermF a b f g) (h2:PermF a b g h):PermF a b f h :=
 ⟨h2.1.trans h1.1,fun i hi=>(h2.2 i hi).trans (h1.2 i hi)⟩
theorem PermF.mono {a b a' b':Nat} {f g:Nat->Nat} (h:PermF a b f g) (ha:a'<=a) (hab:a<=b) (hb:b<=b'):PermF a' b' f g:=by
 refine⟨?_,fun i hi=>h.2 i (by omega)⟩
 rw[seg_split g (show a'<=a from ha) (show a<=b' by omega),seg_split f (show a'<=a from ha) (show a<=b' by omega),seg_split g hab hb,seg_split f hab hb]
 rw[seg_congr (f:=g) (g:=f) (a:=a') (b:=a) fun i _ h2=>h.2 i (by omega),seg_congr (f:=g) (g:=f) (a:=b) (b:=b') fun i h1 _=>h.2 i (by omega)]
 exact(List.Perm.refl _).append (h.1.append (List.Perm.refl _))
def rotF (a m b:Nat) (f:Nat->Nat):Nat->Nat:=fun k =>
 if k<a then f k else if k<a+(b-m) then f (k-a+m) else if k<b then f (k-(b-m)) else f k
theorem rot_out {a m b:Nat} (f:Nat->Nat) (k:Nat) (h:k<a∨b<=k) (h1:a<=m) (h2:m<=b):rotF a m b f k=f k:=by
 unfold rotF
 rcases h with h|h
 ·rw[if_pos h]
 ·rw[if_neg (by omega),if_neg (by omega),if_neg (by omega)]
def swpR (p q n:Nat) (f:Nat->Nat):Nat->Nat:=fun k =>
 if p<=k/\k<p+n then f (k-p+q) else if q<=k/\k<q+n then f (k-q+p) else f k
def swp (f:Nat->Nat) (i j:Nat):Nat->Nat:=fun k=>if k=j then f i else if k=i then f j else f k
structure Weak (cl:Nat->Nat->Bool):Prop where
 irrefl:∀ x,cl x x=false
 trans:∀ x y z,cl x y=true->cl y z=true->cl x z=true
 ntrans:∀ x y z,cl x y=false->cl y z=false->cl x z=false
def lx (cl:Nat->Nat->Bool) (x y:Nat):Prop:=cl x y=true∨cl y x=false/\x<y
theorem lx_trans {cl:Nat->Nat->Bool} (h:Weak cl) {x y z:Nat} (h1:lx cl x y) (h2:lx cl y z):lx cl x z:=by
 rcases h1 with h1|⟨h1,l1⟩
 ·rcases h2 with h2|⟨h2,l2⟩
  ·exact .inl (h.trans _ _ _ h1 h2)
  ·cases e:cl x z with
   |true=>exact .inl e
   |false=>have:=h.ntrans _ _ _ e h2;rw[this]at h1;cases h1
 ·rcases h2 with h2|⟨h2,l2⟩
  ·cases e:cl x z with
   |true=>exact .inl e
   |false=>have:=h.ntrans _ _ _ h1 e;rw[this]at h2;cases h2
  ·exact .inr ⟨h.ntrans _ _ _ h2 h1,by omega⟩
theorem lx_asymm {cl:Nat->Nat->Bool} (h:Weak cl) {x y:Nat} (h1:lx cl x y) (h2:lx cl y x):False:=by
 have:=lx_trans h h1 h2
 rcases this with e|⟨_,e⟩
 ·rw[h.irrefl]at e;cases e
 ·omega
theorem lx_yes {cl:Nat->Nat->Bool} {x y:Nat} (e:cl x y=true):lx cl x y:=.inl e
theorem lx_no {cl:Nat->Nat->Bool} {x y:Nat} (e:cl x y=false) (h:y<x):lx cl y x:=.inr ⟨e,h⟩
def Ris (cl:Nat->Nat->Bool) (a b:Nat) (f:Nat->Nat):Prop:=∀ i j,a<=i->i<j->j<b->lx cl (f i) (f j)
theorem Ris.congr {cl:Nat->Nat->Bool} {a b:Nat} {f g:Nat->Nat} (h:Ris cl a b f) (e:∀ i,a<=i->i<b->g i=f i):Ris cl a b g :=
 fun i j h1 h2 h3=>by rw[e i h1 (by omega),e j (by omega) h3];exact h i j h1 h2 h3
def Sep (a m b:Nat) (f:Nat->Nat):Prop:=∀ i j,a<=i->i<m->m<=j->j<b->f i<f j
end Go.Proofs.YtjfdllgodijibaaGreatDoor.So


/- Rows of places in memory, as a sort in place passes through them; and the plain row that each is. -/
namespace Go.Proofs.YtjfdllgodijibaaGreatDoor.So
open Go.RowKit Go.Sort Go.Proofs
theorem hideO {p:Prop} (h:p):Hid p:=h
def dF (d:Array Nat):Nat->Nat:=fun i=>d[i]!
theorem mixed:Tryz.prog.follows .mixedOrders=true:=by kernel_rfl
def encT (T:Nat->ByteArray) (x:Nat):List Value:=[.int .i64 x,.string (T x)]
def encI (x:Nat):List Value:=[.int .i64 x]
section
variable {enc : Nat → List Value} {k : Nat} {w : World} {blk off : Nat} {d : Array Nat}
end
end Go.Proofs.YtjfdllgodijibaaGreatDoor.So


/- A region that draws its order inside the widest fence: what only reads comes first, in the order of the text; the rest comes behind, one after another. -/
namespace Go.Proofs.YtjfdllgodijibaaGreatDoor.So
open Go.RowKit
section
variable {P : Program} {md : Region.Mode} {ops : Array Oper} {w : World}
end
end Go.Proofs.YtjfdllgodijibaaGreatDoor.So


/- How a block's turns come through an iterator, and are put into a row. -/
namespace Go.Proofs.YtjfdllgodijibaaGreatDoor.So
open Go.RowKit Go.Sort Go.Proofs Go.Shelf
attribute [local go_sem] Oper.semAt_some
def turnV (t:ByteArray) (x:Nat):ByteArray:=t.extract x t.size++t.extract 0 x
def KeepB (Bn:Nat) (W W':World):Prop:=W'.cell? ⟨Bn,0,none⟩=W.cell? ⟨Bn,0,none⟩
theorem KeepB.trans {Bn:Nat} {A B C:World} (h1:KeepB Bn A B) (h2:KeepB Bn B C):KeepB Bn A C:=Eq.trans h2 h1
end Go.Proofs.YtjfdllgodijibaaGreatDoor.So


/- How two turns are compared. -/
namespace Go.Proofs.YtjfdllgodijibaaGreatDoor.So
open Go.RowKit Go.Sort Go.Proofs
theorem bless_eq:∀ (x y:List UInt8),Op.bytesLess x y=decide (x<y)
 |[],[]=>by simp[Op.bytesLess]
 |_ :: _,[]=>by simp[Op.bytesLess]
 |[],_ :: _=>by simp[Op.bytesLess]
 |a :: x,b :: y=>by
  rw[Op.bytesLess,bless_eq x y]
  simp only[List.cons_lt_cons_iff]
  by_cases h1:a<b<;>by_cases h2:a=b<;>simp[h1,h2]
def clT (T:Nat->ByteArray) (x y:Nat):Bool:=Op.bytesLess (T x).toList (T y).toList
theorem clT_weak (T:Nat->ByteArray):Weak (clT T) where
 irrefl x:=by simp[clT,bless_eq,List.lt_irrefl]
 trans x y z h1 h2:=by
  simp only[clT,bless_eq,decide_eq_true_eq]at *
  exact List.lt_trans h1 h2
 ntrans x y z h1 h2:=by
  simp only[clT,bless_eq,decide_eq_false_iff_not,List.not_lt]at *
  exact List.le_trans h2 h1
def cfT (T:Nat->ByteArray) (x y:Nat):Int:=if Op.bytesLess (T x).toList (T y).toList=true then -1 else if ((T x).toList==(T y).toList)=true then 0 else 1
end Go.Proofs.YtjfdllgodijibaaGreatDoor.So


/- Plain mathematics of the order of a block's turns. -/
namespace Go.Proofs.YtjfdllgodijibaaGreatDoor.So
open Go.RowKit
def OrdOk (t:ByteArray) (l:List Nat):Prop:=l.Perm (List.range t.size)/\l.Pairwise (lx (clT (turnV t)))
theorem ord_unique {t:ByteArray} {l l':List Nat} (h:OrdOk t l) (h':OrdOk t l'):l=l' :=
 List.Perm.eq_of_pairwise (fun _ _ _ _ h1 h2=>(lx_asymm (clT_weak _) h1 h2).elim) h.2 h'.2 (h.1.trans h'.1.symm)
open Classical in
noncomputable def ord (t:ByteArray):List Nat:=if h:∃ l,OrdOk t l then Classical.choose h else []
theorem ord_of {t:ByteArray} {l:List Nat} (h:OrdOk t l):ord t=l:=by
 have hex:∃ l,OrdOk t l:=⟨l,h⟩
 unfold ord
 rw[dif_pos hex]
 exact ord_unique (Classical.choose_spec hex) h
def ints (l:List Nat):List Int:=l.map fun x=>((x:Nat):Int)
theorem ints_len (l:List Nat):(ints l).length=l.length:=by simp[ints]
theorem ints_snoc (l:List Nat) (x:Nat):ints (l++[x])=ints l++[(x:Int)]:=by simp[ints]
noncomputable def ordR (t:ByteArray):List Int:=if t.size<=48 then ints (ord t) else []
theorem ord_put {cl:Nat->Nat->Bool} (hw:Weak cl) {l:List Nat} {k p:Nat} (hp:l.Perm (List.range k)) (hs:l.Pairwise (lx cl)) (hl:p<=l.length) (hhi:∀ j (h:j<l.length),p<=j->cl k l[j]=true) (hlo:p=0∨∃ h:p-1<l.length,cl k l[p-1]=false) :
  (l.take p++[k]++l.drop p).Perm (List.range (k+1))/\(l.take p++[k]++l.drop p).Pairwise (lx cl):=by
 refine⟨?_,?_⟩
 ·rw[List.range_succ]
  have h1:(l.take p++[k]++l.drop p).Perm (l.take p++l.drop p++[k]):=by
   rw[List.append_assoc,List.append_assoc]
   exact List.Perm.append_left _ List.perm_append_comm
  rw[List.take_append_drop]at h1
  exact h1.trans (List.Perm.append_right _ hp)
 ·have hlt:∀ x∈l,x<k:=fun x hx=>by
   have:=hp.mem_iff.1 hx
   simpa using this
  have hlow:∀ x∈l.take p,lx cl x k:=by
   intro x hx
   rcases hlo with h0|⟨h1,h2⟩
   ·subst h0;simp at hx
   ·obtain⟨j,hj,rfl⟩:=List.getElem_of_mem hx
    have hj':j<p:=by simp at hj;omega
    rw[List.getElem_take]
    have hq:lx cl l[p-1] k:=lx_no h2 (hlt _ (List.getElem_mem _))
    rcases Nat.lt_or_ge j (p-1) with e|e
    ·exact lx_trans hw (List.pairwise_iff_getElem.1 hs j (p-1) (by omega) h1 e) hq
    ·have:j=p-1:=by omega
     subst this
     exact hq
  have hhigh:∀ x∈l.drop p,lx cl k x:=by
   intro x hx
   obtain⟨j,hj,rfl⟩:=List.getElem_of_mem hx
   rw[List.getElem_drop]
   simp at hj
   exact lx_yes (hhi (p+j) (by omega) (by omega))
  rw[List.append_assoc,List.pairwise_append]
  refine⟨hs.sublist (List.take_sublist _ _),?_,?_⟩
  ·rw[List.singleton_append,List.pairwise_cons]
   exact⟨hhigh,hs.sublist (List.drop_sublist _ _)⟩
  ·intro x hx y hy
   rw[List.singleton_append]at hy
   rcases List.mem_cons.1 hy with e|hy
   ·rw[e];exact hlow x hx
   ·exact lx_trans hw (hlow x hx) (hhigh y hy)
end Go.Proofs.YtjfdllgodijibaaGreatDoor.So

