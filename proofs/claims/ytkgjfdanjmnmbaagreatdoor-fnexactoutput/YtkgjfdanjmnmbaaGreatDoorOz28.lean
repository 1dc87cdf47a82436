/- Texts put together: HuKraft, PkJoin, CodesPlain, PutPlain, PackPlain. -/
import Derived.Test.YtkgjfdanjmnmbaaGreatDoorOz27
import Derived.Test.YtkgjfdanjmnmbaaGreatDoorOz23
import Derived.Test.YtkgjfdanjmnmbaaGreatDoorOz26
import Derived.Test.YtkgjfdanjmnmbaaGreatDoorOz15
set_option maxRecDepth 100000
set_option maxHeartbeats 8000000
/- Plain mathematics of lengths: of counts that are not all 0 they are whole, and just the symbols that count have one. -/
namespace Go.Proofs.YtkgjfdanjmnmbaaGreatDoor.Hf
open Bi (csum above part whole right within within_of csum_snoc above_snoc)
def kr (K:Nat) (d s:List Nat):Nat:=(s.map fun k=>2 ^ (K-dep d k)).sum
theorem kr_append (K:Nat) (d s t:List Nat):kr K d (s++t)=kr K d s+kr K d t:=by
 unfold kr
 rw[List.map_append,List.sum_append]
theorem kr_perm (K:Nat) (d:List Nat) {s t:List Nat} (p:s.Perm t):kr K d s=kr K d t:=(p.map _).sum_nat
theorem kr_congr (K:Nat) (d d' s:List Nat) (h:∀ k∈s,dep d' k=dep d k):kr K d' s=kr K d s:=by
 unfold kr
 rw[List.map_congr_left fun k hk=>by rw[h k hk]]
theorem kr_up (K:Nat) (d d' s:List Nat) (h:∀ k∈s,dep d' k=dep d k+1/\dep d k+1<=K):2*kr K d' s=kr K d s:=by
 induction s with
 |nil=>rfl
 |cons k s ih =>
  have h1:=ih fun x hx=>h x (List.mem_cons_of_mem _ hx)
  obtain⟨h2,h3⟩:=h k (List.mem_cons_self ..)
  unfold kr at h1 ⊢
  rw[List.map_cons,List.sum_cons,List.map_cons,List.sum_cons,Nat.mul_add,h1,h2]
  have:2*2 ^ (K-(dep d k+1))=2 ^ (K-dep d k):=by
   rw[show K-dep d k=(K-(dep d k+1))+1 by omega,Nat.pow_succ]
   omega
  rw[this]
def KrInv (K:Nat) (l:List Tree) (d:List Nat):Prop:=∀ t∈l,kr K d t.2=2 ^ K
def alls (l:List Tree):List Nat:=l.flatMap fun t=>t.2
theorem alls_perm {l l':List Tree} (p:l.Perm l'):(alls l).Perm (alls l'):=p.flatMap_right _
theorem alls_join (l:List Tree) (h:2<=l.length):(alls (join l)).Perm (alls l):=by
 have e:alls (both l :: rest2 l)=alls (first l :: second l :: rest2 l):=by
  unfold alls both
  rw[List.flatMap_cons,List.flatMap_cons,List.flatMap_cons,List.append_assoc]
 exact(alls_perm (join_perm l)).trans (e ▸ (alls_perm (two_perm l h)).symm)
theorem dep_join {l:List Tree} {d:List Nat} {n:Nat} (h:Inv l d n) (h2:2<=l.length) (s:Nat):dep (incs (incs d (first l).2) (second l).2) s=if s∈(first l).2++(second l).2 then dep d s+1 else dep d s:=by
 have h':=h.perm (two_perm l h2)
 obtain⟨pa,_⟩:=List.pairwise_cons.1 h'.pw
 exact two_dep d _ _ (h'.nd _ (List.mem_cons_self ..)) (h'.nd _ (List.mem_cons_of_mem _ (List.mem_cons_self ..))) (pa _ (List.mem_cons_self ..)).2.2 (h'.lt _ (List.mem_cons_self ..)) (h'.lt _ (List.mem_cons_of_mem _ (List.mem_cons_self ..))) s
theorem KrInv.join {K:Nat} {l:List Tree} {d:List Nat} {n:Nat} (hk:KrInv K l d) (h:Inv l d n) (h2:2<=l.length) (hn:n<=K):KrInv K (join l) (incs (incs d (first l).2) (second l).2):=by
 have hd:=dep_join h h2
 have hj:=h.join h2
 have hp:=two_perm l h2
 have h':=h.perm hp
 obtain⟨pa,pb'⟩:=List.pairwise_cons.1 h'.pw
 obtain⟨pb,_⟩:=List.pairwise_cons.1 pb'
 have hup:∀ s,s∈(first l).2++(second l).2->dep (incs (incs d (first l).2) (second l).2) s=dep d s+1/\dep d s+1<=K:=by
  intro s hs
  have e:=hd s
  rw[if_pos hs]at e
  refine⟨e,?_⟩
  have:=hj.small s
  unfold dep at e ⊢
  omega
 intro t ht
 rcases List.mem_cons.1 ((join_perm l).mem_iff.1 ht) with rfl|hr
 ·have h3:=kr_up K d _ (first l).2 fun k hk=>hup k (List.mem_append_left _ hk)
  have h4:=kr_up K d _ (second l).2 fun k hk=>hup k (List.mem_append_right _ hk)
  rw[hk _ (hp.mem_iff.2 (List.mem_cons_self ..))]at h3
  rw[hk _ (hp.mem_iff.2 (List.mem_cons_of_mem _ (List.mem_cons_self ..)))]at h4
  show kr K _ ((first l).2++(second l).2)=_
  rw[kr_append]
  omega
 ·rw[kr_congr K d _ t.2 fun k hk=>?_]
  ·exact hk t (hp.mem_iff.2 (List.mem_cons_of_mem _ (List.mem_cons_of_mem _ hr)))
  ·rw[hd,if_neg]
   intro hx
   rcases List.mem_append.1 hx with hx|hx
   ·exact(pa t (List.mem_cons_of_mem _ hr)).2.2 k hx hk
   ·exact(pb t hr).2.2 k hx hk
theorem run_kraft {K:Nat} (f:Nat):∀ (l:List Tree) (d:List Nat) (n:Nat),Inv l d n->n<=K->l.length<=f->0<l.length->KrInv K l d->kr K (run f l d) (alls l)=2 ^ K:=by
 induction f with
 |zero=>intro l d n _ _ h1 h2;omega
 |succ f ih =>
  intro l d n h hn hf h0 hk
  rw[run]
  by_cases h1:l.length<=1
  ·rw[if_pos h1]
   obtain⟨t,rfl⟩:=List.length_eq_one_iff.1 (show l.length=1 by omega)
   have:=hk t (List.mem_singleton.2 rfl)
   unfold alls
   rw[List.flatMap_cons,List.flatMap_nil,List.append_nil]
   exact this
  ·rw[if_neg h1]
   have hjl:=join_length l (by omega)
   rw[<-kr_perm K _ (alls_join l (by omega))]
   exact ih (join l) _ n (h.join (by omega)) hn (by omega) (by omega) (hk.join h (by omega) hn)
theorem run_out (f:Nat):∀ (l:List Tree) (d:List Nat) (n s:Nat),Inv l d n->s ∉ alls l->dep (run f l d) s=dep d s:=by
 induction f with
 |zero=>intro l d n s _ _;rfl
 |succ f ih =>
  intro l d n s h hs
  rw[run]
  by_cases h1:l.length<=1
  ·rw[if_pos h1]
  ·rw[if_neg h1,ih (join l) _ n s (h.join (by omega)) (fun hx=>hs ((alls_join l (by omega)).mem_iff.1 hx)),dep_join h (by omega),if_neg]
   intro hx
   refine hs ((alls_perm (two_perm l (by omega))).mem_iff.2 ?_)
   unfold alls
   rw[List.flatMap_cons,List.flatMap_cons]
   rcases List.mem_append.1 hx with hx|hx
   ·exact List.mem_append_left _ hx
   ·exact List.mem_append_right _ (List.mem_append_left _ hx)
def syms (c:List Nat) (n:Nat):List Nat:=(List.range n).filter fun i=>decide (0<c.getD i 0)
theorem syms_succ (c:List Nat) (n:Nat):syms c (n+1)=if 0<c.getD n 0 then syms c n++[n] else syms c n:=by
 unfold syms
 rw[List.range_succ,List.filter_append,List.filter_cons,List.filter_nil]
 by_cases h:0<c.getD n 0
 ·rw[if_pos h,if_pos (decide_eq_true h)]
 ·rw[if_neg h,if_neg (by simpa using h),List.append_nil]
theorem alls_trees (c:List Nat):∀ n,alls (trees c n)=syms c n
 |0=>rfl
 |n+1=>by
  have ih:=alls_trees c n
  rw[syms_succ,trees]
  split
  ·unfold alls at ih ⊢
   rw[List.flatMap_append,ih]
   rfl
  ·exact ih
theorem trees_syms (c:List Nat):∀ n,(trees c n).length=(syms c n).length
 |0=>rfl
 |n+1=>by
  have ih:=trees_syms c n
  rw[syms_succ,trees]
  split
  ·rw[List.length_append,List.length_append,ih]
   rfl
  ·exact ih
theorem mem_syms {c:List Nat} {n i:Nat}:i∈syms c n↔i<n/\0<c.getD i 0:=by
 unfold syms
 rw[List.mem_filter,List.mem_range,decide_eq_true_eq]
theorem kr_pos (K:Nat) (d:List Nat) (s:List Nat) (h:0<s.length):0<kr K d s:=by
 cases s with
 |nil=>exact absurd h (by decide)
 |cons k s =>
  unfold kr
  rw[List.map_cons,List.sum_cons]
  have:=Nat.two_pow_pos (K-dep d k)
  omega
theorem kr_shift (K:Nat) (d s:List Nat) (hK:12<=K) (h:∀ k∈s,dep d k<=12):kr K d s=2 ^ (K-12)*kr 12 d s:=by
 unfold kr
 induction s with
 |nil=>rfl
 |cons k s ih =>
  have h1:=h k (List.mem_cons_self ..)
  rw[List.map_cons,List.sum_cons,List.map_cons,List.sum_cons,ih (fun x hx=>h x (List.mem_cons_of_mem _ hx)),Nat.mul_add,<-Nat.pow_add,show K-12+(12-dep d k)=K-dep d k by omega]
theorem dep_okay {D:List Nat} (h:okay D=true) (i:Nat):dep D i<=12:=by
 unfold okay at h
 rw[List.all_eq_true]at h
 unfold dep
 by_cases hi:i<D.length
 ·rw[List.getD_eq_getElem?_getD,List.getElem?_eq_getElem hi]
  exact of_decide_eq_true (h _ (List.getElem_mem hi))
 ·rw[List.getD_eq_getElem?_getD,List.getElem?_eq_none (by omega)]
  exact Nat.zero_le _
theorem depths_two (c:List Nat) (h2:2<=(syms c c.length).length) (ho:okay (depths c)=true):(∀ i,0<dep (depths c) i↔i∈syms c c.length)/\kr 12 (depths c) (syms c c.length)=4096:=by
 have hinv:=trees_inv c c.length (Nat.le_refl _)
 rw[List.take_length]at hinv
 have hl:=trees_syms c c.length
 have hD:depths c=run (trees c c.length).length (trees c c.length) (zeros c.length):=by
  unfold depths
  rw[if_neg (by omega)]
 have hK:KrInv (c.sum+12) (trees c c.length) (zeros c.length):=by
  intro t ht
  obtain⟨j,_,_,rfl⟩:=trees_mem c c.length t ht
  unfold kr
  simp[dep_zeros]
 have hkr:=run_kraft (K:=c.sum+12) _ (trees c c.length) (zeros c.length) c.sum hinv (by omega) (Nat.le_refl _) (by omega) hK
 rw[alls_trees,<-hD]at hkr
 refine⟨fun i=>⟨fun hi=>?_,fun hi=>?_⟩,?_⟩
 ·refine Classical.byContradiction fun hn=>?_
  have:=run_out (trees c c.length).length (trees c c.length) (zeros c.length) c.sum i hinv (by rw[alls_trees];exact hn)
  rw[<-hD,dep_zeros]at this
  omega
 ·refine Nat.pos_of_ne_zero fun h0=>?_
  have hp:=List.perm_cons_erase hi
  rw[kr_perm _ _ hp]at hkr
  have hp2:=kr_pos (c.sum+12) (depths c) ((syms c c.length).erase i) (by
   have:=hp.length_eq
   rw[List.length_cons]at this
   omega)
  unfold kr at hkr hp2
  rw[List.map_cons,List.sum_cons,h0,Nat.sub_zero]at hkr
  omega
 ·have hs:=kr_shift (c.sum+12) (depths c) (syms c c.length) (by omega) fun k _=>dep_okay ho k
  rw[hkr,Nat.pow_add,Nat.add_sub_cancel]at hs
  have:=Nat.eq_of_mul_eq_mul_left (Nat.two_pow_pos c.sum) hs
  rw[<-this]
theorem sums_syms (D:List Nat) (S:Nat->Bool) (h:∀ i,i<D.length->(S i=true↔0<dep D i)):∀ k,k<=D.length->csum (up (D.take k))=kr 12 D ((List.range k).filter S)/\above (up (D.take k))=((List.range k).filter S).length
 |0,_=>⟨rfl,rfl⟩
 |k+1,hk=>by
  obtain⟨h1,h2⟩:=sums_syms D S h k (by omega)
  have hd:dep D k=D[k]:=by
   unfold dep
   rw[List.getD_eq_getElem?_getD,List.getElem?_eq_getElem (by omega)]
   rfl
  have e:up (D.take (k+1))=up (D.take k)++[((D[k]:Nat):Int)]:=by
   rw[List.take_add_one,List.getElem?_eq_getElem (by omega)]
   unfold up
   rw[List.map_append]
   rfl
  rw[e,csum_snoc,above_snoc,h1,h2,List.range_succ,List.filter_append,kr_append,List.length_append,List.filter_cons,List.filter_nil]
  have hi:=h k (by omega)
  rw[hd]at hi
  by_cases hp:0<D[k]
  ·rw[if_pos (hi.2 hp)]
   unfold Bi.part kr
   rw[if_pos (by omega),if_pos (by omega),List.map_cons,List.map_nil,List.sum_cons,List.sum_nil,hd]
   exact⟨rfl,rfl⟩
  ·rw[if_neg (fun hx=>hp (hi.1 hx))]
   unfold Bi.part
   rw[if_neg (by omega),if_neg (by omega)]
   exact⟨rfl,rfl⟩
theorem syms_all (c:List Nat) (D:List Nat) (hl:D.length=c.length) (h:∀ i,0<dep D i↔i∈syms c c.length):csum (up D)=kr 12 D (syms c c.length)/\above (up D)=(syms c c.length).length:=by
 have:=sums_syms D (fun i=>decide (0<c.getD i 0)) (fun i hi=>by
  rw[decide_eq_true_eq,h i,mem_syms]
  exact⟨fun x=>⟨by omega,x⟩,fun x=>x.2⟩) D.length (Nat.le_refl _)
 rw[List.take_length,hl]at this
 exact this
theorem depths_one (c:List Nat) (h1:(syms c c.length).length=1):(∀ i,0<dep (depths c) i↔i∈syms c c.length)/\kr 12 (depths c) (syms c c.length)=2048:=by
 have hl:=trees_syms c c.length
 obtain⟨t,ht⟩:=List.length_eq_one_iff.1 (hl.trans h1)
 obtain⟨j,hj,hc,hte⟩:=trees_mem c c.length t (by rw[ht];exact List.mem_singleton.2 rfl)
 have hs:syms c c.length=[j]:=by
  rw[<-alls_trees,ht,hte]
  rfl
 have hD:depths c=(zeros c.length).set j 1:=by
  unfold depths
  rw[if_pos (by omega),ht,hte]
  rfl
 have hd:∀ i,dep (depths c) i=if i=j then 1 else 0:=by
  intro i
  rw[hD]
  unfold dep
  rw[getD_set _ _ _ _ (by unfold zeros;rw[List.length_replicate];exact hj)]
  split
  ·rfl
  ·exact dep_zeros _ _
 rw[hs]
 refine⟨fun i=>?_,?_⟩
 ·rw[hd i,List.mem_singleton]
  split<;>rename_i e<;>simp[e]
 ·unfold kr
  rw[List.map_cons,List.map_nil,List.sum_cons,List.sum_nil,hd j,if_pos rfl]
  rfl
theorem depths_none (c:List Nat) (h0:(syms c c.length).length=0):∀ i,0<dep (depths c) i↔i∈syms c c.length:=by
 have hl:=trees_syms c c.length
 have hs:=List.eq_nil_of_length_eq_zero h0
 have ht:trees c c.length=[]:=List.eq_nil_of_length_eq_zero (hl.trans h0)
 intro i
 rw[hs]
 unfold depths
 rw[ht,if_neg (by decide)]
 have:run ([]:List Tree).length [] (zeros c.length)=zeros c.length:=rfl
 rw[this,dep_zeros]
 simp
theorem whole_depths (c:List Nat) (hl:c.length<=257) (ho:okay (depths c)=true):(∀ i,0<dep (depths c) i↔i∈syms c c.length)/\(0<(syms c c.length).length->whole (up (depths c))=true):=by
 have hw:within (up (depths c)) 12=true:=by rw[within_okay _ (by rw[depths_length];exact hl)];exact ho
 by_cases h0:(syms c c.length).length=0
 ·exact⟨depths_none c h0,fun h=>by omega⟩
 ·by_cases h1:(syms c c.length).length=1
  ·obtain⟨ha,hb⟩:=depths_one c h1
   obtain⟨hc,hd⟩:=syms_all c (depths c) (depths_length c) ha
   refine⟨ha,fun _=>?_⟩
   unfold whole right
   rw[hw,hc,hb,hd,h1]
   rfl
  ·obtain⟨ha,hb⟩:=depths_two c (by omega) ho
   obtain⟨hc,hd⟩:=syms_all c (depths c) (depths_length c) ha
   refine⟨ha,fun _=>?_⟩
   unfold whole right
   rw[hw,hc,hb]
   rfl
theorem syms_flat (c:List Nat) (n:Nat):syms (flat c) n=syms c n:=by
 unfold syms
 congr 1
 funext i
 have:(flat c).getD i 0=if 0<c.getD i 0 then c.getD i 0/2+1 else 0:=by
  unfold flat
  rw[List.getD_eq_getElem?_getD,List.getElem?_map,List.getD_eq_getElem?_getD]
  cases c[i]? with
  |none=>rfl
  |some x=>rfl
 rw[this]
 by_cases h:0<c.getD i 0
 ·rw[if_pos h,decide_eq_true h,decide_eq_true (by omega)]
 ·rw[if_neg h,decide_eq_false h]
  rfl
theorem lenOf_facts (c:List Nat) (hl:c.length<=257):(lenOf c).length=c.length/\(∀ i,dep (lenOf c) i<=12)/\(∀ i,0<dep (lenOf c) i↔i∈syms c c.length)/\(0<(syms c c.length).length->whole (up (lenOf c))=true):=by
 obtain⟨k,hk⟩:∃ k,c.sum=k:=⟨_,rfl⟩
 induction k using Nat.strongRecOn generalizing c with
 |_ k ih =>
  by_cases ho:okay (depths c)=true
  ·rw[lenOf_yes c ho]
   exact⟨depths_length c,dep_okay ho,whole_depths c hl ho⟩
  ·have hlt:=flat_more c hl ho
   rw[lenOf_no c hl ho]
   obtain⟨h1,h2,h3,h4⟩:=ih (flat c).sum (by omega) (flat c) (by rw[flat_length];exact hl) rfl
   rw[flat_length]at h1 h3 h4
   rw[syms_flat]at h3 h4
   exact⟨h1,h2,h3,h4⟩
end Go.Proofs.YtkgjfdanjmnmbaaGreatDoor.Hf


namespace Go.Proofs.YtkgjfdanjmnmbaaGreatDoor.Pk
open Go.RowKit
open St (Strs IsS made_strs)
open In (Ints IsI OwnI made_ints)
open Nu (putS)
open Hf (up up_length up_at up_set incs incs_next incs_length incs_le dep)
def countsN (s:List Int):List Nat:=incs (Hf.zeros 257) (Hf.nats s)
theorem nats_at (s:List Int) (k:Nat) (h:k<s.length):(Hf.nats s)[k]'(by unfold Hf.nats;rw[List.length_map];exact h)=s[k].toNat:=by
 unfold Hf.nats
 rw[List.getElem_map]
theorem zeros_length (n:Nat):(Hf.zeros n).length=n:=List.length_replicate ..
theorem countsN_length (s:List Int):(countsN s).length=257:=by
 unfold countsN
 rw[incs_length,zeros_length]
theorem counts_le (s:List Int) (h:∀ x∈s,0<=x/\x<=256) (k j:Nat):(incs (Hf.zeros 257) ((Hf.nats s).take k)).getD j 0<=s.length:=by
 have h1:=incs_le ((Hf.nats s).take k) (Hf.zeros 257) j (fun y hy=>by
  obtain⟨x,hx,rfl⟩:=List.mem_map.1 (List.mem_of_mem_take hy)
  have:=h x hx
  rw[zeros_length]
  omega)
 have h2:=Hf.dep_zeros 257 j
 unfold Hf.dep at h2
 rw[List.length_take]at h1
 have h3:(Hf.nats s).length=s.length:=List.length_map ..
 omega
theorem counts_impl (s:List Int) (a:Option Addr) (cap n:Nat) (w:World) (h:Ints w w.heap.size a s) (hn:s.length=n) (hn2:n<=400) (hr:∀ x∈s,0<=x/\x<=256) :
  Calls Tryz.prog 97 #[.slice a n cap] w fun e w'=>e=.returned (.slice (some ⟨w.heap.size,0,none⟩) 257 257)/\IsI w' w.heap.size 2 (up (countsN s))/\Below w.heap.size w w':=by
 obtain⟨i0,hi,hz0,hz1,hz2⟩:=info_parts In.Tryz.infoI2
 have HN:=hideP hn
 have HS:=hideP h
 have HR:=hideP hr
 have HCL:=hideP (counts_le s hr)
 have HNL:Hid ((Hf.nats s).length=s.length):=List.length_map ..
 clear h hn hr
 have HZ:Hid (up (incs (Hf.zeros 257) ((Hf.nats s).take 0))=List.replicate 257 0):=by
  unfold Hid
  rw[List.take_zero]
  show up (Hf.zeros 257)=_
  unfold up Hf.zeros
  rw[List.map_replicate]
  rfl
 go_enter Tryz.func97,Tryz.ntmps97
 go_wp2_with (at_make;refine wpList_make_full _ rfl (.const (.int .i64 257)) (.const (.int .i64 257)) 114 rfl w.heap.size 2 i0 (.int .i64 0) 1 Tryz.underlying114 hi hz0 hz1 .i64 .i64 _ _ 257 rfl rfl (by omega) (by omega) (by rw[hz2];omega) (by unfold maxLen;omega) (Nat.le_refl _) ?_;intro w1 hown hgrow;have HI1:=hideP (made_ints hown);have HB1:=hideP ((Below.refl w.heap.size w).grown hgrow (Nat.le_refl _) (by simp));clear hown hgrow)
 go_loopw [9,5] (fun iv _ wr=>∃ j:Nat,iv=.int .i64 j/\j<=n/\IsI wr w.heap.size 2 (up (incs (Hf.zeros 257) ((Hf.nats s).take j)))/\Below w.heap.size w wr) (fun iv _ _=>n-(intOf iv).toNat)
 case atStart=>exact⟨0,rfl,Nat.zero_le _,by rw[HZ.out];exact HI1.out,HB1.out⟩
 case round =>
  obtain⟨j,rfl,hj,hij,hbw⟩:=hrel
  have IJ:=hideP hij
  have BW:=hideP hbw
  clear hij hbw
  by_cases hlt:j<n
  ·have hjl:j<s.length:=by rw[HN.out];exact hlt
   obtain⟨b,off,rfl,hb,hcl⟩:=(HS.out.below BW.out).some (by omega)
   have ci:=hcl j hjl
   have hx:=HR.out s[j] (List.getElem_mem hjl)
   have HNX:=hideP (incs_next (Hf.zeros 257) (Hf.nats s) j (by rw[HNL.out];exact hjl))
   rw[nats_at s j hjl]at HNX
   generalize s[j]=x at ci hx HNX
   obtain⟨y,rfl⟩:∃ y:Nat,x=y:=⟨x.toNat,by omega⟩
   rw[Int.toNat_natCast]at HNX
   have hlen:y<(incs (Hf.zeros 257) ((Hf.nats s).take j)).length:=by rw[incs_length,zeros_length];omega
   have cl0:wr.cell? ⟨w.heap.size,y,none⟩=some (.int .i64 (((incs (Hf.zeros 257) ((Hf.nats s).take j)).getD y 0:Nat):Int)):=by
    rw[IJ.out.cell (j:=y) (by rw[up_length];exact hlen),up_at _ _ hlen]
   have zl0:=IJ.out.frozen y
   have hdb:=HCL.out j y
   obtain⟨dv,hdv⟩:∃ dv,dv=(incs (Hf.zeros 257) ((Hf.nats s).take j)).getD y 0:=⟨_,rfl⟩
   have HDV:=hideP hdv
   rw[<-hdv]at cl0 hdb
   have hdv2:dv<=400:=by have:=HN.out;omega
   have hy:(y:Int)<257:=by omega
   clear hdv hcl hjl hlen hdb
   go_wp2_with fail
   go_roundw
   case rel =>
    refine⟨j+1,by go_num,by omega,?_,BW.out.setCell (by simp) _⟩
    have:=IJ.out.set y ((dv:Int)+1)
    rw[HNX.out,<-HDV.out,<-up_set]
    exact this
   case measure=>simp[intOf];omega
  ·obtain rfl:j=n:=by omega
   have HE:Hid (IsI wr w.heap.size 2 (up (countsN s))):=by
    have:=IJ.out
    rw[List.take_of_length_le (by rw[HNL.out,HN.out];exact Nat.le_refl _)]at this
    exact this
   go_wp2_with fail
   go_ret
   exact⟨rfl,HE.out,BW.out⟩
def rowT (d:List Nat):Nat->List Int
 |0=>[]
 |k+1=>if 0<d.getD k 0 then rowT d k++[(k:Int),((d.getD k 0:Nat):Int)] else rowT d k
theorem rowT_length (d:List Nat):∀ k,(rowT d k).length<=2*k
 |0=>Nat.le_refl _
 |k+1=>by
  have:=rowT_length d k
  rw[rowT]
  split
  ·rw[List.length_append]
   simp
   omega
  ·omega
theorem rowT_mem (d:List Nat) (m:Nat) (hm:∀ i,d.getD i 0<=m):∀ k x,x∈rowT d k->0<=x/\(x<=k∨x<=m)
 |0,x,h=>absurd h (List.not_mem_nil)
 |k+1,x,h=>by
  rw[rowT]at h
  split at h
  ·rcases List.mem_append.1 h with h|h
   ·have:=rowT_mem d m hm k x h
    omega
   ·have:=hm k
    generalize d.getD k 0=y at h this
    rcases List.mem_cons.1 h with rfl|h
    ·omega
    ·rw[List.mem_singleton.1 h]
     omega
  ·have:=rowT_mem d m hm k x h
   omega
theorem two_newI (W:World) (x y:Int) (t:TypeId):∀ (j:Nat) (u:Value),[Value.int .i64 x,Value.int .i64 y][j]? = some u->(W.alloc (.cells #[.int .i64 x,.int .i64 y] t)).cell? ((⟨W.heap.size,0,none⟩:Addr).add j)=some u:=by
 intro j u hj
 match j,hj with
 |0,hj=>simp at hj;subst hj;simp[Addr.add]
 |1,hj=>simp at hj;subst hj;simp[Addr.add]
theorem table_impl (d:List Nat) (a:Option Addr) (cap n:Nat) (w:World) (h:Ints w w.heap.size a (up d)) (hn:d.length=n) (hn2:n<=257) (hm:∀ i,d.getD i 0<=12) :
  Calls Tryz.prog 102 #[.slice a n cap] w fun e w'=>e=.returned (.string ⟨(numsL (rowT d n)).toArray⟩)/\Below w.heap.size w w':=by
 obtain⟨i0,hi,hz0,hz1,hz2⟩:=info_parts In.Tryz.infoI2
 have HN:=hideP hn
 have HS:=hideP h
 have HM:=hideP hm
 have HRL:=hideP (rowT_length d)
 have HRM:=hideP (rowT_mem d 12 hm)
 clear h hn hm
 go_enter Tryz.func102,Tryz.ntmps102
 go_wp2_with fail
 go_loopw [8,3,4,5] (fun iv tv _ _ wr=>∃ j:Nat,iv=.int .i64 j/\j<=n/\OwnI wr w.heap.size tv (rowT d j)/\Below w.heap.size w wr) (fun iv _ _ _ _=>n-(intOf iv).toNat)
 case atStart=>exact⟨0,rfl,Nat.zero_le _,OwnI.nil _ _,Below.refl _ _⟩
 case round =>
  obtain⟨j,rfl,hj,ho,hbw⟩:=hrel
  have O:=hideP ho
  have BW:=hideP hbw
  have hz:=hbw.size
  clear ho hbw
  by_cases hlt:j<n
  ·have hjd:j<d.length:=by rw[HN.out];exact hlt
   obtain⟨b,off,rfl,hb,hcl⟩:=(HS.out.below BW.out).some (by rw[up_length];omega)
   have ci:=Hf.up_get hcl j hjd
   have hg:d.getD j 0=d[j]:=by rw[List.getD_eq_getElem?_getD,List.getElem?_eq_getElem hjd];rfl
   have hx:=HM.out j
   have HNX:Hid (rowT d (j+1)=if 0<d.getD j 0 then rowT d j++[(j:Int),((d.getD j 0:Nat):Int)] else rowT d j):=rfl
   rw[<-hg]at ci
   have hrl:=HRL.out j
   generalize d.getD j 0=x at ci hx HNX hg
   clear hg hcl hjd
   by_cases h0:0<x
   ·have h0':(0:Int)<x:=by omega
    rw[if_pos h0]at HNX
    go_wp2_with (at_builtin;refine wpList_append_own _ rfl (.tmp 15) (.tmp 18) 114 rfl w.heap.size 2 i0 (.int .i64 0) 1 8 Tryz.underlying114 hi hz0 hz1 hz2 rfl (by decide) _ _ _ rfl (World.ownsRow.alloc O.out _) ⟨wr.heap.size,0,none⟩ 2 2 [.int .i64 (j:Nat),.int .i64 (x:Nat)] rfl rfl (two_newI wr _ _ _) (Hf.two_one rfl rfl) (by unfold maxLen;omega) (by omega) (by simp;omega) ?_)
    intro v3 w3 hown hgrow _
    have O3:Hid (OwnI w3 w.heap.size v3 (rowT d (j+1))):=by
     rw[HNX.out]
     unfold OwnI
     rw[List.length_append,List.map_append]
     exact hown
    have B3:=hideP (In.app_one BW.out hz (Nat.le_refl _) O.out hgrow)
    clear hown hgrow O
    go_wp2_with fail
    go_roundw
    case rel=>exact⟨j+1,by go_num,by omega,O3.out,B3.out⟩
    case measure=>simp[intOf];omega
   ·have h0':x=0:=by omega
    subst h0'
    rw[if_neg h0]at HNX
    go_wp2_with fail
    go_roundw
    case rel=>exact⟨j+1,by go_num,by omega,by rw[HNX.out];exact O.out,BW.out⟩
    case measure=>simp[intOf];omega
  ·obtain rfl:j=n:=by omega
   have hrl:=HRL.out j
   obtain⟨x,c,hv,_,hi2⟩:=O.out.ints
   obtain⟨m,hm⟩:∃ m,m=(rowT d j).length:=⟨_,rfl⟩
   have HJ:=hideP (nums_any (rowT d j) x c m wr hi2 hm.symm (by omega) (fun y hy=>by have:=HRM.out j y hy;omega))
   rw[<-hm]at hv
   subst hv
   clear hi2 hm
   go_wp2_with fail
   refine HJ.out.mono ?_
   rintro e w2 ⟨rfl,hb2⟩
   have B2:=hideP (BW.out.trans (hb2.mono hz))
   clear hb2
   go_wp2_with fail
   go_ret
   exact⟨rfl,B2.out⟩
end Go.Proofs.YtkgjfdanjmnmbaaGreatDoor.Pk


/- Plain mathematics of codes: the codes of lengths, one width behind the other, and that each fits its width. -/
namespace Go.Proofs.YtkgjfdanjmnmbaaGreatDoor.Bi
open Go.RowKit
def cnt (l:List Int) (v:Int):Nat:=l.countP fun x=>decide (x=v)
theorem cnt_snoc (l:List Int) (v x:Int):cnt (l++[x]) v=cnt l v+if x=v then 1 else 0:=by simp[cnt,List.countP_append,List.countP_cons]
theorem cnt_more {l:List Int} {k:Nat} (h:k<l.length) (v:Int):cnt (l.take (k+1)) v=cnt (l.take k) v+if l[k]=v then 1 else 0:=by
 rw[take_more h,cnt_snoc]
theorem cnt_take (l:List Int) (v:Int) (k:Nat):cnt (l.take k) v<=cnt l v:=by
 unfold cnt
 exact List.Sublist.countP_le (List.take_sublist k l)
theorem cnt_here {l:List Int} {k:Nat} {v:Int} (h:k<l.length) (e:l[k]=v):cnt (l.take k) v+1<=cnt l v:=by
 have h1:=cnt_more h v
 rw[if_pos e]at h1
 have h2:=cnt_take l v (k+1)
 omega
def lowP (v:Nat) (x:Int):Nat:=if 0<x/\x<=v then 2 ^ (12-x.toNat) else 0
def low (l:List Int) (v:Nat):Nat:=(l.map (lowP v)).sum
theorem lowP_succ (v:Nat) (x:Int):lowP (v+1) x=lowP v x+(if x=((v+1:Nat):Int) then 1 else 0)*2 ^ (12-(v+1)):=by
 unfold lowP
 by_cases h:x=((v+1:Nat):Int)
 ·rw[if_pos h,if_pos (by omega),if_neg (by omega)]
  subst h
  simp
 ·rw[if_neg h]
  by_cases h2:0<x/\x<=v
  ·rw[if_pos h2,if_pos (by omega)]
   omega
  ·rw[if_neg h2,if_neg (by omega)]
   omega
theorem low_succ (l:List Int) (v:Nat):low l (v+1)=low l v+cnt l ((v+1:Nat):Int)*2 ^ (12-(v+1)):=by
 induction l with
 |nil=>simp[low,cnt]
 |cons x l ih =>
  simp only[low,List.map_cons,List.sum_cons,cnt,List.countP_cons]at ih ⊢
  rw[ih,lowP_succ,Nat.add_mul]
  by_cases h:x=((v+1:Nat):Int)
  ·simp only[h,if_true,decide_true]
   omega
  ·simp only[h,if_false,decide_false,Bool.false_eq_true]
   omega
theorem low_zero (l:List Int):low l 0=0:=by
 induction l with
 |nil=>rfl
 |cons x l ih =>
  simp only[low,List.map_cons,List.sum_cons]at ih ⊢
  rw[ih,lowP,if_neg (by omega)]
theorem low_le (l:List Int) (v:Nat):low l v<=csum l:=by
 induction l with
 |nil=>simp[low]
 |cons x l ih =>
  simp only[low,csum,List.map_cons,List.sum_cons]at ih ⊢
  have:lowP v x<=part x:=by
   unfold lowP part
   generalize 2 ^ (12-x.toNat)=p
   split<;>split<;>omega
  omega
def innN (l:List Int) (v n0 k:Nat):Nat:=n0+cnt (l.take k) v
def outN (l:List Int):Nat->Nat
 |0=>0
 |v+1=>2*outN l v+cnt l ((v+1:Nat):Int)
theorem outN_low (l:List Int):∀ v,v<=12->outN l v*2 ^ (12-v)=low l v:=by
 intro v
 induction v with
 |zero=>intro _;simp[outN,low_zero]
 |succ v ih =>
  intro hv
  rw[low_succ,<-ih (by omega)]
  simp only[outN]
  rw[Nat.add_mul,show 12-v=12-(v+1)+1 by omega,Nat.pow_succ,Nat.mul_comm 2 (outN l v),Nat.mul_assoc,Nat.mul_comm 2]
theorem inn_fits {l:List Int} (hr:csum l<=4096) {v k:Nat} (hv:v<12) (hk:k<l.length) (e:l[k]=((v+1:Nat):Int)):innN l (v+1) (2*outN l v) k<2 ^ (v+1):=by
 have h1:=cnt_here hk e
 have h2:=outN_low l (v+1) (by omega)
 have h3:=low_le l (v+1)
 have h4:(2:Nat) ^ (v+1)*2 ^ (12-(v+1))=4096:=by
  rw[<-Nat.pow_add,show v+1+(12-(v+1))=12 by omega]
 have h5:outN l (v+1)*2 ^ (12-(v+1))<=2 ^ (v+1)*2 ^ (12-(v+1)):=by rw[h2,h4];omega
 have h6:outN l (v+1)<=2 ^ (v+1):=Nat.le_of_mul_le_mul_right h5 (Nat.pow_pos (by decide))
 simp only[outN]at h6
 unfold innN
 omega
theorem out_fits {l:List Int} (hr:csum l<=4096) {v:Nat} (hv:v<=12):outN l v<=2 ^ v:=by
 have h2:=outN_low l v hv
 have h3:=low_le l v
 have h4:(2:Nat) ^ v*2 ^ (12-v)=4096:=by
  rw[<-Nat.pow_add,show v+(12-v)=12 by omega]
 have h5:outN l v*2 ^ (12-v)<=2 ^ v*2 ^ (12-v):=by rw[h2,h4];omega
 exact Nat.le_of_mul_le_mul_right h5 (Nat.pow_pos (by decide))
theorem out_small {l:List Int} (hr:csum l<=4096) {v:Nat} (hv:v<=12):outN l v<=4096:=by
 have h1:=out_fits hr hv
 have h2:=Nat.pow_le_pow_right (n:=2) (by decide) hv
 omega
theorem innN_zero (l:List Int) (v n0:Nat):innN l v n0 0=n0:=by simp[innN,cnt]
theorem innN_yes {l:List Int} {v n0 k:Nat} (h:k<l.length) (e:l[k]=(v:Int)):innN l v n0 (k+1)=innN l v n0 k+1:=by
 unfold innN
 rw[cnt_more h,if_pos e]
 omega
theorem innN_no {l:List Int} {v n0 k:Nat} (h:k<l.length) (e:¬l[k]=(v:Int)):innN l v n0 (k+1)=innN l v n0 k:=by
 unfold innN
 rw[cnt_more h,if_neg e]
 omega
theorem innN_all (l:List Int) (v:Nat):innN l (v+1) (2*outN l v) l.length=outN l (v+1):=by
 unfold innN
 rw[List.take_length]
 rfl
theorem innN_le (l:List Int) (v n0 k:Nat):innN l v n0 k<=n0+l.length:=by
 unfold innN cnt
 have:=List.countP_le_length (p:=fun x=>decide (x=(v:Int))) (l:=l.take k)
 rw[List.length_take]at this
 omega
def innO (l:List Int) (v n0:Nat) (o:List ByteArray):Nat->List ByteArray
 |0=>o
 |k+1=>if l[k]? = some (v:Int) then (innO l v n0 o k).set k (bitsV (innN l v n0 k) v) else innO l v n0 o k
def outO (l:List Int):Nat->List ByteArray
 |0=>List.replicate l.length ⟨#[]⟩
 |v+1=>innO l (v+1) (2*outN l v) (outO l v) l.length
def codesV (l:List Int):List ByteArray:=outO l 12
def codesR (l:List Int):List ByteArray:=if right l=true then codesV l else []
theorem innO_length (l:List Int) (v n0:Nat) (o:List ByteArray):∀ k,(innO l v n0 o k).length=o.length:=by
 intro k
 induction k with
 |zero=>rfl
 |succ k ih =>
  simp only[innO]
  split
  ·rw[List.length_set,ih]
  ·exact ih
theorem outO_length (l:List Int):∀ v,(outO l v).length=l.length:=by
 intro v
 induction v with
 |zero=>simp[outO]
 |succ v ih=>simp only[outO];rw[innO_length,ih]
theorem codesV_length (l:List Int):(codesV l).length=l.length:=outO_length l 12
theorem innO_yes {l:List Int} {v n0 k:Nat} {o:List ByteArray} (h:k<l.length) (e:l[k]=(v:Int)):innO l v n0 o (k+1)=(innO l v n0 o k).set k (bitsV (innN l v n0 k) v):=by
 simp only[innO]
 rw[if_pos (by rw[List.getElem?_eq_getElem h,e])]
theorem innO_no {l:List Int} {v n0 k:Nat} {o:List ByteArray} (h:k<l.length) (e:¬l[k]=(v:Int)):innO l v n0 o (k+1)=innO l v n0 o k:=by
 simp only[innO]
 rw[if_neg (by rw[List.getElem?_eq_getElem h];simp;exact e)]
end Go.Proofs.YtkgjfdanjmnmbaaGreatDoor.Bi


/- Plain mathematics of codes put one behind the other. -/
namespace Go.Proofs.YtkgjfdanjmnmbaaGreatDoor.Bi
open Go.RowKit
open Sh (bt strF)
theorem innO_get (l:List Int) (v n0:Nat) (o:List ByteArray) (i:Nat) (hi:i<l.length) (ho:o.length=l.length):∀ k,k<=l.length ->
  (innO l v n0 o k)[i]? = if i<k/\l[i]=(v:Int) then some (bitsV (innN l v n0 i) v) else o[i]?:=by
 intro k
 induction k with
 |zero=>intro _;simp[innO]
 |succ k ih =>
  intro hk
  by_cases e:l[k]=(v:Int)
  ·rw[innO_yes (by omega) e,List.getElem?_set]
   by_cases hik:k=i
   ·subst hik
    rw[if_pos rfl,if_pos (by rw[innO_length,ho];exact hi),if_pos ⟨by omega,e⟩]
   ·rw[if_neg hik,ih (by omega)]
    have:(i<k+1/\l[i]=(v:Int))=(i<k/\l[i]=(v:Int)):=propext ⟨fun h=>⟨by omega,h.2⟩,fun h=>⟨by omega,h.2⟩⟩
    simp only[this]
  ·rw[innO_no (by omega) e,ih (by omega)]
   by_cases hik:k=i
   ·subst hik
    rw[if_neg (fun h=>e h.2),if_neg (fun h=>e h.2)]
   ·have:(i<k+1/\l[i]=(v:Int))=(i<k/\l[i]=(v:Int)):=propext ⟨fun h=>⟨by omega,h.2⟩,fun h=>⟨by omega,h.2⟩⟩
    simp only[this]
def cnum (l:List Int) (i:Nat):Nat:=innN l (l.getD i 0).toNat (2*outN l ((l.getD i 0).toNat-1)) i
def codeOf (l:List Int) (i:Nat):ByteArray:=if 0<l.getD i 0 then bitsV (cnum l i) (l.getD i 0).toNat else ⟨#[]⟩
theorem outO_get (l:List Int) (i:Nat) (hi:i<l.length):∀ v,v<=12->(outO l v)[i]? = some (if 0<l[i]/\l[i]<=(v:Int) then codeOf l i else ⟨#[]⟩):=by
 have hg:l.getD i 0=l[i]:=by rw[List.getD_eq_getElem?_getD,List.getElem?_eq_getElem hi];rfl
 intro v
 induction v with
 |zero =>
  intro _
  rw[if_neg (by omega)]
  simp[outO,hi]
 |succ v ih =>
  intro hv
  simp only[outO]
  rw[innO_get l (v+1) _ _ i hi (outO_length l v) l.length (Nat.le_refl _),ih (by omega)]
  by_cases e:l[i]=((v+1:Nat):Int)
  ·rw[if_pos ⟨hi,e⟩,if_pos (by omega)]
   unfold codeOf cnum
   rw[hg,if_pos (by omega),e]
   simp
  ·rw[if_neg (fun h=>e h.2)]
   have:(0<l[i]/\l[i]<=((v+1:Nat):Int))=(0<l[i]/\l[i]<=(v:Int)):=propext ⟨fun h=>⟨h.1,by omega⟩,fun h=>⟨h.1,by omega⟩⟩
   simp only[this]
theorem codes_get (l:List Int) (h:∀ x∈l,0<=x/\x<=12) (i:Nat) (hi:i<(codesV l).length):(codesV l)[i]=codeOf l i:=by
 have hi':i<l.length:=by rw[codesV_length]at hi;exact hi
 have h1:=outO_get l i hi' 12 (Nat.le_refl _)
 have h2:=h _ (List.getElem_mem hi')
 have hg:l.getD i 0=l[i]:=by rw[List.getD_eq_getElem?_getD,List.getElem?_eq_getElem hi'];rfl
 have h3:(codesV l)[i]? = some (codesV l)[i]:=List.getElem?_eq_getElem hi
 have h4:(codesV l)[i]? = (outO l 12)[i]?:=rfl
 rw[h3,h1]at h4
 have h5:=Option.some.inj h4
 rw[h5]
 by_cases hp:0<l[i]
 ·rw[if_pos ⟨hp,by omega⟩]
 ·rw[if_neg (fun x=>hp x.1)]
  unfold codeOf
  rw[hg,if_neg hp]
theorem codeOf_size (l:List Int) (i:Nat):(codeOf l i).size=(l.getD i 0).toNat:=by
 unfold codeOf
 split
 ·exact bitsV_size _ _
 ·have:(l.getD i 0).toNat=0:=by omega
  rw[this]
  rfl
theorem codeOf_le (l:List Int) (h:∀ x∈l,0<=x/\x<=12) (i:Nat):(codeOf l i).size<=12:=by
 rw[codeOf_size]
 by_cases hi:i<l.length
 ·have hg:l.getD i 0=l[i]:=by rw[List.getD_eq_getElem?_getD,List.getElem?_eq_getElem hi];rfl
  have:=h _ (List.getElem_mem hi)
  rw[hg]
  omega
 ·rw[List.getD_eq_getElem?_getD,List.getElem?_eq_none (by omega)]
  decide
theorem codeOf_none (l:List Int) (i:Nat) (h:¬0<l.getD i 0):codeOf l i=⟨#[]⟩:=if_neg h
def okS (l:List Int) (x:Int):Prop:=0<=x/\x<l.length/\0<l.getD x.toNat 0
instance (l:List Int) (x:Int):Decidable (okS l x):=inferInstanceAs (Decidable (_/\_/\_))
def putL (l:List Int) (s:List Int):List UInt8:=s.flatMap fun x=>(codeOf l x.toNat).data.toList
def putR (l s:List Int):ByteArray:=if 400<s.length∨whole l=false∨¬(∀ x∈s,okS l x) then ⟨#[]⟩ else ⟨(putL l s).toArray⟩
theorem putR_no {l s:List Int} (h:400<s.length∨whole l=false):putR l s=⟨#[]⟩:=if_pos (by rcases h with h|h;exact Or.inl h;exact Or.inr (Or.inl h))
theorem putR_bad {l s:List Int} {j:Nat} (hj:j<s.length) (h:¬okS l s[j]):putR l s=⟨#[]⟩:=if_pos (Or.inr (Or.inr fun g=>h (g _ (List.getElem_mem hj))))
theorem putR_yes {l s:List Int} (h1:¬400<s.length) (h2:whole l=true) (h3:∀ x∈s,okS l x):putR l s=⟨(putL l s).toArray⟩:=if_neg (by
 rintro (h|h|h)
 ·exact h1 h
 ·rw[h2]at h;cases h
 ·exact h h3)
theorem putL_snoc (l s:List Int) (x:Int):putL l (s++[x])=putL l s++(codeOf l x.toNat).data.toList:=by simp[putL]
theorem putL_more {l s:List Int} {k:Nat} (h:k<s.length):putL l (s.take (k+1))=putL l (s.take k)++(codeOf l s[k].toNat).data.toList:=by
 rw[take_more h,putL_snoc]
theorem putL_le (l:List Int) (h:∀ x∈l,0<=x/\x<=12) (s:List Int):(putL l s).length<=12*s.length:=by
 induction s with
 |nil=>simp[putL]
 |cons x s ih =>
  have h1:=codeOf_le l h x.toNat
  have h2:(codeOf l x.toNat).data.toList.length=(codeOf l x.toNat).size:=by simp
  simp only[putL,List.flatMap_cons,List.length_append,List.length_cons]at ih ⊢
  omega
theorem whole_right {l:List Int} (h:whole l=true):right l=true:=by
 unfold whole at h
 rw[Bool.and_eq_true]at h
 exact h.1
theorem whole_ok {l:List Int} (h:whole l=true):∀ x∈l,0<=x/\x<=12:=(within_yes (right_yes (whole_right h)).1).2
theorem whole_len {l:List Int} (h:whole l=true):l.length<=257:=(within_yes (right_yes (whole_right h)).1).1
end Go.Proofs.YtkgjfdanjmnmbaaGreatDoor.Bi


/- Plain mathematics of bits in bytes: eight bits a byte, the first one highest. -/
namespace Go.Proofs.YtkgjfdanjmnmbaaGreatDoor.Bi
open Go.RowKit
open Sh
def good (t:ByteArray):Bool:=decide (∀ j,j<t.size->bt t j=48∨bt t j=49)
theorem good_yes {t:ByteArray} (h:good t=true):∀ j,j<t.size->bt t j=48∨bt t j=49:=of_decide_eq_true h
theorem good_of {t:ByteArray} (h:∀ j,j<t.size->bt t j=48∨bt t j=49):good t=true:=decide_eq_true h
theorem good_not {t:ByteArray} {j:Nat} (h:j<t.size) (h1:bt t j≠48) (h2:bt t j≠49):good t=false:=decide_eq_false fun g=>by
 rcases g j h with e|e
 ·exact h1 e
 ·exact h2 e
def one (t:ByteArray) (i:Nat):Nat:=if i<t.size/\bt t i=49 then 1 else 0
def pk (t:ByteArray) (q:Nat):Nat->Nat
 |0=>0
 |r+1=>pk t q r+one t (8*q+r)*2 ^ (7-r)
theorem one_le (t:ByteArray) (i:Nat):one t i<=1:=by unfold one;split<;>omega
theorem pk_mul (t:ByteArray) (q:Nat):∀ r,r<=8->∃ n,pk t q r=n*2 ^ (8-r)/\n<2 ^ r:=by
 intro r
 induction r with
 |zero=>intro _;exact⟨0,by simp[pk],by decide⟩
 |succ r ih =>
  intro hr
  obtain⟨n,h1,h2⟩:=ih (by omega)
  have h3:=one_le t (8*q+r)
  refine⟨2*n+one t (8*q+r),?_,by rw[Nat.pow_succ];omega⟩
  have e:8-r=7-r+1:=by omega
  have e2:8-(r+1)=7-r:=by omega
  simp only[pk]
  rw[h1,e,Nat.pow_succ,e2,Nat.add_mul,Nat.mul_comm (2 ^ (7-r)) 2,<-Nat.mul_assoc,Nat.mul_comm n 2]
theorem pk_lt (t:ByteArray) (q r:Nat) (hr:r<=8):pk t q r<256:=by
 obtain⟨n,h1,h2⟩:=pk_mul t q r hr
 rw[h1]
 have h3:n*2 ^ (8-r)<2 ^ r*2 ^ (8-r):=Nat.mul_lt_mul_of_pos_right h2 (Nat.pow_pos (by decide))
 rw[<-Nat.pow_add,show r+(8-r)=8 by omega]at h3
 omega
def packV (t:ByteArray):ByteArray:=strF ((t.size+7)/8) (fun q=>pk t q 8)
def packR (t:ByteArray):ByteArray:=if 8000<t.size∨good t=false then ⟨#[]⟩ else packV t
theorem packR_no (t:ByteArray) (h:8000<t.size∨good t=false):packR t=⟨#[]⟩:=if_pos h
theorem packR_yes (t:ByteArray) (h:¬8000<t.size) (h2:good t=true):packR t=packV t:=if_neg (by rw[h2];simp;omega)
def pkK (t:ByteArray) (k q:Nat):Nat:=pk t q (min 8 (k-8*q))
theorem pkK_lt (t:ByteArray) (k q:Nat):pkK t k q<256:=pk_lt t q _ (Nat.min_le_left _ _)
theorem pkK_zero (t:ByteArray) (q:Nat):pkK t 0 q=0:=by simp[pkK,pk]
theorem pkK_other (t:ByteArray) (k q:Nat) (h:q≠k/8):pkK t (k+1) q=pkK t k q:=by
 unfold pkK
 congr 1
 omega
theorem pkK_here (t:ByteArray) (k:Nat):pkK t k (k/8)=pk t (k/8) (k%8):=by
 unfold pkK
 congr 1
 omega
theorem pkK_next (t:ByteArray) (k:Nat):pkK t (k+1) (k/8)=pk t (k/8) (k%8)+one t k*2 ^ (7-k%8):=by
 have e:min 8 (k+1-8*(k/8))=k%8+1:=by omega
 unfold pkK
 rw[e]
 simp only[pk]
 rw[show 8*(k/8)+k%8=k by omega]
theorem pkK_set (t:ByteArray) (k q:Nat) (v:Int) (h:one t k=1) (hv:v=((pk t (k/8) (k%8)+2 ^ (7-k%8):Nat):Int)):upd (fun j=>((pkK t k j:Nat):Int)) (k/8) v q=(pkK t (k+1) q:Nat):=by
 subst hv
 unfold upd
 by_cases e:q=k/8
 ·subst e
  rw[if_pos rfl,pkK_next,h,Nat.one_mul]
 ·rw[if_neg e,pkK_other t k q e]
theorem pkK_skip (t:ByteArray) (k q:Nat) (h:one t k=0):((pkK t k q:Nat):Int)=(pkK t (k+1) q:Nat):=by
 by_cases e:q=k/8
 ·subst e
  rw[pkK_next,h,Nat.zero_mul,pkK_here]
  rfl
 ·rw[pkK_other t k q e]
theorem one_behind (t:ByteArray) (i:Nat) (h:t.size<=i):one t i=0:=by unfold one;rw[if_neg (by omega)]
theorem pk_behind (t:ByteArray) (q r:Nat) (h:t.size<=8*q+r):∀ d,pk t q (r+d)=pk t q r:=by
 intro d
 induction d with
 |zero=>rfl
 |succ d ih =>
  rw[<-Nat.add_assoc]
  simp only[pk]
  rw[one_behind t _ (by omega),ih]
  omega
theorem pkK_all (t:ByteArray) (q:Nat):pkK t t.size q=pk t q 8:=by
 unfold pkK
 by_cases e:8<=t.size-8*q
 ·rw[Nat.min_eq_left e]
 ·have e2:min 8 (t.size-8*q)=t.size-8*q:=Nat.min_eq_right (by omega)
  rw[e2]
  have:=pk_behind t q (t.size-8*q) (by omega) (8-(t.size-8*q))
  rw[show t.size-8*q+(8-(t.size-8*q))=8 by omega]at this
  exact this.symm
theorem pack_all (t:ByteArray):strF ((t.size+7)/8) (fun q=>pkK t t.size q)=packV t:=strF_congr _ _ _ fun q _=>pkK_all t q
theorem pk_or (t:ByteArray) (q r:Nat) (h:r<8):bits BinOp.or IntKind.u8 ((pk t q r:Nat):Int) ((2 ^ (7-r):Nat):Int)=((pk t q r+2 ^ (7-r):Nat):Int):=by
 obtain⟨n,h1,h2⟩:=pk_mul t q r (by omega)
 have h3:=pk_lt t q r (by omega)
 have h4:2 ^ (7-r)<256:=by
  have:=Nat.pow_le_pow_right (n:=2) (by decide) (show 7-r<=7 by omega)
  omega
 rw[u8_or_nat _ _ h3 h4]
 rw[nat_join (8-r) (pk t q r) (2 ^ (7-r)) (by rw[h1];exact Nat.mul_mod_left _ _) (by
  have e:8-r=7-r+1:=by omega
  rw[e,Nat.pow_succ]
  have:=Nat.pow_pos (n:=7-r) (a:=2) (by decide)
  omega)]
def hd (t:ByteArray) (q:Nat):Nat->Nat
 |0=>0
 |r+1=>2*hd t q r+one t (8*q+r)
theorem hd_pk (t:ByteArray) (q:Nat):∀ r,r<=8->pk t q r=hd t q r*2 ^ (8-r):=by
 intro r
 induction r with
 |zero=>intro _;simp[pk,hd]
 |succ r ih =>
  intro hr
  simp only[pk,hd]
  rw[ih (by omega),show 8-r=7-r+1 by omega,Nat.pow_succ,show 8-(r+1)=7-r by omega,Nat.add_mul,Nat.mul_comm (2 ^ (7-r)) 2,<-Nat.mul_assoc,Nat.mul_comm (hd t q r) 2]
theorem hd_all (t:ByteArray) (q:Nat):hd t q 8=pk t q 8:=by
 have:=hd_pk t q 8 (Nat.le_refl _)
 simpa using this.symm
theorem hd_lt (t:ByteArray) (q:Nat):∀ r,hd t q r<2 ^ r:=by
 intro r
 induction r with
 |zero=>exact Nat.lt_succ_self 0
 |succ r ih =>
  have:=one_le t (8*q+r)
  simp only[hd]
  rw[Nat.pow_succ]
  omega
theorem hd_le (t:ByteArray) (q r:Nat) (h:r<=8):hd t q r<256:=by
 have h1:=hd_lt t q r
 have h2:=Nat.pow_le_pow_right (n:=2) (by decide) h
 omega
def openV (t:ByteArray) (m:Nat):ByteArray:=strF m (fun i=>bitB (bt t (i/8)) (7-i%8))
def openR (t:ByteArray) (m:Int):ByteArray:=if 8000<t.size∨m<0∨8*(t.size:Int)<m then ⟨#[]⟩ else openV t m.toNat
theorem openR_no (t:ByteArray) (m:Int) (h:8000<t.size∨m<0∨8*(t.size:Int)<m):openR t m=⟨#[]⟩:=if_pos h
theorem openR_yes (t:ByteArray) (m:Nat) (h:¬8000<t.size) (h2:m<=8*t.size):openR t m=openV t m:=by
 unfold openR
 rw[if_neg (by omega)]
 rfl
def opK (t:ByteArray) (k i:Nat):Nat:=if i<k then bitB (bt t (i/8)) (7-i%8) else 0
theorem opK_zero (t:ByteArray) (j:Nat):opK t 0 j=0:=by simp[opK]
theorem opK_next (t:ByteArray) (k j:Nat) (v:Int) (hv:v=(bitB (bt t (k/8)) (7-k%8):Nat)):upd (fun j=>((opK t k j:Nat):Int)) k v j=(opK t (k+1) j:Nat):=by
 subst hv
 unfold upd opK
 by_cases e:j=k
 ·subst e;simp
 ·have:(j<k+1)=(j<k):=propext ⟨fun h=>by omega,fun h=>by omega⟩
  simp only[e,this,if_false]
theorem opK_all (t:ByteArray) (m:Nat):strF m (fun j=>opK t m j)=openV t m:=strF_congr _ _ _ fun j hj=>by simp[opK,hj]
theorem opK_lt (t:ByteArray) (k j:Nat):opK t k j<256:=by
 unfold opK
 have:=bitB_lt (bt t (j/8)) (7-j%8)
 split<;>omega
end Go.Proofs.YtkgjfdanjmnmbaaGreatDoor.Bi

