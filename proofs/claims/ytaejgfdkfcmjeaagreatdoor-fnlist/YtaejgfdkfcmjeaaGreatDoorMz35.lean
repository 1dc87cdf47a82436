import Derived.Test.YtaejgfdkfcmjeaaGreatDoorMz34
set_option maxRecDepth 100000
set_option maxHeartbeats 8000000
namespace Go.Proofs.YtaejgfdkfcmjeaaGreatDoor
open Go.RowKit
open Go.Proofs.Tryz
namespace Hf
open Bi (csum above part whole right within within_of csum_snoc above_snoc)
def kr (K:Nat) (d s:List Nat):Nat:=(s.map fun k=>2 ^ (K-dep d k)).sum
theorem kr_append (K:Nat) (d s t:List Nat):kr K d (s++t)=kr K d s+kr K d t:=by
 unfold kr;rw[List.map_append,List.sum_append]
theorem kr_perm (K:Nat) (d:List Nat) {s t:List Nat} (p:s.Perm t):kr K d s=kr K d t:=(p.map _).sum_nat
theorem kr_congr (K:Nat) (d d' s:List Nat) (h:∀ k∈s,dep d' k=dep d k):kr K d' s=kr K d s:=by
 unfold kr;rw[List.map_congr_left fun k hk=>by rw[h k hk]]
theorem kr_up (K:Nat) (d d' s:List Nat) (h:∀ k∈s,dep d' k=dep d k+1/\dep d k+1<=K):2*kr K d' s=kr K d s:=by
 induction s with
 |nil=>rfl
 |cons k s ih =>
  have h1:=ih fun x hx=>h x (List.mem_cons_of_mem _ hx);obtain⟨h2,h3⟩:=h k (List.mem_cons_self ..);unfold kr at h1 ⊢;rw[List.map_cons,List.sum_cons,List.map_cons,List.sum_cons,Nat.mul_add,h1,h2]
  have:2*2 ^ (K-(dep d k+1))=2 ^ (K-dep d k):=by
   rw[show K-dep d k=(K-(dep d k+1))+1 by omega,Nat.pow_succ];omega
  rw[this]
def KrInv (K:Nat) (l:List Tree) (d:List Nat):Prop:=∀ t∈l,kr K d t.2=2 ^ K
def alls (l:List Tree):List Nat:=l.flatMap fun t=>t.2
theorem alls_perm {l l':List Tree} (p:l.Perm l'):(alls l).Perm (alls l'):=p.flatMap_right _
theorem alls_join (l:List Tree) (h:2<=l.length):(alls (join l)).Perm (alls l):=by
 have e:alls (both l :: rest2 l)=alls (first l :: second l :: rest2 l):=by
  unfold alls both;rw[List.flatMap_cons,List.flatMap_cons,List.flatMap_cons,List.append_assoc]
 exact(alls_perm (join_perm l)).trans (e ▸ (alls_perm (two_perm l h)).symm)
theorem dep_join {l:List Tree} {d:List Nat} {n:Nat} (h:Inv l d n) (h2:2<=l.length) (s:Nat):dep (incs (incs d (first l).2) (second l).2) s=if s∈(first l).2++(second l).2 then dep d s+1 else dep d s:=by
 have h':=h.perm (two_perm l h2);obtain⟨pa,_⟩:=List.pairwise_cons.1 h'.pw;exact two_dep d _ _ (h'.nd _ (List.mem_cons_self ..)) (h'.nd _ (List.mem_cons_of_mem _ (List.mem_cons_self ..))) (pa _ (List.mem_cons_self ..)).2.2 (h'.lt _ (List.mem_cons_self ..)) (h'.lt _ (List.mem_cons_of_mem _ (List.mem_cons_self ..))) s
theorem KrInv.join {K:Nat} {l:List Tree} {d:List Nat} {n:Nat} (hk:KrInv K l d) (h:Inv l d n) (h2:2<=l.length) (hn:n<=K):KrInv K (join l) (incs (incs d (first l).2) (second l).2):=by
 have hd:=dep_join h h2;have hj:=h.join h2;have hp:=two_perm l h2;have h':=h.perm hp;obtain⟨pa,pb'⟩:=List.pairwise_cons.1 h'.pw;obtain⟨pb,_⟩:=List.pairwise_cons.1 pb'
 have hup:∀ s,s∈(first l).2++(second l).2->dep (incs (incs d (first l).2) (second l).2) s=dep d s+1/\dep d s+1<=K:=by
  intro s hs;have e:=hd s;rw[if_pos hs]at e;refine⟨e,?_⟩
  have:=hj.small s
  unfold dep at e ⊢;omega
 intro t ht
 rcases List.mem_cons.1 ((join_perm l).mem_iff.1 ht) with rfl|hr
 ·have h3:=kr_up K d _ (first l).2 fun k hk=>hup k (List.mem_append_left _ hk)
  have h4:=kr_up K d _ (second l).2 fun k hk=>hup k (List.mem_append_right _ hk);rw[hk _ (hp.mem_iff.2 (List.mem_cons_self ..))]at h3;rw[hk _ (hp.mem_iff.2 (List.mem_cons_of_mem _ (List.mem_cons_self ..)))]at h4
  show kr K _ ((first l).2++(second l).2)=_
  rw[kr_append];omega
 ·rw[kr_congr K d _ t.2 fun k hk=>?_]
  ·exact hk t (hp.mem_iff.2 (List.mem_cons_of_mem _ (List.mem_cons_of_mem _ hr)))
  ·rw[hd,if_neg]
   intro hx
   rcases List.mem_append.1 hx with hx|hx
   ·exact(pa t (List.mem_cons_of_mem _ hr)).2.2 k hx hk
   ·exact(pb t hr).2.2 k hx hk
theorem run_kraft {K:Nat} (f:Nat):∀ (l:List Tree) (d:List Nat) (n:Nat),Inv l d n->n<=K->l.length<=f->0<l.length->KrInv K l d->kr K (run f l d) (alls l)=2 ^ K:=by
 induction f with
 |zero=>intro l d n _ _ h1 h2;omega
 |succ f ih =>
  intro l d n h hn hf h0 hk;rw[run];by_cases h1:l.length<=1
  ·rw[if_pos h1]
   obtain⟨t,rfl⟩:=List.length_eq_one_iff.1 (show l.length=1 by omega)
   have:=hk t (List.mem_singleton.2 rfl)
   unfold alls;rw[List.flatMap_cons,List.flatMap_nil,List.append_nil];exact this
  ·rw[if_neg h1]
   have hjl:=join_length l (by omega);rw[<-kr_perm K _ (alls_join l (by omega))];exact ih (join l) _ n (h.join (by omega)) hn (by omega) (by omega) (hk.join h (by omega) hn)
theorem run_out (f:Nat):∀ (l:List Tree) (d:List Nat) (n s:Nat),Inv l d n->s ∉ alls l->dep (run f l d) s=dep d s:=by
 induction f with
 |zero=>intro l d n s _ _;rfl
 |succ f ih =>
  intro l d n s h hs;rw[run];by_cases h1:l.length<=1
  ·rw[if_pos h1]
  ·rw[if_neg h1,ih (join l) _ n s (h.join (by omega)) (fun hx=>hs ((alls_join l (by omega)).mem_iff.1 hx)),dep_join h (by omega),if_neg]
   intro hx;refine hs ((alls_perm (two_perm l (by omega))).mem_iff.2 ?_);unfold alls;rw[List.flatMap_cons,List.flatMap_cons]
   rcases List.mem_append.1 hx with hx|hx
   ·exact List.mem_append_left _ hx
   ·exact List.mem_append_right _ (List.mem_append_left _ hx)
def syms (c:List Nat) (n:Nat):List Nat:=(List.range n).filter fun i=>decide (0<c.getD i 0)
theorem syms_succ (c:List Nat) (n:Nat):syms c (n+1)=if 0<c.getD n 0 then syms c n++[n] else syms c n:=by
 unfold syms;rw[List.range_succ,List.filter_append,List.filter_cons,List.filter_nil];by_cases h:0<c.getD n 0
 ·rw[if_pos h,if_pos (decide_eq_true h)]
 ·rw[if_neg h,if_neg (by simpa using h),List.append_nil]
theorem alls_trees (c:List Nat):∀ n,alls (trees c n)=syms c n
 |0=>rfl
 |n+1=>by
  have ih:=alls_trees c n;rw[syms_succ,trees]
  split
  ·unfold alls at ih ⊢
   rw[List.flatMap_append,ih];rfl
  ·exact ih
theorem trees_syms (c:List Nat):∀ n,(trees c n).length=(syms c n).length
 |0=>rfl
 |n+1=>by
  have ih:=trees_syms c n;rw[syms_succ,trees]
  split
  ·rw[List.length_append,List.length_append,ih]
   rfl
  ·exact ih
theorem mem_syms {c:List Nat} {n i:Nat}:i∈syms c n↔i<n/\0<c.getD i 0:=by
 unfold syms;rw[List.mem_filter,List.mem_range,decide_eq_true_eq]
theorem kr_pos (K:Nat) (d:List Nat) (s:List Nat) (h:0<s.length):0<kr K d s:=by
 cases s with
 |nil=>exact absurd h (by decide)
 |cons k s =>
  unfold kr;rw[List.map_cons,List.sum_cons]
  have:=Nat.two_pow_pos (K-dep d k)
  omega
theorem kr_shift (K:Nat) (d s:List Nat) (hK:12<=K) (h:∀ k∈s,dep d k<=12):kr K d s=2 ^ (K-12)*kr 12 d s:=by
 unfold kr
 induction s with
 |nil=>rfl
 |cons k s ih =>
  have h1:=h k (List.mem_cons_self ..);rw[List.map_cons,List.sum_cons,List.map_cons,List.sum_cons,ih (fun x hx=>h x (List.mem_cons_of_mem _ hx)),Nat.mul_add,<-Nat.pow_add,show K-12+(12-dep d k)=K-dep d k by omega]
theorem dep_okay {D:List Nat} (h:okay D=true) (i:Nat):dep D i<=12:=by
 unfold okay at h;rw[List.all_eq_true]at h;unfold dep;by_cases hi:i<D.length
 ·rw[List.getD_eq_getElem?_getD,List.getElem?_eq_getElem hi]
  exact of_decide_eq_true (h _ (List.getElem_mem hi))
 ·rw[List.getD_eq_getElem?_getD,List.getElem?_eq_none (by omega)]
  exact Nat.zero_le _
theorem depths_two (c:List Nat) (h2:2<=(syms c c.length).length) (ho:okay (depths c)=true):(∀ i,0<dep (depths c) i↔i∈syms c c.length)/\kr 12 (depths c) (syms c c.length)=4096:=by
 have hinv:=trees_inv c c.length nl;rw[List.take_length]at hinv;have hl:=trees_syms c c.length
 have hD:depths c=run (trees c c.length).length (trees c c.length) (zeros c.length):=by
  unfold depths;rw[if_neg (by omega)]
 have hK:KrInv (c.sum+12) (trees c c.length) (zeros c.length):=by
  intro t ht;obtain⟨j,_,_,rfl⟩:=trees_mem c c.length t ht;unfold kr;simp[dep_zeros]
 have hkr:=run_kraft (K:=c.sum+12) _ (trees c c.length) (zeros c.length) c.sum hinv (by omega) nl (by omega) hK;rw[alls_trees,<-hD]at hkr;refine⟨fun i=>⟨fun hi=>?_,fun hi=>?_⟩,?_⟩
 ·refine Classical.byContradiction fun hn=>?_
  have:=run_out (trees c c.length).length (trees c c.length) (zeros c.length) c.sum i hinv (by rw[alls_trees];exact hn)
  rw[<-hD,dep_zeros]at this;omega
 ·refine Nat.pos_of_ne_zero fun h0=>?_
  have hp:=List.perm_cons_erase hi;rw[kr_perm _ _ hp]at hkr
  have hp2:=kr_pos (c.sum+12) (depths c) ((syms c c.length).erase i) (by
   have:=hp.length_eq
   rw[List.length_cons]at this
   omega)
  unfold kr at hkr hp2;rw[List.map_cons,List.sum_cons,h0,Nat.sub_zero]at hkr;omega
 ·have hs:=kr_shift (c.sum+12) (depths c) (syms c c.length) (by omega) fun k _=>dep_okay ho k
  rw[hkr,Nat.pow_add,Nat.add_sub_cancel]at hs
  have:=Nat.eq_of_mul_eq_mul_left (Nat.two_pow_pos c.sum) hs
  rw[<-this]
theorem sums_syms (D:List Nat) (S:Nat->Bool) (h:∀ i,i<D.length->(S i=true↔0<dep D i)):∀ k,k<=D.length->csum (up (D.take k))=kr 12 D ((List.range k).filter S)/\above (up (D.take k))=((List.range k).filter S).length
 |0,_=>⟨rfl,rfl⟩
 |k+1,hk=>by
  obtain⟨h1,h2⟩:=sums_syms D S h k (by omega)
  have hd:dep D k=D[k]:=by
   unfold dep;rw[List.getD_eq_getElem?_getD,List.getElem?_eq_getElem (by omega)];rfl
  have e:up (D.take (k+1))=up (D.take k)++[((D[k]:Nat):Int)]:=by
   rw[List.take_add_one,List.getElem?_eq_getElem (by omega)];unfold up;rw[List.map_append];rfl
  rw[e,csum_snoc,above_snoc,h1,h2,List.range_succ,List.filter_append,kr_append,List.length_append,List.filter_cons,List.filter_nil];have hi:=h k (by omega);rw[hd]at hi;by_cases hp:0<D[k]
  ·rw[if_pos (hi.2 hp)]
   unfold Bi.part kr;rw[if_pos (by omega),if_pos (by omega),List.map_cons,List.map_nil,List.sum_cons,List.sum_nil,hd];exact⟨rfl,rfl⟩
  ·rw[if_neg (fun hx=>hp (hi.1 hx))]
   unfold Bi.part;rw[if_neg (by omega),if_neg (by omega)];exact⟨rfl,rfl⟩
theorem syms_all (c:List Nat) (D:List Nat) (hl:D.length=c.length) (h:∀ i,0<dep D i↔i∈syms c c.length):csum (up D)=kr 12 D (syms c c.length)/\above (up D)=(syms c c.length).length:=by
 have:=sums_syms D (fun i=>decide (0<c.getD i 0)) (fun i hi=>by
  rw[decide_eq_true_eq,h i,mem_syms]
  exact⟨fun x=>⟨by omega,x⟩,fun x=>x.2⟩) D.length nl
 rw[List.take_length,hl]at this;exact this
theorem depths_one (c:List Nat) (h1:(syms c c.length).length=1):(∀ i,0<dep (depths c) i↔i∈syms c c.length)/\kr 12 (depths c) (syms c c.length)=2048:=by
 have hl:=trees_syms c c.length;obtain⟨t,ht⟩:=List.length_eq_one_iff.1 (hl.trans h1);obtain⟨j,hj,hc,hte⟩:=trees_mem c c.length t (by rw[ht];exact List.mem_singleton.2 rfl)
 have hs:syms c c.length=[j]:=by
  rw[<-alls_trees,ht,hte];rfl
 have hD:depths c=(zeros c.length).set j 1:=by
  unfold depths;rw[if_pos (by omega),ht,hte];rfl
 have hd:∀ i,dep (depths c) i=if i=j then 1 else 0:=by
  intro i;rw[hD];unfold dep;rw[getD_set _ _ _ _ (by unfold zeros;rw[List.length_replicate];exact hj)]
  split
  ·rfl
  ·exact dep_zeros _ _
 rw[hs];refine⟨fun i=>?_,?_⟩
 ·rw[hd i,List.mem_singleton]
  split<;>rename_i e<;>simp[e]
 ·unfold kr
  rw[List.map_cons,List.map_nil,List.sum_cons,List.sum_nil,hd j,if_pos rfl];rfl
theorem depths_none (c:List Nat) (h0:(syms c c.length).length=0):∀ i,0<dep (depths c) i↔i∈syms c c.length:=by
 have hl:=trees_syms c c.length;have hs:=List.eq_nil_of_length_eq_zero h0;have ht:trees c c.length=[]:=List.eq_nil_of_length_eq_zero (hl.trans h0);intro i;rw[hs];unfold depths;rw[ht,if_neg (by decide)]
 have:run ([]:List Tree).length [] (zeros c.length)=zeros c.length:=rfl
 rw[this,dep_zeros];simp
theorem whole_depths (c:List Nat) (hl:c.length<=257) (ho:okay (depths c)=true):(∀ i,0<dep (depths c) i↔i∈syms c c.length)/\(0<(syms c c.length).length->whole (up (depths c))=true):=by
 have hw:within (up (depths c)) 12=true:=by rw[within_okay _ (by rw[depths_length];exact hl)];exact ho
 by_cases h0:(syms c c.length).length=0
 ·exact⟨depths_none c h0,fun h=>by omega⟩
 ·by_cases h1:(syms c c.length).length=1
  ·obtain⟨ha,hb⟩:=depths_one c h1
   obtain⟨hc,hd⟩:=syms_all c (depths c) (depths_length c) ha;refine⟨ha,fun _=>?_⟩;unfold whole right;rw[hw,hc,hb,hd,h1];rfl
  ·obtain⟨ha,hb⟩:=depths_two c (by omega) ho
   obtain⟨hc,hd⟩:=syms_all c (depths c) (depths_length c) ha;refine⟨ha,fun _=>?_⟩;unfold whole right;rw[hw,hc,hb];rfl
theorem syms_flat (c:List Nat) (n:Nat):syms (flat c) n=syms c n:=by
 unfold syms
 congr 1
 funext i
 have:(flat c).getD i 0=if 0<c.getD i 0 then c.getD i 0/2+1 else 0:=by
  unfold flat;rw[List.getD_eq_getElem?_getD,List.getElem?_map,List.getD_eq_getElem?_getD]
  cases c[i]? with
  |none=>rfl
  |some x=>rfl
 rw[this];by_cases h:0<c.getD i 0
 ·rw[if_pos h,decide_eq_true h,decide_eq_true (by omega)]
 ·rw[if_neg h,decide_eq_false h]
  rfl
theorem lenOf_facts (c:List Nat) (hl:c.length<=257):(lenOf c).length=c.length/\(∀ i,dep (lenOf c) i<=12)/\(∀ i,0<dep (lenOf c) i↔i∈syms c c.length)/\(0<(syms c c.length).length->whole (up (lenOf c))=true):=by
 obtain⟨k,hk⟩:∃ k,c.sum=k:=⟨_,rfl⟩
 induction k using Nat.strongRecOn generalizing c with
 |_ k ih =>
  by_cases ho:okay (depths c)=true
  ·rw[lenOf_yes c ho]
   exact⟨depths_length c,dep_okay ho,whole_depths c hl ho⟩
  ·have hlt:=flat_more c hl ho
   rw[lenOf_no c hl ho];obtain⟨h1,h2,h3,h4⟩:=ih (flat c).sum (by omega) (flat c) (by rw[flat_length];exact hl) rfl;rw[flat_length]at h1 h3 h4;rw[syms_flat]at h3 h4;exact⟨h1,h2,h3,h4⟩
end Hf
namespace Pk
open St (Strs IsS made_strs)
open In (Ints IsI OwnI made_ints)
open Nu (putS)
open Hf (up up_length up_at up_set incs incs_next incs_length incs_le dep)
def countsN (s:List Int):List Nat:=incs (Hf.zeros 257) (Hf.nats s)
theorem nats_at (s:List Int) (k:Nat) (h:k<s.length):(Hf.nats s)[k]'(by unfold Hf.nats;rw[List.length_map];exact h)=s[k].toNat:=by
 unfold Hf.nats;rw[List.getElem_map]
theorem zeros_length (n:Nat):(Hf.zeros n).length=n:=List.length_replicate ..
theorem countsN_length (s:List Int):(countsN s).length=257:=by
 unfold countsN;rw[incs_length,zeros_length]
theorem counts_le (s:List Int) (h:∀ x∈s,0<=x/\x<=256) (k j:Nat):(incs (Hf.zeros 257) ((Hf.nats s).take k)).getD j 0<=s.length:=by
 have h1:=incs_le ((Hf.nats s).take k) (Hf.zeros 257) j (fun y hy=>by
  obtain⟨x,hx,rfl⟩:=List.mem_map.1 (List.mem_of_mem_take hy)
  have:=h x hx
  rw[zeros_length]
  omega)
 have h2:=Hf.dep_zeros 257 j;unfold Hf.dep at h2;rw[List.length_take]at h1;have h3:(Hf.nats s).length=s.length:=List.length_map ..;omega
theorem counts_impl (s:List Int) (a:Option Addr) (cap n:Nat) (w:World) (h:Ints w w.heap.size a s) (hn:s.length=n) (hn2:n<=400) (hr:∀ x∈s,0<=x/\x<=256) :
  Calls prog 121 #[.slice a n cap] w fun e w'=>e=.returned (.slice (some ⟨w.heap.size,0,none⟩) 257 257)/\IsI w' w.heap.size 2 (up (countsN s))/\Below w.heap.size w w':=by
 obtain⟨i0,hi,hz0,hz1,hz2⟩:=info_parts In.Tryz.infoI2;have HN:=hideP hn;have HS:=hideP h;have HR:=hideP hr;have HCL:=hideP (counts_le s hr);have HNL:Hid ((Hf.nats s).length=s.length):=List.length_map ..;clear h hn hr
 have HZ:Hid (up (incs (Hf.zeros 257) ((Hf.nats s).take 0))=List.replicate 257 0):=by
  unfold Hid;rw[List.take_zero]
  show up (Hf.zeros 257)=_
  unfold up Hf.zeros;rw[List.map_replicate];rfl
 go_enter func121,ntmps121
 go_wp2_with (at_make;refine wpList_make_full _ rfl (.const (.int .i64 257)) (.const (.int .i64 257)) 80 rfl w.heap.size 2 i0 (.int .i64 0) 1 underlying80 hi hz0 hz1 .i64 .i64 _ _ 257 rfl rfl (by omega) (by omega) (by rw[hz2];omega) (by unfold maxLen;omega) nl ?_;intro w1 hown hgrow;have HI1:=hideP (made_ints hown);have HB1:=hideP ((Below.refl w.heap.size w).grown hgrow nl (by simp));clear hown hgrow)
 go_loopw [9,5] (fun iv _ wr=>∃ j:Nat,iv=.int .i64 j/\j<=n/\IsI wr w.heap.size 2 (up (incs (Hf.zeros 257) ((Hf.nats s).take j)))/\Below w.heap.size w wr) (fun iv _ _=>n-(intOf iv).toNat)
 case atStart=>exact⟨0,rfl,Nat.zero_le _,by rw[HZ.o];exact HI1.o,HB1.o⟩
 case round =>
  obtain⟨j,rfl,hj,hij,hbw⟩:=hrel;have IJ:=hideP hij;have BW:=hideP hbw;clear hij hbw;by_cases hlt:j<n
  ·have hjl:j<s.length:=by rw[HN.o];exact hlt
   obtain⟨b,off,rfl,hb,hcl⟩:=(HS.o.below BW.o).some (by omega);have ci:=hcl j hjl;have hx:=HR.o s[j] (List.getElem_mem hjl);have HNX:=hideP (incs_next (Hf.zeros 257) (Hf.nats s) j (by rw[HNL.o];exact hjl));rw[nats_at s j hjl]at HNX;generalize s[j]=x at ci hx HNX;obtain⟨y,rfl⟩:∃ y:Nat,x=y:=⟨x.toNat,by omega⟩;rw[Int.toNat_natCast]at HNX
   have hlen:y<(incs (Hf.zeros 257) ((Hf.nats s).take j)).length:=by rw[incs_length,zeros_length];omega
   have cl0:wr.cell? ⟨w.heap.size,y,none⟩=some (.int .i64 (((incs (Hf.zeros 257) ((Hf.nats s).take j)).getD y 0:Nat):Int)):=by
    rw[IJ.o.cell (j:=y) (by rw[up_length];exact hlen),up_at _ _ hlen]
   have zl0:=IJ.o.frozen y;have hdb:=HCL.o j y;obtain⟨dv,hdv⟩:∃ dv,dv=(incs (Hf.zeros 257) ((Hf.nats s).take j)).getD y 0:=⟨_,rfl⟩;have HDV:=hideP hdv;rw[<-hdv]at cl0 hdb
   have hdv2:dv<=400:=by have:=HN.o;omega
   have hy:(y:Int)<257:=by omega
   clear hdv hcl hjl hlen hdb
   go_wp2_with fail
   go_roundw
   case rel =>
    refine⟨j+1,by go_num,by omega,?_,BW.o.setCell (by simp) _⟩
    have:=IJ.o.set y ((dv:Int)+1)
    rw[HNX.o,<-HDV.o,<-up_set];exact this
   case measure=>simp[intOf];omega
  ·obtain rfl:j=n:=by omega
   have HE:Hid (IsI wr w.heap.size 2 (up (countsN s))):=by
    have:=IJ.o
    rw[List.take_of_length_le (by rw[HNL.o,HN.o];exact nl)]at this;exact this
   go_wp2_with fail
   go_ret;exact⟨rfl,HE.o,BW.o⟩
def rowT (d:List Nat):Nat->List Int
 |0=>[]
 |k+1=>if 0<d.getD k 0 then rowT d k++[(k:Int),((d.getD k 0:Nat):Int)] else rowT d k
theorem rowT_length (d:List Nat):∀ k,(rowT d k).length<=2*k
 |0=>nl
 |k+1=>by
  have:=rowT_length d k
  rw[rowT]
  split
  ·rw[List.length_append]
   simp;omega
  ·omega
theorem rowT_mem (d:List Nat) (m:Nat) (hm:∀ i,d.getD i 0<=m):∀ k x,x∈rowT d k->0<=x/\(x<=k∨x<=m)
 |0,x,h=>absurd h (List.not_mem_nil)
 |k+1,x,h=>by
  rw[rowT]at h
  split at h
  ·rcases List.mem_append.1 h with h|h
   ·have:=rowT_mem d m hm k x h
    omega
   ·have:=hm k
    generalize d.getD k 0=y at h this
    rcases List.mem_cons.1 h with rfl|h
    ·omega
    ·rw[List.mem_singleton.1 h]
     omega
  ·have:=rowT_mem d m hm k x h
   omega
theorem two_newI (W:World) (x y:Int) (t:TypeId):∀ (j:Nat) (u:Value),[Value.int .i64 x,Value.int .i64 y][j]? = some u->(W.alloc (.cells #[.int .i64 x,.int .i64 y] t)).cell? ((⟨W.heap.size,0,none⟩:Addr).add j)=some u:=by
 intro j u hj
 match j,hj with
 |0,hj=>simp at hj;subst hj;simp[Addr.add]
 |1,hj=>simp at hj;subst hj;simp[Addr.add]
theorem table_impl (d:List Nat) (a:Option Addr) (cap n:Nat) (w:World) (h:Ints w w.heap.size a (up d)) (hn:d.length=n) (hn2:n<=257) (hm:∀ i,d.getD i 0<=12) :
  Calls prog 125 #[.slice a n cap] w fun e w'=>e=.returned (.string ⟨(numsL (rowT d n)).toArray⟩)/\Below w.heap.size w w':=by
 obtain⟨i0,hi,hz0,hz1,hz2⟩:=info_parts In.Tryz.infoI2;have HN:=hideP hn;have HS:=hideP h;have HM:=hideP hm;have HRL:=hideP (rowT_length d);have HRM:=hideP (rowT_mem d 12 hm);clear h hn hm;go_enter func125,ntmps125
 go_wp2_with fail
 go_loopw [8,3,4,5] (fun iv tv _ _ wr=>∃ j:Nat,iv=.int .i64 j/\j<=n/\OwnI wr w.heap.size tv (rowT d j)/\Below w.heap.size w wr) (fun iv _ _ _ _=>n-(intOf iv).toNat)
 case atStart=>exact⟨0,rfl,Nat.zero_le _,OwnI.nil _ _,Below.refl _ _⟩
 case round =>
  obtain⟨j,rfl,hj,ho,hbw⟩:=hrel;have O:=hideP ho;have BW:=hideP hbw;have hz:=hbw.size;clear ho hbw;by_cases hlt:j<n
  ·have hjd:j<d.length:=by rw[HN.o];exact hlt
   obtain⟨b,off,rfl,hb,hcl⟩:=(HS.o.below BW.o).some (by rw[up_length];omega);have ci:=Hf.up_get hcl j hjd
   have hg:d.getD j 0=d[j]:=by rw[List.getD_eq_getElem?_getD,List.getElem?_eq_getElem hjd];rfl
   have hx:=HM.o j;have HNX:Hid (rowT d (j+1)=if 0<d.getD j 0 then rowT d j++[(j:Int),((d.getD j 0:Nat):Int)] else rowT d j):=rfl;rw[<-hg]at ci;have hrl:=HRL.o j;generalize d.getD j 0=x at ci hx HNX hg;clear hg hcl hjd;by_cases h0:0<x
   ·have h0':(0:Int)<x:=by omega
    rw[if_pos h0]at HNX
    go_wp2_with (at_builtin;refine wpList_append_own _ rfl (.tmp 15) (.tmp 18) 80 rfl w.heap.size 2 i0 (.int .i64 0) 1 8 underlying80 hi hz0 hz1 hz2 rfl (by decide) _ _ _ rfl (World.ownsRow.alloc O.o _) ⟨wr.heap.size,0,none⟩ 2 2 [.int .i64 (j:Nat),.int .i64 (x:Nat)] rfl rfl (two_newI wr _ _ _) (Hf.two_one rfl rfl) (by unfold maxLen;omega) (by omega) (by simp;omega) ?_)
    intro v3 w3 hown hgrow _
    have O3:Hid (OwnI w3 w.heap.size v3 (rowT d (j+1))):=by
     rw[HNX.o];unfold OwnI;rw[List.length_append,List.map_append];exact hown
    have B3:=hideP (In.app_one BW.o hz nl O.o hgrow);clear hown hgrow O;(go_wp2_with fail)
    go_roundw
    case rel=>exact⟨j+1,by go_num,by omega,O3.o,B3.o⟩
    case measure=>simp[intOf];omega
   ·have h0':x=0:=by omega
    subst h0';rw[if_neg h0]at HNX;(go_wp2_with fail)
    go_roundw
    case rel=>exact⟨j+1,by go_num,by omega,by rw[HNX.o];exact O.o,BW.o⟩
    case measure=>simp[intOf];omega
  ·obtain rfl:j=n:=by omega
   have hrl:=HRL.o j;obtain⟨x,c,hv,_,hi2⟩:=O.o.ints;obtain⟨m,hm⟩:∃ m,m=(rowT d j).length:=⟨_,rfl⟩;have HJ:=hideP (nums_any (rowT d j) x c m wr hi2 hm.symm (by omega) (fun y hy=>by have:=HRM.o j y hy;omega));rw[<-hm]at hv;subst hv;clear hi2 hm
   go_wp2_with fail
   refine HJ.o.mono ?_;rintro e w2 ⟨rfl,hb2⟩;have B2:=hideP (BW.o.trans (hb2.mono hz));clear hb2
   go_wp2_with fail
   go_ret;exact⟨rfl,B2.o⟩
end Pk
namespace Pk
open Hf (up up_length up_at incs incs_length dep lenOf lenOf_facts syms mem_syms nats)
open Bi (putR putR_yes putR_no putL okS whole whole_no above above_zero csum right right_yes packR)
open Go.Proofs.YtaejgfdkfcmjeaaGreatDoor.So (bwtT bwtA)
open Fr (frontR frontR_len)
open Ze (zerosR zerosR_len zerosR_no zeros_back backR_no numsR numsR_yes upTo_yes)
open Se (sealV)
theorem zerosR_mem (l:List Int):∀ x∈zerosR l,0<=x/\x<=256:=by
 intro x hx
 cases h1:numsR l 255 with
 |false =>
  rw[zerosR_no h1]at hx;exact absurd hx (List.not_mem_nil)
 |true =>
  cases h2:numsR (zerosR l) 256 with
  |true=>exact upTo_yes (numsR_yes h2).2 x hx
  |false =>
   have h3:=zeros_back h1;rw[backR_no h2]at h3;subst h3
   have:=zerosR_len []
   rw[List.eq_nil_of_length_eq_zero (show (zerosR []).length=0 by simpa using this)]at hx;exact absurd hx (List.not_mem_nil)
noncomputable def symS (b:ByteArray):List Int:=zerosR (frontR (bwtT b).data.toList)
theorem symS_mem (b:ByteArray):∀ x∈symS b,0<=x/\x<=256:=zerosR_mem _
theorem symS_len (b:ByteArray):(symS b).length<=400:=Nat.le_trans (zerosR_len _) (frontR_len _)
noncomputable def lenS (b:ByteArray):List Nat:=lenOf (countsN (symS b))
noncomputable def headS (b:ByteArray):List Int:=[(b.size:Int),((bwtA b:Nat):Int),((symS b).length:Int),((above (up (lenS b)):Nat):Int)]
noncomputable def bitsS (b:ByteArray):ByteArray:=packR (putR (up (lenS b)) (symS b))
noncomputable def shortL (b:ByteArray):List UInt8:=[1]++(numsL (headS b)++(numsL (rowT (lenS b) 257)++(bitsS b).data.toList))
noncomputable def shortV (b:ByteArray):ByteArray:=⟨(shortL b).toArray⟩
noncomputable def plainV (b:ByteArray):ByteArray:=⟨(0 :: b.data.toList).toArray⟩
noncomputable def innerV (b:ByteArray):ByteArray:=if (shortV b).size<b.size+1 then shortV b else plainV b
noncomputable def packB (b:ByteArray):ByteArray:=if 48<b.size then ⟨#[]⟩ else sealV (innerV b)
theorem plainV_size (b:ByteArray):(plainV b).size=b.size+1:=by
 show (0 :: b.data.toList).toArray.size=_
 simp
theorem lenS_facts (b:ByteArray):(lenS b).length=257/\(∀ i,(lenS b).getD i 0<=12)/\(∀ i,0<(lenS b).getD i 0↔i∈syms (countsN (symS b)) 257)/\(0<(syms (countsN (symS b)) 257).length->whole (up (lenS b))=true):=by
 have h:=lenOf_facts (countsN (symS b)) (by rw[countsN_length];decide);rw[countsN_length]at h;exact h
theorem incs_mono (s:List Nat):∀ (d:List Nat) (j:Nat),(∀ k∈s,k<d.length)->d.getD j 0<=(incs d s).getD j 0:=by
 unfold incs
 induction s with
 |nil=>intro d j _;exact nl
 |cons k s ih =>
  intro d j h;have hk:=h k (List.mem_cons_self ..);rw[List.foldl_cons];refine Nat.le_trans ?_ (ih (d.set k (d.getD k 0+1)) j fun x hx=>by rw[List.length_set];exact h x (List.mem_cons_of_mem _ hx));rw[Hf.getD_set _ _ _ _ hk]
  split
  ·rename_i e
   subst e;omega
  ·exact nl
theorem incs_pos (s:List Nat):∀ (d:List Nat) (j:Nat),(∀ k∈s,k<d.length)->j∈s->0<(incs d s).getD j 0:=by
 induction s with
 |nil=>intro d j _ hj;exact absurd hj (List.not_mem_nil)
 |cons k s ih =>
  intro d j h hj;have hk:=h k (List.mem_cons_self ..)
  have hr:∀ x∈s,x<(d.set k (d.getD k 0+1)).length:=fun x hx=>by rw[List.length_set];exact h x (List.mem_cons_of_mem _ hx)
  have e:incs d (k :: s)=incs (d.set k (d.getD k 0+1)) s:=rfl;rw[e]
  rcases List.mem_cons.1 hj with rfl|hj
  ·have:=incs_mono s (d.set j (d.getD j 0+1)) j hr
   rw[Hf.getD_set _ _ _ _ hk,if_pos rfl]at this;omega
  ·exact ih _ j hr hj
theorem nats_lt (s:List Int) (h:∀ x∈s,0<=x/\x<=256):∀ k∈nats s,k<(Hf.zeros 257).length:=by
 intro k hk;obtain⟨x,hx,rfl⟩:=List.mem_map.1 hk
 have:=h x hx
 rw[zeros_length];omega
theorem symS_ok (b:ByteArray):∀ x∈symS b,okS (up (lenS b)) x:=by
 intro x hx;have h:=symS_mem b x hx;obtain⟨h1,h2,h3,_⟩:=lenS_facts b;refine⟨h.1,by rw[up_length,h1];omega,?_⟩;have hp:0<(lenS b).getD x.toNat 0:=(h3 x.toNat).2 (mem_syms.2 ⟨by omega,incs_pos (nats (symS b)) _ _ (nats_lt _ (symS_mem b)) (List.mem_map.2 ⟨x,hx,rfl⟩)⟩)
 have hl:x.toNat<(lenS b).length:=by omega
 have:=up_at (lenS b) x.toNat hl
 rw[List.getD_eq_getElem?_getD,List.getElem?_eq_getElem (show x.toNat<(up (lenS b)).length by rw[up_length];exact hl),this]
 show (0:Int)<(((lenS b).getD x.toNat 0:Nat):Int)
 omega
theorem above_pos {l:List Int} (h:0<above l):∃ x∈l,0<x:=by
 refine Classical.byContradiction fun hn=>?_
 have:above l=0:=by
  unfold above;rw[List.countP_eq_zero];intro x hx;simp only[decide_eq_true_eq];exact fun h0=>hn ⟨x,hx,h0⟩
 omega
theorem lenS_whole (b:ByteArray) (h:0<above (up (lenS b))):whole (up (lenS b))=true:=by
 obtain⟨_,_,h3,h4⟩:=lenS_facts b;obtain⟨x,hx,h0⟩:=above_pos h;obtain⟨j,hj,rfl⟩:=List.getElem_of_mem hx;rw[up_length]at hj;rw[up_at _ _ hj]at h0;exact h4 (List.length_pos_of_mem ((h3 j).1 (by omega)))
theorem bits_none (b:ByteArray) (h:above (up (lenS b))=0):putR (up (lenS b)) (symS b)=⟨#[]⟩:=by
 refine putR_no (.inr ?_);obtain⟨h1,_⟩:=above_zero _ h;unfold whole;rw[h,h1];simp
theorem bits_some (b:ByteArray) (h:0<above (up (lenS b))):putR (up (lenS b)) (symS b)=⟨(putL (up (lenS b)) (symS b)).toArray⟩:=putR_yes (by have:=symS_len b;omega) (lenS_whole b h) (symS_ok b)
theorem bits_size (b:ByteArray):(putR (up (lenS b)) (symS b)).size<=4800:=by
 by_cases h:above (up (lenS b))=0
 ·rw[bits_none b h]
  decide
 ·rw[bits_some b (by omega)]
  have h1:=Bi.putL_le (up (lenS b)) (Bi.whole_ok (lenS_whole b (by omega))) (symS b);have h2:=symS_len b
  show (putL (up (lenS b)) (symS b)).toArray.size<=4800
  rw[List.size_toArray];omega
theorem lens_counts (b:ByteArray):Hf.lensR (up (countsN (symS b)))=up (lenS b):=by
 have hn:nats (up (countsN (symS b)))=countsN (symS b):=by
  unfold nats up;rw[List.map_map]
  conv=>rhs;rw[<-List.map_id (countsN (symS b))]
  exact List.map_congr_left fun x _=>by simp
 unfold Hf.lensR;rw[if_pos,hn]
 ·rfl
 ·refine Bi.within_of (by rw[up_length,countsN_length];decide) fun x hx=>?_
  obtain⟨y,hy,rfl⟩:=List.mem_map.1 hx;obtain⟨j,hj,rfl⟩:=List.getElem_of_mem hy;have h1:=counts_le (symS b) (symS_mem b) (nats (symS b)).length j;rw[List.take_length]at h1;have h2:=symS_len b
  have e:(countsN (symS b)).getD j 0=(countsN (symS b))[j]:=by rw[List.getD_eq_getElem?_getD,List.getElem?_eq_getElem hj];rfl
  have h3:(countsN (symS b)).getD j 0<=(symS b).length:=h1;omega
end Pk
namespace Up
open Pk
open Hf (up up_length up_at dep lenOf)
open Bi (putR putL okS whole above packR packV openR getR good open_all get_put put_good)
open Go.Proofs.YtaejgfdkfcmjeaaGreatDoor.So (bwtT bwtA unR unR_bwt tOut bwtT_size)
open Fr (frontR fbackR front_back frontR_yes fst_full look_some fst_more)
open Ze (zerosR backR zeros_back numsR upTo_of)
def syL (d:List Nat) (k:Nat):List Nat:=(List.range k).filter fun i=>decide (0<d.getD i 0)
theorem syL_lt {d:List Nat} {k:Nat}:∀ i∈syL d k,i<k:=fun _ hi=>List.mem_range.1 (List.mem_filter.1 hi).1
theorem rowT_eq (d:List Nat) (k:Nat):rowT d k=(syL d k).flatMap fun (i:Nat)=>[(i:Int),((d.getD i 0:Nat):Int)]:=by
 induction k with
 |zero=>rfl
 |succ k ih =>
  rw[rowT];unfold syL at ih ⊢;rw[List.range_succ,List.filter_append,List.flatMap_append,<-ih];by_cases h:0<d.getD k 0
  ·rw[if_pos h,List.filter_cons_of_pos (by simpa using h)]
   simp
  ·rw[if_neg h,List.filter_cons_of_neg (by simpa using h)]
   simp
theorem above_eq (d:List Nat):above (up d)=(syL d d.length).length:=by
 have e:d=(List.range d.length).map fun i=>d.getD i 0:=by
  refine List.ext_getElem (by simp) fun i h1 h2=>?_;rw[List.getElem_map,List.getElem_range,List.getD_eq_getElem?_getD,List.getElem?_eq_getElem h1];rfl
 unfold above up syL;rw[List.countP_map,List.countP_eq_length_filter]
 conv=>lhs;rw[e]
 rw[List.filter_map,List.length_map]
 congr 1
 refine List.filter_congr fun i _=>?_;simp
def tabL (d a:List Nat) (s:List Nat):List Nat:=s.foldl (fun a i=>a.set i (d.getD i 0)) a
theorem tabL_length (d:List Nat) (s:List Nat):∀ a,(tabL d a s).length=a.length:=by
 induction s with
 |nil=>intro a;rfl
 |cons i s ih =>
  intro a
  show (tabL d (a.set i (d.getD i 0)) s).length=_
  rw[ih,List.length_set]
theorem tabL_next (d a s:List Nat) (k:Nat) (h:k<s.length):tabL d a (s.take (k+1))=(tabL d a (s.take k)).set s[k] (d.getD s[k] 0):=by
 unfold tabL;rw[List.take_succ_eq_append_getElem h,List.foldl_append];rfl
theorem tabL_get (d:List Nat) (s:List Nat):∀ (a:List Nat),(∀ i∈s,i<a.length)->∀ j,(tabL d a s).getD j 0=if j∈s then d.getD j 0 else a.getD j 0:=by
 induction s with
 |nil=>intro a _ j;rw[if_neg (List.not_mem_nil)];rfl
 |cons i s ih =>
  intro a h j;have hi:=h i (List.mem_cons_self ..)
  show (tabL d (a.set i (d.getD i 0)) s).getD j 0=_
  rw[ih _ (fun x hx=>by rw[List.length_set];exact h x (List.mem_cons_of_mem _ hx)),Hf.getD_set _ _ _ _ hi];by_cases hj:j∈s
  ·rw[if_pos hj,if_pos (List.mem_cons_of_mem _ hj)]
  ·rw[if_neg hj]
   by_cases e:j=i
   ·subst e
    rw[if_pos rfl,if_pos (List.mem_cons_self ..)]
   ·rw[if_neg (by simpa using e),if_neg (by simp[hj,e])]
theorem tabL_all (d:List Nat) (h:d.length=257):tabL d (Hf.zeros 257) (syL d 257)=d:=by
 have hl:(tabL d (Hf.zeros 257) (syL d 257)).length=257:=by rw[tabL_length,zeros_length]
 refine List.ext_getElem (by rw[hl,h]) fun i h1 h2=>?_;have hg:=tabL_get d (syL d 257) (Hf.zeros 257) (fun i hi=>by rw[zeros_length];exact syL_lt i hi) i;rw[List.getD_eq_getElem?_getD,List.getElem?_eq_getElem h1]at hg
 have hd:d.getD i 0=d[i]:=by rw[List.getD_eq_getElem?_getD,List.getElem?_eq_getElem h2];rfl
 have hz:(Hf.zeros 257).getD i 0=0:=by
  unfold Hf.zeros;rw[List.getD_eq_getElem?_getD,List.getElem?_replicate]
  split<;>rfl
 rw[hd,hz]at hg;rw[show (tabL d (Hf.zeros 257) (syL d 257))[i]=_ from hg]
 split
 ·rfl
 ·rename_i hn
  have:¬0<d.getD i 0:=fun h0=>hn (List.mem_filter.2 ⟨List.mem_range.2 (by omega),by simpa using h0⟩)
  omega
def Good (s b:ByteArray):Prop:=b.size<=48/\s=shortV b/\(shortV b).size<b.size+1
theorem front_nums (l:List UInt8) (h:l.length<=400):numsR (frontR l) 255=true:=by
 have h0:=fst_full l l.length nl;rw[List.take_length]at h0;rw[frontR_yes h]
 have hall:∀ k,k<=l.length->∀ x∈(Fr.fst' (l.take k)).1,0<=x/\x<=255:=by
  intro k
  induction k with
  |zero=>intro _ x hx;cases hx
  |succ k ih =>
   intro hk x hx;have hf:=(fst_full l k (by omega)).1;obtain⟨h1,_,_⟩:=look_some hf (c:=l[k].toNat) (UInt8.toNat_lt _);rw[fst_more hk]at hx
   rcases List.mem_append.1 hx with hx|hx
   ·exact ih (by omega) x hx
   ·rw[List.mem_singleton.1 hx]
    omega
 have:=hall l.length nl
 rw[List.take_length]at this;unfold numsR;rw[decide_eq_true (by omega),upTo_of this];rfl
theorem bwt_len {b:ByteArray} (h:b.size<=48):(bwtT b).data.toList.length=b.size:=by
 rw[Array.length_toList];exact bwtT_size h
theorem sym_back {b:ByteArray} (h:b.size<=48):backR (symS b)=frontR (bwtT b).data.toList:=zeros_back (front_nums _ (by rw[bwt_len h];omega))
theorem text_of_sym {b:ByteArray} (h:b.size<=48):(⟨(fbackR (backR (symS b))).toArray⟩:ByteArray)=bwtT b:=by
 rw[sym_back h,front_back _ (by rw[bwt_len h];omega)]
theorem block_back {b:ByteArray} (h:b.size<=48):unR ⟨(fbackR (backR (symS b))).toArray⟩ ((bwtA b:Nat):Int)=tOut b 0 0:=by
 rw[text_of_sym h];exact unR_bwt h
theorem sym_some {b:ByteArray} (h:b.size<=48) (h0:0<b.size):0<above (up (lenS b)):=by
 cases hs:symS b with
 |nil =>
  exfalso
  have h1:=text_of_sym h;rw[hs]at h1;have h2:=bwtT_size h
  have e:(fbackR (backR []))=[]:=by
   have:backR []=[]:=by decide
   rw[this];decide
  rw[e]at h1;rw[<-h1]at h2;have h3:0=b.size:=h2;omega
 |cons x l =>
  obtain⟨h1,h2,h3⟩:=symS_ok b x (by rw[hs];exact List.mem_cons_self ..);unfold above;rw[List.countP_pos_iff]
  have hl:x.toNat<(up (lenS b)).length:=by omega
  rw[List.getD_eq_getElem?_getD,List.getElem?_eq_getElem hl]at h3;exact⟨_,List.getElem_mem hl,by simpa using h3⟩
theorem good_pos {s b:ByteArray} (h:Good s b):0<b.size:=by
 have h1:=h.2.2
 have h2:1<=(shortV b).size:=by
  show 1<=(shortL b).toArray.size
  rw[List.size_toArray];unfold shortL;simp
 omega
theorem bits_back {s b:ByteArray} (h:Good s b):getR (up (lenS b)) (openR (bitsS b) (8*((bitsS b).size:Int))) ((symS b).length:Int)=(symS b,((putL (up (lenS b)) (symS b)).length:Int),0):=by
 have ha:=sym_some h.1 (good_pos h)
 have hb:bitsS b=packV ⟨(putL (up (lenS b)) (symS b)).toArray⟩:=by
  unfold bitsS;rw[bits_some b ha]
  have:=bits_size b
  rw[bits_some b ha]at this;exact Bi.packR_yes _ (by omega) (put_good _ _)
 have hz:(⟨(putL (up (lenS b)) (symS b)).toArray⟩:ByteArray).size<=4800:=by
  have:=bits_size b
  rw[bits_some b ha]at this;exact this
 obtain⟨z,h1,h2⟩:=open_all (put_good (up (lenS b)) (symS b)) (by omega);rw[<-hb]at h1 h2;rw[show (8*((bitsS b).size:Int))=((8*(bitsS b).size:Nat):Int) by omega];refine get_put (lenS_whole b ha) (symS_ok b) (symS_len b) (z:=z) (by rw[h1]) ?_ h2
 have hbs:(bitsS b).size<=601:=by rw[hb,Bi.packV_size];omega
 have:(openR (bitsS b) ((8*(bitsS b).size:Nat):Int)).size<=8*(bitsS b).size:=by
  rw[Bi.openR_yes _ _ (by omega) nl];exact Nat.le_of_eq (Sh.strF_size _ _)
 omega
end Up
namespace Up
open Pk
open Hf (up up_length)
open Bi (above)
open Go.Proofs.YtaejgfdkfcmjeaaGreatDoor.So (bwtA)
open Nu (numB zz putS)
open Gn (rd)
open Nm2 (num_back extract_list)
noncomputable def numsAll (b:ByteArray):List Int:=headS b++rowT (lenS b) 257
noncomputable def posK (b:ByteArray) (k:Nat):Nat:=1+(numsL ((numsAll b).take k)).length
theorem numsL_append (a c:List Int):numsL (a++c)=numsL a++numsL c:=by unfold numsL;rw[List.flatMap_append]
theorem short_list {s b:ByteArray} (h:Good s b):s.data.toList=[1]++(numsL (numsAll b)++(bitsS b).data.toList):=by
 rw[h.2.1]
 show (shortL b).toArray.toList=_
 unfold shortL numsAll;rw[numsL_append];simp
theorem bwtA_le {b:ByteArray} (h:b.size<=48):bwtA b<=b.size:=by unfold bwtA;rw[if_pos h];exact So.atK_le _ _
theorem above_le (b:ByteArray):above (up (lenS b))<=257:=by
 have h:=(lenS_facts b).1;unfold above;refine Nat.le_trans (List.countP_le_length) ?_;rw[up_length,h];exact nl
theorem numsAll_mem {b:ByteArray} (h:b.size<=48):∀ x∈numsAll b,0<=x/\x<=400:=by
 intro x hx;have h1:=bwtA_le h;have h2:=symS_len b;have h3:=above_le b
 rcases List.mem_append.1 hx with hx|hx
 ·unfold headS at hx
  simp only[List.mem_cons,List.not_mem_nil,or_false]at hx;omega
 ·have:=rowT_mem (lenS b) 12 (lenS_facts b).2.1 257 x hx
  omega
theorem rd_good {s b:ByteArray} (h:Good s b) (k:Nat) (hk:k<(numsAll b).length):rd s (posK b k:Int)=((numsAll b)[k],posK b (k+1),0):=by
 have hm:=numsAll_mem h.1 _ (List.getElem_mem hk)
 have hs:s.size<=8000:=by have:=h.2.2;have:=h.1;rw[h.2.1];omega
 have hl:s.data.toList=([1]++numsL ((numsAll b).take k))++(numB (zz (numsAll b)[k])++(numsL ((numsAll b).drop (k+1))++(bitsS b).data.toList)):=by
  rw[short_list h]
  conv=>lhs;rw[<-List.take_append_drop k (numsAll b),List.drop_eq_getElem_cons hk]
  rw[numsL_append]
  have:numsL ((numsAll b)[k] :: (numsAll b).drop (k+1))=numB (zz (numsAll b)[k])++numsL ((numsAll b).drop (k+1)):=by
   unfold numsL;rw[List.flatMap_cons];rfl
  rw[this];simp
 have:=num_back s (numsAll b)[k] _ _ (by omega) (by omega) hs hl
 have e1:(([1]++numsL ((numsAll b).take k)).length:Nat)=posK b k:=by unfold posK;simp;omega
 rw[e1]at this;rw[this]
 have e2:posK b k+(putS (numsAll b)[k]).size=posK b (k+1):=by
  unfold posK;rw[List.take_succ_eq_append_getElem hk,numsL_append,List.length_append]
  have:(numsL [(numsAll b)[k]]).length=(putS (numsAll b)[k]).size:=by
   unfold numsL;simp
  omega
 rw[e2]
theorem pair_get {f g:Nat->Int} (s:List Nat):∀ (j:Nat) (hj:j<s.length),(s.flatMap fun i=>[f i,g i])[2*j]? = some (f s[j])/\(s.flatMap fun i=>[f i,g i])[2*j+1]? = some (g s[j]):=by
 induction s with
 |nil=>intro j hj;exact absurd hj (Nat.not_lt_zero _)
 |cons x s ih =>
  intro j hj;rw[List.flatMap_cons]
  cases j with
  |zero=>exact⟨rfl,rfl⟩
  |succ j =>
   have:=ih j (by simpa using hj)
   rw[show 2*(j+1)=2*j+2 by omega,show 2*j+2+1=2*j+1+2 by omega]
   simpa using this
theorem numsAll_len (b:ByteArray):(numsAll b).length=4+2*above (up (lenS b)):=by
 unfold numsAll headS;rw[List.length_append,rowT_eq,above_eq,(lenS_facts b).1];generalize syL (lenS b) 257=s
 have:(s.flatMap fun (i:Nat)=>[(i:Int),(((lenS b).getD i 0:Nat):Int)]).length=2*s.length:=by
  induction s with
  |nil=>rfl
  |cons x s ih=>rw[List.flatMap_cons,List.length_append,ih];simp;omega
 rw[this];simp
theorem numsAll_head (b:ByteArray):(numsAll b)[0]? = some (b.size:Int)/\(numsAll b)[1]? = some ((bwtA b:Nat):Int)/\(numsAll b)[2]? = some ((symS b).length:Int)/\(numsAll b)[3]? = some ((above (up (lenS b)):Nat):Int):=by
 unfold numsAll headS;exact⟨rfl,rfl,rfl,rfl⟩
theorem numsAll_pair (b:ByteArray) (j:Nat) (hj:j<(syL (lenS b) 257).length):(numsAll b)[4+2*j]? = some ((syL (lenS b) 257)[j]:Int)/\(numsAll b)[4+2*j+1]? = some (((lenS b).getD (syL (lenS b) 257)[j] 0:Nat):Int):=by
 have h:=pair_get (f:=fun i=>(i:Int)) (g:=fun i=>(((lenS b).getD i 0:Nat):Int)) (syL (lenS b) 257) j hj;unfold numsAll headS;rw[rowT_eq];rw[List.getElem?_append_right (by simp),List.getElem?_append_right (by simp;omega)];simp only[List.length_cons,List.length_nil];rw[show 4+2*j-(0+1+1+1+1)=2*j by omega,show 4+2*j+1-(0+1+1+1+1)=2*j+1 by omega];exact h
theorem posK_all {s b:ByteArray} (h:Good s b):posK b (numsAll b).length<=s.size/\s.extract (posK b (numsAll b).length) s.size=bitsS b:=by
 have hl:=short_list h
 have hs:s.size=1+(numsL (numsAll b)).length+(bitsS b).data.toList.length:=by
  show s.data.size=_
  rw[<-Array.length_toList,hl];simp;omega
 unfold posK;rw[List.take_length];refine⟨by omega,Bi.ext_list ?_⟩;rw[extract_list,hl,<-List.append_assoc,List.drop_left' (by simp;omega),List.take_of_length_le];omega
end Up
namespace Up
open Pk
open Hf (up)
open Bi (openR getR open_impl)
open Go.Proofs.YtaejgfdkfcmjeaaGreatDoor.So (bwtA unR unR_case unbwt_impl tOut)
open Fr (fbackR frontBack_impl)
open Ze (backR zerosBack_impl backR_len)
open In (Ints)
theorem ints_keep {w w':World} {a:Option Addr} {l:List Int} (h:Ints w w.heap.size a l) (hb:Below w.heap.size w w'):Ints w' w'.heap.size a l:=(h.below hb).mono hb.size
theorem lt_blk {w:World} {g:Nat} {x:Obj} (h:w.heap[g]? = some x):g<w.heap.size:=(Array.getElem?_eq_some_iff.1 h).1
theorem blk_keep {w w':World} {g:Nat} {x:Obj} (h:w.heap[g]? = some x) (hb:Below w.heap.size w w'):w'.heap[g]? = some x:=(hb.block g (lt_blk h)).trans h
theorem low_keep {w0 w w':World} (h:Below w0.heap.size w0 w) (hb:Below w.heap.size w w'):Below w0.heap.size w0 w':=h.trans (hb.mono h.size)
def Glob (w:World) (ev:Value):Prop:=0 < w.heap.size/\w.cell? ⟨0,0,none⟩=some ev
theorem glob_keep {w w':World} {ev:Value} (h:Glob w ev) (hb:Below w.heap.size w w'):Glob w' ev:=⟨Nat.lt_of_lt_of_le h.1 hb.size,(hb.cell (p:=⟨0,0,none⟩) h.1).trans h.2⟩
theorem glob_alloc {w:World} {ev:Value} {o:Obj} (h:Glob w ev):(w.alloc o).cell? ⟨0,0,none⟩=some ev:=(glob_keep h ((Below.refl _ _).alloc nl o)).2
theorem four {W:World} {g:Nat} {x y z u:Value} {t:TypeId} (h:W.heap[g]? = some (.cells #[x,y,z,u] t (0,0))):W.cell? ⟨g,0,none⟩=some x/\W.cell? ⟨g,1,none⟩=some y/\W.cell? ⟨g,2,none⟩=some z/\W.cell? ⟨g,3,none⟩=some u :=
 ⟨cell_of_row W g 0 _ _ _ h,cell_of_row W g 1 _ _ _ h,cell_of_row W g 2 _ _ _ h,cell_of_row W g 3 _ _ _ h⟩
theorem openR_size (p:ByteArray) (m:Int) (hp:p.size<=8000):(openR p m).size<=64000:=by
 by_cases h:8000<p.size∨m<0∨8*(p.size:Int)<m
 ·rw[Bi.openR_no _ _ h]
  decide
 ·obtain⟨k,rfl⟩:=Int.eq_ofNat_of_zero_le (show 0<=m by omega)
  rw[Bi.openR_yes _ _ (by omega) (by omega)];refine Nat.le_trans (Nat.le_of_eq (Sh.strF_size _ _)) ?_;omega
theorem fback_len (l:List Int):(fbackR l).length<=400:=by
 cases h:Ze.numsR l 255 with
 |false=>rw[Fr.fbackR_no h];simp
 |true =>
  rw[Fr.fbackR_yes h];have h1:=Fr.kst_full l (Ze.upTo_yes (Ze.numsR_yes h).2) l.length nl;rw[List.take_length]at h1
  have:=(Ze.numsR_yes h).1
  omega
theorem size_list (l:List UInt8):(⟨l.toArray⟩:ByteArray).size=l.length:=by
 show l.toArray.size=_
 simp
theorem unR_size {t b:ByteArray} {a c:Int} (ht:t.size<=400) (h:unR t a=.agg #[.string b,.int .i64 0,.int .i64 c]):b.size<=400:=by
 unfold unR tOut at h
 split at h
 ·simp at h
  rw[<-h.1];decide
 ·split at h
  ·simp at h
   rw[<-h.1];decide
  ·split at h
   ·simp at h
    rw[<-h.1,So.backT_size];exact ht
   ·simp at h
    rw[<-h.1];decide
theorem back_any (x0 x1 x2 x3:Int) (l:List Int) (a:Option Addr) (cap n:Nat) (p:ByteArray) (ev:Value) (w:World) (hl:Ints w w.heap.size a l) (hn:n=l.length) (h4:n<=400) (hp:p.size<=8000) (h0:0 < w.heap.size) (hg:w.cell? ⟨0,0,none⟩=some ev) :
  Calls prog 142 #[.agg #[.int .i64 x0,.int .i64 x1,.int .i64 x2,.int .i64 x3],.slice a n cap,.string p] w fun e w'=>(∃ r v,e=.returned (.tuple #[.string r,v])/\(v=.nilIface∨v=ev)/\r.size<=8000/\∀ s b,Good s b->l=up (lenS b)->x1=((bwtA b:Nat):Int)->x2=((symS b).length:Int)->p=bitsS b->r=b/\v=.nilIface)/\Below w.heap.size w w':=by
 have HL:=hideP hl;have HN:=hideP hn;have HG:Hid (Glob w ev):=⟨h0,hg⟩;have BW:=hideP (Below.refl w.heap.size w);clear hl hn hg;go_enter func142,ntmps142
 go_wp2_with fail
 have hb1:Below w.heap.size w (w.alloc (.cells #[.int .i64 x0,.int .i64 x1,.int .i64 x2,.int .i64 x3] 127)):=(Below.refl _ _).alloc nl _;have X:Hid ((w.alloc (.cells #[.int .i64 x0,.int .i64 x1,.int .i64 x2,.int .i64 x3] 127)).heap[w.heap.size]? = some (.cells #[.int .i64 x0,.int .i64 x1,.int .i64 x2,.int .i64 x3] 127 (0,0))):=heap_alloc_new w _;generalize hww:w.alloc (.cells #[.int .i64 x0,.int .i64 x1,.int .i64 x2,.int .i64 x3] 127)=w1 at hb1 X ⊢;clear hww;have HL_:=hideP (ints_keep HL.o hb1);have BW_:=hideP (low_keep BW.o hb1);have HG_:=hideP (glob_keep HG.o hb1);clear HL BW HG;have HL:=HL_;clear HL_;have BW:=BW_;clear BW_;have HG:=HG_;clear HG_;clear hb1;generalize w.heap.size=gx at X ⊢;refine(open_impl p _ w1 (by omega)).mono ?_;rintro e w2 ⟨rfl,hb2⟩;have HL_:=hideP (ints_keep HL.o hb2);have BW_:=hideP (low_keep BW.o hb2);have HG_:=hideP (glob_keep HG.o hb2);have X_:=hideP (blk_keep X.o hb2);clear HL BW HG X;have HL:=HL_;clear HL_;have BW:=BW_;clear BW_;have HG:=HG_;clear HG_;have X:=X_;clear X_;clear hb2;obtain⟨bits,hbits⟩:∃ x,x=openR p (8*(p.size:Int)):=⟨_,rfl⟩;rw[<-hbits];have HBT:=hideP hbits;clear hbits
 have hsz:bits.size<=64000:=by rw[HBT.o];exact openR_size p _ hp
 obtain⟨cx0,cx1,cx2,cx3⟩:=four X.o;have HGI:=hideP (fun (W:World) (h:Ints W W.heap.size a l)=>Bi.get_impl l bits x2 a cap W h (by have:=HN.o;omega) (by omega));obtain⟨xl,xa,xc,hx⟩:∃ x y z,getR l bits x2=(x,y,z):=⟨_,_,_,rfl⟩;have HX:=hideP hx;rw[hx,<-HN.o]at HGI;clear hx
 go_wp2_with fail
 refine(HGI.o w2 HL.o).mono ?_;rintro e w3 ⟨v,rfl,ho,hb3⟩;clear cx0 cx1 cx2 cx3;have HL_:=hideP (ints_keep HL.o hb3);have BW_:=hideP (low_keep BW.o hb3);have HG_:=hideP (glob_keep HG.o hb3);have X_:=hideP (blk_keep X.o hb3);clear HL BW HG X;have HL:=HL_;clear HL_;have BW:=BW_;clear BW_;have HG:=HG_;clear HG_;have X:=X_;clear X_;clear hb3;obtain⟨ay,cy,hv,hi⟩:=In.OwnIn.ints ho;obtain⟨ny,hny⟩:∃ x,x=xl.length:=⟨_,rfl⟩;rw[<-hny]at hv;subst hv;have NY:=hideP hny;have IY:=hideP hi;clear hny hi ho HGI
 have ey:ny<=400:=by
  have:=Bi.getR_length l bits x2
  rw[HX.o]at this;rw[NY.o];exact this
 have HEND:Hid (∀ (r:ByteArray) (v:Value),(∀ s b,Good s b->getR (up (lenS b)) (openR (bitsS b) (8*((bitsS b).size:Int))) ((symS b).length:Int)=(xl,xa,xc)->x1=((bwtA b:Nat):Int)->r=b/\v=.nilIface)->∀ s b,Good s b->l=up (lenS b)->x1=((bwtA b:Nat):Int)->x2=((symS b).length:Int)->p=bitsS b->r=b/\v=.nilIface):=fun r v h s b hg h1 h2 h3 h5=>by
  refine h s b hg ?_ h2;rw[<-HX.o,HBT.o,h1,h3,h5]
 by_cases hc:xc=0
 ·subst hc
  go_wp2_with fail
  have hb4:Below w3.heap.size w3 (w3.alloc (.cells #[.slice ay ny cy,.int .i64 xa,.int .i64 0] 158)):=(Below.refl _ _).alloc nl _;generalize hww:w3.alloc (.cells #[.slice ay ny cy,.int .i64 xa,.int .i64 0] 158)=w4 at hb4 ⊢;clear hww;have HL_:=hideP (ints_keep HL.o hb4);have BW_:=hideP (low_keep BW.o hb4);have HG_:=hideP (glob_keep HG.o hb4);have X_:=hideP (blk_keep X.o hb4);have IY_:=hideP (ints_keep IY.o hb4);clear HL BW HG X IY;have HL:=HL_;clear HL_;have BW:=BW_;clear BW_;have HG:=HG_;clear HG_;have X:=X_;clear X_;have IY:=IY_;clear IY_;clear hb4;have HZI:=hideP (fun (W:World) (h:Ints W W.heap.size ay xl)=>zerosBack_impl xl ay cy W.heap.size W h nl (by have:=NY.o;omega));rw[<-NY.o]at HZI;refine(HZI.o w4 IY.o).mono ?_;rintro e w5 ⟨v5,rfl,ho5,hb5⟩;have HL_:=hideP (ints_keep HL.o hb5);have BW_:=hideP (low_keep BW.o hb5);have HG_:=hideP (glob_keep HG.o hb5);have X_:=hideP (blk_keep X.o hb5);have IY_:=hideP (ints_keep IY.o hb5);clear HL BW HG X IY;have HL:=HL_;clear HL_;have BW:=BW_;clear BW_;have HG:=HG_;clear HG_;have X:=X_;clear X_;have IY:=IY_;clear IY_;clear hb5;obtain⟨az,cz,hv,_,hi⟩:=ho5.ints;obtain⟨nz,hnz⟩:∃ x,x=(backR xl).length:=⟨_,rfl⟩;rw[<-hnz]at hv;subst hv;have NZ:=hideP hnz;have IZ:=hideP hi;clear hnz hi ho5
  have ez:nz<=400:=by rw[NZ.o];exact backR_len _
  have HFI:=hideP (fun (W:World) (h:Ints W W.heap.size az (backR xl))=>frontBack_impl (backR xl) az cz W.heap.size W h nl (by have:=NZ.o;omega));rw[<-NZ.o]at HFI
  go_wp2_with fail
  refine(HFI.o w5 IZ.o).mono ?_;rintro e w6 ⟨rfl,hb6⟩;have HL_:=hideP (ints_keep HL.o hb6);have BW_:=hideP (low_keep BW.o hb6);have HG_:=hideP (glob_keep HG.o hb6);have X_:=hideP (blk_keep X.o hb6);have IY_:=hideP (ints_keep IY.o hb6);clear HL BW HG X IY;have HL:=HL_;clear HL_;have BW:=BW_;clear BW_;have HG:=HG_;clear HG_;have X:=X_;clear X_;have IY:=IY_;clear IY_;clear hb6;have hfs:(fbackR (backR xl)).length<=400:=fback_len _;obtain⟨tx,htx⟩:∃ x:ByteArray,x=⟨(fbackR (backR xl)).toArray⟩:=⟨_,rfl⟩
  have hts:tx.size<=400:=by rw[htx,size_list];exact hfs
  rw[<-htx];have HTX:=hideP htx;clear htx hfs;obtain⟨cx0,cx1,cx2,cx3⟩:=four X.o
  go_wp2_with fail
  refine(unbwt_impl tx x1 w6 (by omega)).mono ?_;rintro e w7 ⟨rfl,hb7⟩;clear cx0 cx1 cx2 cx3;have HL_:=hideP (ints_keep HL.o hb7);have BW_:=hideP (low_keep BW.o hb7);have HG_:=hideP (glob_keep HG.o hb7);have X_:=hideP (blk_keep X.o hb7);have IY_:=hideP (ints_keep IY.o hb7);clear HL BW HG X IY;have HL:=HL_;clear HL_;have BW:=BW_;clear BW_;have HG:=HG_;clear HG_;have X:=X_;clear X_;have IY:=IY_;clear IY_;clear hb7;obtain⟨yb,yc,hy⟩:=unR_case tx x1;have HY:=hideP hy;have HYS:Hid (yb.size<=400):=unR_size (by omega) hy;rw[hy];clear hy
  have HTT:Hid (∀ s b,Good s b->getR (up (lenS b)) (openR (bitsS b) (8*((bitsS b).size:Int))) ((symS b).length:Int)=(xl,xa,0)->x1=((bwtA b:Nat):Int)->yb=b/\yc=0):=fun s b hg h1 h2=>by
   rw[bits_back hg]at h1;have e1:symS b=xl:=congrArg Prod.fst h1;have h3:=block_back hg.1;rw[e1,<-HTX.o,<-h2,HY.o]at h3;unfold tOut at h3;simp at h3;exact h3
  by_cases hyc:yc=0
  ·subst hyc
   go_wp2_with fail
   go_ret2;refine⟨⟨yb,.nilIface,rfl,.inl rfl,by have:=HYS.o;omega,HEND.o _ _ fun s b h1 h2 h3=>⟨(HTT.o s b h1 h2 h3).1,rfl⟩⟩,?_⟩;exact low_keep BW.o ((Below.refl _ _).alloc nl _)
  ·have hyc':(yc != 0)=true:=by simp;exact hyc
   have gcell:=fun o=>glob_alloc (w:=w7) (o:=o) HG.o
   go_wp2_with fail
   go_quiet (fail)
   go_wp2_with fail
   go_ret2;refine⟨⟨⟨#[]⟩,ev,rfl,.inr rfl,by decide,HEND.o _ _ fun s b h1 h2 h3=>absurd (HTT.o s b h1 h2 h3).2 hyc⟩,?_⟩;exact below_drewN (low_keep BW.o ((Below.refl _ _).alloc nl _)) _
 ·have hc':(xc != 0)=true:=by simp;exact hc
  have gcell:=fun o=>glob_alloc (w:=w3) (o:=o) HG.o
  go_wp2_with fail
  go_quiet (fail)
  go_wp2_with fail
  go_ret2;refine⟨⟨⟨#[]⟩,ev,rfl,.inr rfl,by decide,HEND.o _ _ fun s b h1 h2 _=>?_⟩,?_⟩
  ·rw[bits_back h1]at h2
   exact absurd (congrArg (fun q=>q.2.2) h2).symm hc
  ·exact below_drewN (low_keep BW.o ((Below.refl _ _).alloc nl _)) _
end Up
namespace Pk
open St (Strs IsS)
open In (Ints IsI OwnI)
open Hf (up up_length)
open Bi (above putR packR)
open Go.Proofs.YtaejgfdkfcmjeaaGreatDoor.So (bwtT bwtA bwtC sOut bwt_impl)
open Fr (frontR frontOf_impl frontR_len)
open Ze (zerosR zerosOf_impl)
open Se (sealV seal_impl)
theorem ints_keep {w w':World} {a:Option Addr} {l:List Int} (h:Ints w w.heap.size a l) (hb:Below w.heap.size w w'):Ints w' w'.heap.size a l:=(h.below hb).mono hb.size
theorem lt_blk {w:World} {g:Nat} {x:Obj} (h:w.heap[g]? = some x):g<w.heap.size:=(Array.getElem?_eq_some_iff.1 h).1
theorem blk_keep {w w':World} {g:Nat} {x:Obj} (h:w.heap[g]? = some x) (hb:Below w.heap.size w w'):w'.heap[g]? = some x:=(hb.block g (lt_blk h)).trans h
theorem low_keep {w0 w w':World} (h:Below w0.heap.size w0 w) (hb:Below w.heap.size w w'):Below w0.heap.size w0 w':=h.trans (hb.mono h.size)
theorem ints_four {W:World} {g:Nat} {a b c d:Int} {t:TypeId} (h:W.heap[g]? = some (.cells #[.int .i64 a,.int .i64 b,.int .i64 c,.int .i64 d] t (0,0))):Ints W W.heap.size (some ⟨g,0,none⟩) [a,b,c,d] :=
 .inr ⟨g,0,rfl,lt_blk h,fun j hj=>by
  rw[Nat.zero_add,cell_of_row W g j _ _ _ h]
  match j,hj with
  |0,_=>rfl
  |1,_=>rfl
  |2,_=>rfl
  |3,_=>rfl⟩
theorem strs_four {W:World} {g:Nat} {a b c d:ByteArray} {t:TypeId} (h:W.heap[g]? = some (.cells #[.string a,.string b,.string c,.string d] t (0,0))):Strs W W.heap.size (some ⟨g,0,none⟩) [a,b,c,d] :=
 .inr ⟨g,0,rfl,lt_blk h,fun j hj=>by
  rw[Nat.zero_add,cell_of_row W g j _ _ _ h]
  match j,hj with
  |0,_=>rfl
  |1,_=>rfl
  |2,_=>rfl
  |3,_=>rfl⟩
theorem strs_two {W:World} {g:Nat} {a b:ByteArray} {t:TypeId} (h:W.heap[g]? = some (.cells #[.string a,.string b] t (0,0))):Strs W W.heap.size (some ⟨g,0,none⟩) [a,b] :=
 .inr ⟨g,0,rfl,lt_blk h,fun j hj=>by
  rw[Nat.zero_add,cell_of_row W g j _ _ _ h]
  match j,hj with
  |0,_=>rfl
  |1,_=>rfl⟩
theorem cat_two (b:ByteArray):cat [⟨#[0]⟩,b]=0 :: b.data.toList:=by
 unfold cat;simp
theorem cat_short (b:ByteArray):cat [⟨#[1]⟩,⟨(numsL (headS b)).toArray⟩,⟨(numsL (rowT (lenS b) 257)).toArray⟩,bitsS b]=shortL b:=by
 unfold cat shortL;simp
theorem packR_size (t:ByteArray) (h:t.size<=4800):(packR t).size<=4800:=by
 unfold packR
 split
 ·decide
 ·unfold Bi.packV
  rw[Sh.strF_size];omega
theorem bitsS_size (b:ByteArray):(bitsS b).size<=4800:=packR_size _ (bits_size b)
theorem bwtA_le (b:ByteArray) (h:b.size<=48):bwtA b<=48:=by
 unfold bwtA;rw[if_pos h];exact Nat.le_trans (So.atK_le _ _) h
theorem headS_mem (b:ByteArray) (h:b.size<=48):∀ x∈headS b,-9223372036854775808<=x/\x<=9223372036854775807:=by
 have h1:=bwtA_le b h;have h2:=symS_len b;have h3:=Bi.above_le (up (lenS b));rw[up_length,(lenS_facts b).1]at h3;intro x hx;unfold headS at hx;simp only[List.mem_cons,List.not_mem_nil,or_false]at hx;omega
theorem shortL_le (b:ByteArray):(shortL b).length<=20000:=by
 have h1:=numsL_le (headS b);have h2:=numsL_le (rowT (lenS b) 257);have h3:=rowT_length (lenS b) 257;have h4:=bitsS_size b
 have h5:(bitsS b).data.toList.length=(bitsS b).size:=by simp
 have h6:(headS b).length=4:=rfl;unfold shortL;rw[List.length_append,List.length_append,List.length_append];simp only[List.length_cons,List.length_nil];omega
theorem short_impl (b:ByteArray) (w:World) (hb:b.size<=48) :
  Calls prog 91 #[.string b] w fun e w'=>e=.returned (.string (shortV b))/\Below w.heap.size w w':=by
 obtain⟨hf1,hf2,_,_⟩:=lenS_facts b;have HSM:=hideP (symS_mem b);have hsl:=symS_len b;have C1:Hid (∀ W,Calls prog 117 #[.string b] W fun e w'=>e=.returned (.agg #[.string (bwtT b),.int .i64 (bwtA b:Nat),.int .i64 (bwtC b:Nat)])/\Below W.heap.size W w'):=fun W=>bwt_impl b W (by omega)
 have C2:Hid (∀ W,Calls prog 119 #[.string (bwtT b)] W fun e w'=>∃ v,e=.returned v/\OwnI w' W.heap.size v (frontR (bwtT b).data.toList)/\Below W.heap.size W w'):=fun W=>frontOf_impl (bwtT b) W (by
  have:(bwtT b).size<=48:=by
   by_cases h:b.size<=48
   ·unfold bwtT
    rw[if_pos h,Sh.strF_size];exact h
   ·omega
  omega)
 have C3:Hid (∀ W base v,OwnI W base v (frontR (bwtT b).data.toList)->Calls prog 118 #[v] W fun e w'=>∃ v,e=.returned v/\OwnI w' W.heap.size v (symS b)/\Below W.heap.size W w'):=fun W base v h=>by
  obtain⟨x,c,rfl,_,hi⟩:=h.ints;exact zerosOf_impl _ x c W.heap.size W hi nl (by have:=frontR_len (bwtT b).data.toList;omega)
 obtain⟨n,hn⟩:∃ n,n=(symS b).length:=⟨_,rfl⟩;have HN:=hideP hn
 have C4:Hid (∀ W x c,Ints W W.heap.size x (symS b)->Calls prog 121 #[.slice x n c] W fun e w'=>e=.returned (.slice (some ⟨W.heap.size,0,none⟩) 257 257)/\Ints w' w'.heap.size (some ⟨W.heap.size,0,none⟩) (up (countsN (symS b)))/\Below W.heap.size W w'):=fun W x c h=>by
  refine(counts_impl (symS b) x c n W h hn.symm (by omega) HSM.o).mono ?_;rintro e w' ⟨rfl,hi,hb⟩;exact⟨rfl,hi.ints hi.lt,hb⟩
 have C5:Hid (∀ W x c,Ints W W.heap.size x (up (countsN (symS b)))->Calls prog 120 #[.slice x 257 c] W fun e w'=>∃ a c',e=.returned (.slice a 257 c')/\Ints w' w'.heap.size a (up (lenS b))/\Below W.heap.size W w'):=fun W x c h=>by
  have:=Hf.lengths_impl x c (up (countsN (symS b))) W h (by rw[up_length,countsN_length];decide)
  rw[up_length,countsN_length,lens_counts]at this;refine this.mono ?_;rintro e w' ⟨v,rfl,ho,hb⟩;obtain⟨a,c',rfl,_,hi⟩:=ho.ints;rw[up_length,hf1];exact⟨a,c',rfl,hi,hb⟩
 have C6:Hid (∀ W x c,Ints W W.heap.size x (up (lenS b))->Calls prog 122 #[.slice x 257 c] W fun e w'=>e=.returned (.int .i64 (above (up (lenS b)):Nat))/\w'=W):=fun W x c h=>by
  have:=Bi.count_impl (up (lenS b)) x c W.heap.size W h (by rw[up_length,hf1];decide)
  rw[up_length,hf1]at this;exact this
 have C7:Hid (∀ W x c y d,Ints W W.heap.size x (up (lenS b))->Ints W W.heap.size y (symS b)->Calls prog 124 #[.slice x 257 c,.slice y n d] W fun e w'=>e=.returned (.string (putR (up (lenS b)) (symS b)))/\Below W.heap.size W w'):=fun W x c y d h1 h2=>by
  have:=Bi.put_impl (up (lenS b)) (symS b) x y c d W h1 h2 (by rw[up_length,hf1];decide) (by omega)
  rw[up_length,hf1,<-hn]at this;exact this
 have C8:Hid (∀ W,Calls prog 123 #[.string (putR (up (lenS b)) (symS b))] W fun e w'=>e=.returned (.string (bitsS b))/\Below W.heap.size W w'):=fun W=>Bi.pack_impl _ W (by have:=bits_size b;omega)
 have C9:Hid (∀ W g t,W.heap[g]? = some (.cells #[.int .i64 (b.size:Nat),.int .i64 (bwtA b:Nat),.int .i64 n,.int .i64 (above (up (lenS b)):Nat)] t (0,0))->Calls prog 32 #[.slice (some ⟨g,0,none⟩) 4 4] W fun e w'=>e=.returned (.string ⟨(numsL (headS b)).toArray⟩)/\Below W.heap.size W w'):=fun W g t h=>by
  have h':=ints_four h;rw[hn]at h';exact nums_any (headS b) (some ⟨g,0,none⟩) 4 4 W h' rfl (by decide) (headS_mem b hb)
 have C10:Hid (∀ W x c,Ints W W.heap.size x (up (lenS b))->Calls prog 125 #[.slice x 257 c] W fun e w'=>e=.returned (.string ⟨(numsL (rowT (lenS b) 257)).toArray⟩)/\Below W.heap.size W w'):=fun W x c h=>table_impl (lenS b) x c 257 W h hf1 (by decide) hf2
 have C11:Hid (∀ W g t,W.heap[g]? = some (.cells #[.string ⟨#[1]⟩,.string ⟨(numsL (headS b)).toArray⟩,.string ⟨(numsL (rowT (lenS b) 257)).toArray⟩,.string (bitsS b)] t (0,0))->Calls prog 31 #[.slice (some ⟨g,0,none⟩) 4 4] W fun e w'=>e=.returned (.string (shortV b))/\Below W.heap.size W w'):=fun W g t h=>by
  have:=join_any _ (some ⟨g,0,none⟩) 4 4 W (strs_four h) rfl (by decide) (by rw[cat_short];have:=shortL_le b;omega)
  rw[cat_short]at this;exact this
 rw[<-hn]at hsl;have hn':=hn;clear hn hn' hf1 hf2 HSM;generalize bwtC b=kC at C1;generalize shortV b=R at C11 ⊢;generalize (⟨(numsL (headS b)).toArray⟩:ByteArray)=T1 at C9 C11;generalize (⟨(numsL (rowT (lenS b) 257)).toArray⟩:ByteArray)=T2 at C10 C11;generalize bitsS b=T3 at C8 C11;generalize putR (up (lenS b)) (symS b)=T0 at C7 C8;generalize above (up (lenS b))=kV at C6 C9;generalize bwtA b=kA at C1 C9;generalize bwtT b=kT at C1 C2 C3;go_enter func91,ntmps91
 go_wp2_with fail
 refine(C1.o _).mono ?_;rintro e w1 ⟨rfl,hb1⟩;have B1:=hideP hb1;clear hb1
 go_wp2_with fail
 have X2:Hid ((w1.alloc (.cells #[.string kT,.int .i64 (kA:Nat),.int .i64 (kC:Nat)] 122)).heap[w1.heap.size]? = some (.cells #[.string kT,.int .i64 (kA:Nat),.int .i64 (kC:Nat)] 122 (0,0))):=heap_alloc_new w1 _;have B2:=hideP (B1.o.alloc B1.o.size (.cells #[.string kT,.int .i64 (kA:Nat),.int .i64 (kC:Nat)] 122));generalize w1.alloc (.cells #[.string kT,.int .i64 (kA:Nat),.int .i64 (kC:Nat)] 122)=w2 at X2 B2 ⊢;generalize w1.heap.size=gx at X2 ⊢;clear B1;refine(C2.o _).mono ?_;rintro e w3 ⟨v3,rfl,ho3,hb3⟩;have X3:=hideP (blk_keep X2.o hb3);have B3:=hideP (low_keep B2.o hb3);have O3:=hideP ho3;clear ho3 hb3 X2 B2
 go_wp2_with fail
 refine(C3.o _ _ _ O3.o).mono ?_;rintro e w4 ⟨v4,rfl,ho4,hb4⟩;have X4:=hideP (blk_keep X3.o hb4);have B4:=hideP (low_keep B3.o hb4);obtain⟨ay,cy,hv4,_,hi4⟩:=ho4.ints;rw[<-HN.o]at hv4;subst hv4;have Y4:=hideP hi4;clear ho4 hb4 X3 B3 O3 hi4
 go_wp2_with fail
 refine(C4.o _ _ _ Y4.o).mono ?_;rintro e w5 ⟨rfl,hi5,hb5⟩;have X5:=hideP (blk_keep X4.o hb5);have B5:=hideP (low_keep B4.o hb5);have Y5:=hideP (ints_keep Y4.o hb5);have Z5:=hideP hi5;clear hi5 hb5 X4 B4 Y4
 go_wp2_with fail
 refine(C5.o _ _ _ Z5.o).mono ?_;rintro e w6 ⟨az,cz,rfl,hi6,hb6⟩;have X6:=hideP (blk_keep X5.o hb6);have B6:=hideP (low_keep B5.o hb6);have Y6:=hideP (ints_keep Y5.o hb6);have Z6:=hideP hi6;clear hi6 hb6 X5 B5 Y5 Z5;have K0:Hid (Below w6.heap.size w6 w6.drew):=(Below.refl _ _).drew;have CX:Hid (∀ W,Below w6.heap.size w6 W->W.cell? ⟨gx,1,none⟩=some (.int .i64 (kA:Nat))):=fun W h=>cell_of_row W gx 1 _ _ _ (blk_keep X6.o h)
 go_upto_region 4 with fail
 go_cut [6] from 17 to 25 (fun s6 wx=>∃ g:Nat,s6=.pointer (some ⟨g,0,none⟩)/\wx.heap[g]? = some (.cells #[.int .i64 (b.size:Nat),.int .i64 (kA:Nat),.int .i64 n,.int .i64 (kV:Nat)] 127 (0,0))/\Below w6.heap.size w6 wx)
 case first =>
  have hS0:=CX.o _ K0.o;have KA:Hid (∀ o,Below w6.heap.size w6 (w6.drew.alloc o)):=fun o=>(Below.refl _ _).drew.alloc nl o;have KB:Hid (∀ o,Below w6.heap.size w6 (w6.alloc o).drew):=fun o=>((Below.refl _ _).alloc nl o).drew
  go_region_held3 (fun W=>W.cell? ⟨gx,1,none⟩=some (.int .i64 (kA:Nat))) (first|assumption|exact CX.o _ (KB.o _)|exact CX.o _ (KA.o _)) (first|(go_at_call 122;(with_reducible refine(C6.o _ _ _ ?_).mono ?_);(· first|exact ints_keep Z6.o K0.o|exact ints_keep Z6.o (KB.o _)|exact ints_keep Z6.o (KA.o _));rintro e w7 ⟨rfl,hw7⟩;subst w7))
  all_goals (try go_wp2_with fail)
  all_goals (go_meet;exact⟨w6.heap.size,rfl,heap_alloc_new w6 _,KB.o _⟩)
 case rest =>
  obtain⟨g,rfl,hr,hbc⟩:=hcut;have G0:=hideP hr;have Y0:=hideP (ints_keep Y6.o hbc);have Z0:=hideP (ints_keep Z6.o hbc);have B0:=hideP (low_keep B6.o hbc);clear hr hbc CX X6 Y6 Z6 B6 K0
  go_wp2_with fail
  refine(C7.o _ _ _ _ _ Z0.o Y0.o).mono ?_;rintro e w8 ⟨rfl,hb8⟩;have G8:=hideP (blk_keep G0.o hb8);have Z8:=hideP (ints_keep Z0.o hb8);have B8:=hideP (low_keep B0.o hb8);clear hb8 G0 Y0 Z0 B0
  go_wp2_with fail
  refine(C8.o _).mono ?_;rintro e w9 ⟨rfl,hb9⟩;have G9:=hideP (blk_keep G8.o hb9);have Z9:=hideP (ints_keep Z8.o hb9);have B9:=hideP (low_keep B8.o hb9);clear hb9 G8 Z8 B8
  go_wp2_with fail
  refine(C9.o _ _ _ G9.o).mono ?_;rintro e w10 ⟨rfl,hb10⟩;have Z10:=hideP (ints_keep Z9.o hb10);have B10:=hideP (low_keep B9.o hb10);clear hb10 G9 Z9 B9
  go_wp2_with fail
  refine(C10.o _ _ _ Z10.o).mono ?_;rintro e w11 ⟨rfl,hb11⟩;have B11:=hideP (low_keep B10.o hb11);clear hb11 Z10 B10
  go_wp2_with fail
  have H12:Hid ((w11.alloc (.cells #[.string ⟨#[1]⟩,.string T1,.string T2,.string T3] 9)).heap[w11.heap.size]? = some (.cells #[.string ⟨#[1]⟩,.string T1,.string T2,.string T3] 9 (0,0))):=heap_alloc_new w11 _;have B12:=hideP (B11.o.alloc B11.o.size (.cells #[.string ⟨#[1]⟩,.string T1,.string T2,.string T3] 9));refine(C11.o _ _ _ H12.o).mono ?_;rintro e w13 ⟨rfl,hb13⟩;have B13:=hideP (low_keep B12.o hb13);clear hb13
  go_wp2_with fail
  go_ret;exact⟨rfl,B13.o⟩
theorem pack_impl (b:ByteArray) (w:World) (hb:b.size<=1048576) :
  Calls prog 61 #[.string b] w fun e w'=>e=.returned (.string (packB b))/\Below w.heap.size w w':=by
 by_cases h48:48<b.size
 ·have HR:Hid (packB b=⟨#[]⟩):=if_pos h48
  have h48':(48:Int)<(b.size:Int):=by omega
  rw[HR.o];go_enter func61,ntmps61
  go_wp2_with fail
  go_ret;exact⟨rfl,Below.refl _ _⟩
 ·have HR:Hid (packB b=sealV (innerV b)):=if_neg h48
  have h48':decide ((48:Int)<(b.size:Int))=false:=by simp;omega
  have HS:=hideP (fun W=>short_impl b W (by omega))
  have HP:Hid (∀ W g t,W.heap[g]? = some (.cells #[.string ⟨#[0]⟩,.string b] t (0,0))->Calls prog 31 #[.slice (some ⟨g,0,none⟩) 2 2] W fun e w'=>e=.returned (.string (plainV b))/\Below W.heap.size W w'):=fun W g t h=>by
   have:=join_any _ (some ⟨g,0,none⟩) 2 2 W (strs_two h) rfl (by decide) (by rw[cat_two];simp;omega)
   rw[cat_two]at this;exact this
  have hps:=plainV_size b
  have hss:(shortV b).size<=20000:=by
   have:=shortL_le b
   show (shortL b).toArray.size<=20000
   rw[List.size_toArray];exact this
  have HSE:=hideP (fun (t:ByteArray) (W:World) (h:t.size<=20000)=>seal_impl t W (by unfold maxLen;omega))
  have HIN:Hid (innerV b=if (shortV b).size<(plainV b).size then shortV b else plainV b):=by
   unfold Hid innerV;rw[hps]
  rw[HR.o,HIN.o];clear HR HIN;generalize shortV b=S at HS hss ⊢;generalize plainV b=P at HP hps ⊢
  have hpz:P.size<=49:=by omega
  clear hps;by_cases hlt:S.size<P.size
  ·have hlt':(S.size:Int)<(P.size:Int):=by omega
   rw[if_pos hlt];have HSE1:=hideP (fun W=>HSE.o S W hss);generalize sealV S=R at HSE1 ⊢;go_enter func61,ntmps61
   go_wp2_with fail
   have H1:Hid ((w.alloc (.cells #[.string ⟨#[0]⟩,.string b] 9)).heap[w.heap.size]? = some (.cells #[.string ⟨#[0]⟩,.string b] 9 (0,0))):=heap_alloc_new w _;have B1:=hideP ((Below.refl w.heap.size w).alloc nl (.cells #[.string ⟨#[0]⟩,.string b] 9));refine(HP.o _ _ _ H1.o).mono ?_;rintro e w2 ⟨rfl,hb2⟩;have B2:=hideP (low_keep B1.o hb2);clear hb2 H1 B1
   go_wp2_with fail
   refine(HS.o _).mono ?_;rintro e w3 ⟨rfl,hb3⟩;have B3:=hideP (low_keep B2.o hb3);clear hb3 B2
   go_wp2_with fail
   refine(HSE1.o _).mono ?_;rintro e w4 ⟨rfl,hb4⟩;have B4:=hideP (low_keep B3.o hb4);clear hb4
   go_wp2_with fail
   go_ret;exact⟨rfl,B4.o⟩
  ·have hlt':decide ((S.size:Int)<(P.size:Int))=false:=by simp;omega
   rw[if_neg hlt];have HSE1:=hideP (fun W=>HSE.o P W (by omega));generalize sealV P=R at HSE1 ⊢;go_enter func61,ntmps61
   go_wp2_with fail
   have H1:Hid ((w.alloc (.cells #[.string ⟨#[0]⟩,.string b] 9)).heap[w.heap.size]? = some (.cells #[.string ⟨#[0]⟩,.string b] 9 (0,0))):=heap_alloc_new w _;have B1:=hideP ((Below.refl w.heap.size w).alloc nl (.cells #[.string ⟨#[0]⟩,.string b] 9));refine(HP.o _ _ _ H1.o).mono ?_;rintro e w2 ⟨rfl,hb2⟩;have B2:=hideP (low_keep B1.o hb2);clear hb2 H1 B1
   go_wp2_with fail
   refine(HS.o _).mono ?_;rintro e w3 ⟨rfl,hb3⟩;have B3:=hideP (low_keep B2.o hb3);clear hb3 B2
   go_wp2_with fail
   refine(HSE1.o _).mono ?_;rintro e w4 ⟨rfl,hb4⟩;have B4:=hideP (low_keep B3.o hb4);clear hb4
   go_wp2_with fail
   go_ret;exact⟨rfl,B4.o⟩
end Pk
namespace Up
open Pk
open Gn (rd)
open Hf (up up_length up_set)
open Bi (above openR getR open_spec)
open Go.Proofs.YtaejgfdkfcmjeaaGreatDoor.So (bwtA unR unR_case unbwt_spec tOut)
open Fr (fbackR frontBack_spec)
open Ze (backR zerosBack_spec backR_len)
open In (Ints IsI made_ints)
open Dr (Aft)
def Rd (t:ByteArray) (k:Nat) (at_:Int) (bad:Bool):Prop:=(0<=at_/\at_<=t.size)/\∀ b,Good t b->bad=false/\at_=(posK b k:Int)
theorem rd_end (t:ByteArray) (a:Int):(rd t a).2.1<=t.size:=by
 unfold rd
 split
 ·exact Nat.zero_le _
 ·split
  ·exact Nat.zero_le _
  ·exact Gn.run_place t _ _ _ _
theorem rd_step {t:ByteArray} {k:Nat} {at_ most:Int} {bad:Bool} (h:Rd t k at_ bad) (hk:∀ b,Good t b->∃ v,(numsAll b)[k]? = some v/\v<=most) :
  (okN t at_ bad most->Rd t (k+1) ((rd t at_).2.1:Int) false/\∀ b,Good t b->(numsAll b)[k]? = some (rd t at_).1)/\(¬okN t at_ bad most->∀ b,¬Good t b):=by
 have key:∀ b,Good t b->∃ v,(numsAll b)[k]? = some v/\0<=v/\v<=most/\bad=false/\rd t at_=(v,posK b (k+1),0):=by
  intro b hb;obtain⟨v,h1,h2⟩:=hk b hb;obtain⟨hl,hv⟩:=List.getElem?_eq_some_iff.1 h1;obtain⟨h3,h4⟩:=h.2 b hb
  have:=rd_good hb k hl
  rw[<-h4,hv]at this;exact⟨v,h1,by rw[<-hv];exact(numsAll_mem hb.1 _ (List.getElem_mem hl)).1,h2,h3,this⟩
 refine⟨fun _=>⟨⟨⟨by omega,by have:=rd_end t at_;omega⟩,fun b hb=>?_⟩,fun b hb=>?_⟩,fun hn b hb=>?_⟩
 ·obtain⟨v,_,_,_,_,e⟩:=key b hb
  rw[e];exact⟨rfl,rfl⟩
 ·obtain⟨v,h1,_,_,_,e⟩:=key b hb
  rw[e];exact h1
 ·obtain⟨v,_,h2,h3,h4,e⟩:=key b hb
  exact hn ⟨h4,by rw[e],by rw[e];exact h2,by rw[e];exact h3⟩
theorem num_step (B:Nat) (t:ByteArray) (k:Nat) (at_ most:Int) (bad:Bool) (w:World) (ht:t.size<=1048576) (hm:0<=most) (hb:Rdr w B t at_ bad) (h:Rd t k at_ bad) (hk:∀ b,Good t b->∃ v,(numsAll b)[k]? = some v/\v<=most) :
  Calls prog 143 #[.pointer (some ⟨B,0,none⟩),.int .i64 most] w fun e w'=>∃ n at' bad',e=.returned (.int .i64 n)/\Rdr w' B t at' bad'/\Rd t (k+1) at' bad'/\0<=n/\n<=most/\(∀ b,Good t b->(numsAll b)[k]? = some n)/\Aft B w w':=by
 obtain⟨h1,h2⟩:=rd_step h hk;refine(num_any B t at_ most bad w ht hb).mono ?_;rintro e w' ⟨h3|h3,ha⟩
 ·obtain⟨ho,he,hr⟩:=h3
  exact⟨_,_,_,he,hr,(h1 ho).1,ho.2.2.1,ho.2.2.2,(h1 ho).2,ha⟩
 ·obtain⟨ho,he,hr⟩:=h3
  exact⟨_,_,_,he,hr,⟨h.1,fun b hb=>absurd hb (h2 ho b)⟩,Int.le_refl _,hm,fun b hb=>absurd hb (h2 ho b),ha⟩
theorem rd_first {t:ByteArray} (h:1<=t.size):Rd t 0 1 false:=⟨⟨by decide,by omega⟩,fun b _=>⟨rfl,by unfold posK;simp[numsL]⟩⟩
theorem head_ok {t:ByteArray}:(∀ b,Good t b->∃ v,(numsAll b)[0]? = some v/\v<=48)/\(∀ b,Good t b->∃ v,(numsAll b)[1]? = some v/\v<=48)/\(∀ b,Good t b->∃ v,(numsAll b)[2]? = some v/\v<=400)/\(∀ b,Good t b->∃ v,(numsAll b)[3]? = some v/\v<=257):=by
 refine⟨fun b hb=>⟨_,(numsAll_head b).1,?_⟩,fun b hb=>⟨_,(numsAll_head b).2.1,?_⟩,fun b hb=>⟨_,(numsAll_head b).2.2.1,?_⟩,fun b hb=>⟨_,(numsAll_head b).2.2.2,?_⟩⟩
 ·have:=hb.1;omega
 ·have:=hb.1;have:=bwtA_le hb.1;omega
 ·have:=symS_len b;omega
 ·have:=above_le b;omega
theorem aft_isI {B g:Nat} {T:TypeId} {w w':World} {l:List Int} (h:IsI w g T l) (ha:Aft B w w') (hn:g≠B):IsI w' g T l:=(ha.block g h.lt hn).trans h
theorem zeros_up:up (tabL [] (Hf.zeros 257) [])=List.replicate 257 0:=by
 show up (Hf.zeros 257)=_
 unfold up Hf.zeros;rw[List.map_replicate];rfl
theorem syL_len (b:ByteArray):(syL (lenS b) 257).length=above (up (lenS b)):=by
 rw[above_eq,(lenS_facts b).1]
end Up
namespace Up
open Pk
open Hf (up up_length up_set)
open Bi (above openR getR open_spec)
open Go.Proofs.YtaejgfdkfcmjeaaGreatDoor.So (bwtA unR unR_case unbwt_spec tOut)
open Fr (fbackR frontBack_spec)
open Ze (backR zerosBack_spec backR_len)
open In (Ints IsI made_ints)
open Dr (Aft)
theorem pair_ok {t:ByteArray} {j q:Nat} (h:∀ b,Good t b->j+(q+1)=above (up (lenS b))):(∀ b,Good t b->∃ v,(numsAll b)[4+2*j]? = some v/\v<=256)/\(∀ b,Good t b->∃ v,(numsAll b)[4+2*j+1]? = some v/\v<=12):=by
 refine⟨fun b hb=>?_,fun b hb=>?_⟩
 ·have hj:j<(syL (lenS b) 257).length:=by rw[syL_len];have:=h b hb;omega
  refine⟨_,(numsAll_pair b j hj).1,?_⟩
  have:=syL_lt _ (List.getElem_mem hj)
  omega
 ·have hj:j<(syL (lenS b) 257).length:=by rw[syL_len];have:=h b hb;omega
  refine⟨_,(numsAll_pair b j hj).2,?_⟩
  have:=(lenS_facts b).2.1 (syL (lenS b) 257)[j]
  omega
theorem row_next {t:ByteArray} {j q y:Nat} {z:Int} {l:List Int} (h:∀ b,Good t b->j+(q+1)=above (up (lenS b))/\l=up (tabL (lenS b) (Hf.zeros 257) ((syL (lenS b) 257).take j)))
  (h1:∀ b,Good t b->(numsAll b)[4+2*j]? = some (y:Int)) (h2:∀ b,Good t b->(numsAll b)[4+2*j+1]? = some z) :
  ∀ b,Good t b->(j+1)+q=above (up (lenS b))/\l.set y z=up (tabL (lenS b) (Hf.zeros 257) ((syL (lenS b) 257).take (j+1))):=by
 intro b hb;obtain⟨h3,h4⟩:=h b hb
 have hj:j<(syL (lenS b) 257).length:=by rw[syL_len];omega
 obtain⟨k1,k2⟩:=numsAll_pair b j hj;rw[h1 b hb]at k1;rw[h2 b hb]at k2
 have e1:y=(syL (lenS b) 257)[j]:=by have:=Option.some.inj k1;omega
 have e2:=Option.some.inj k2;refine⟨by omega,?_⟩;rw[tabL_next _ _ _ _ hj,h4,e2,e1,<-up_set]
theorem rdr_other {w:World} {B G k:Nat} {t:ByteArray} {a:Int} {bad:Bool} {v:Value} (h:Rdr w B t a bad) (hn:B<G):Rdr (w.setCell ⟨G,k,none⟩ v) B t a bad:=by
 unfold Rdr;rw[Below.heap_setCell w ⟨G,k,none⟩ v B (by show B≠G;omega)];exact h
theorem low2 {B:Nat} {w0 w w':World} (hB:w0.heap.size=B) (h:Below B w0 w) (hb:Below w.heap.size w w'):Below B w0 w':=h.trans (hb.mono (by rw[<-hB];exact h.size))
theorem ext_size (t:ByteArray) (p:Nat):(t.extract p t.size).size<=t.size:=by
 rw[ByteArray.size_extract];omega
theorem fieldX (yb:ByteArray) (yc:Int) (u:World):(Instr.field 67 (.agg #[.string yb,.int .i64 0,.int .i64 yc]) 0).run prog u=.ok (.string yb) u:=by kernel_rfl
theorem all_read {t:ByteArray} {j p:Nat} {n2 n3:Int} {l:List Int} (h:∀ b,Good t b->j+0=above (up (lenS b))/\l=up (tabL (lenS b) (Hf.zeros 257) ((syL (lenS b) 257).take j)))
  (hr:Rd t (4+2*j) (p:Int) false) (h2:∀ b,Good t b->(numsAll b)[1]? = some n2) (h3:∀ b,Good t b->(numsAll b)[2]? = some n3) :
  ∀ b,Good t b->l=up (lenS b)/\n2=((bwtA b:Nat):Int)/\n3=((symS b).length:Int)/\t.extract p t.size=bitsS b:=by
 intro b hb;obtain⟨h4,h5⟩:=h b hb;have hp:=(hr.2 b hb).2;refine⟨?_,?_,?_,?_⟩
 ·rw[h5,List.take_of_length_le (by rw[syL_len];omega),tabL_all _ (lenS_facts b).1]
 ·have:=h2 b hb
  rw[(numsAll_head b).2.1]at this;exact(Option.some.inj this).symm
 ·have:=h3 b hb
  rw[(numsAll_head b).2.2.1]at this;exact(Option.some.inj this).symm
 ·have e:p=posK b (numsAll b).length:=by
   rw[numsAll_len,<-h4,show 4+2*(j+0)=4+2*j by omega];omega
  rw[e];exact(posK_all hb).2
theorem openS_any (t:ByteArray) (w:World) (h1:1<=t.size) (ht:t.size<=8000) :
  Calls prog 107 #[.string t] w fun e w'=>(∃ r,e=.returned (.string r)/\r.size<=400/\∀ b,Good t b->r=b)/\Below w.heap.size w w':=by
 obtain⟨i0,hi,hz0,hz1,hz2⟩:=info_parts In.Tryz.infoI2;have HT1:=hideP h1;go_enter func107,ntmps107
 go_wp2_with fail
 have R0:Hid (Rdr (w.alloc (.cells #[.string t,.int .i64 1,.bool false] 156)) w.heap.size t 1 false):=heap_alloc_new w _;have L0:Hid (Below w.heap.size w (w.alloc (.cells #[.string t,.int .i64 1,.bool false] 156))):=(Below.refl _ _).alloc nl _;generalize hww:w.alloc (.cells #[.string t,.int .i64 1,.bool false] 156)=w0 at R0 L0 ⊢;clear hww;generalize hBe:w.heap.size=B at R0 L0 ⊢;have HBE:=hideP hBe;clear hBe;refine(num_step B t 0 1 48 false w0 (by omega) (by decide) R0.o (rd_first HT1.o) head_ok.1).mono ?_;rintro e w1 ⟨n1,p1,b1,rfl,hr,hd,hn1,hn2,hn3,ha⟩;have R1:=hideP hr;have D1:=hideP hd;have F1:=hideP hn3;have L1:=hideP (Aft.below L0.o ha nl (Nat.le_of_lt (rdr_lt R0.o)));clear hr hd hn1 hn2 hn3 ha R0 L0 F1
 go_wp2_with fail
 refine(num_step B t 1 p1 48 b1 w1 (by omega) (by decide) R1.o D1.o head_ok.2.1).mono ?_;rintro e w2 ⟨n2,p2,b2,rfl,hr,hd,hn1,hn2,hn3,ha⟩;have R2:=hideP hr;have D2:=hideP hd;have F2:=hideP hn3;have L2:=hideP (Aft.below L1.o ha nl (Nat.le_of_lt (rdr_lt R1.o)));clear hr hd hn1 hn2 hn3 ha R1 D1 L1
 go_wp2_with fail
 refine(num_step B t 2 p2 400 b2 w2 (by omega) (by decide) R2.o D2.o head_ok.2.2.1).mono ?_;rintro e w3 ⟨n3,p3,b3,rfl,hr,hd,hn1,hn2,hn3,ha⟩;have R3:=hideP hr;have D3:=hideP hd;have F3:=hideP hn3;have L3:=hideP (Aft.below L2.o ha nl (Nat.le_of_lt (rdr_lt R2.o)));clear hr hd hn1 hn2 hn3 ha R2 D2 L2
 go_wp2_with (at_make;refine wpList_make_full _ rfl (.const (.int .i64 257)) (.const (.int .i64 257)) 80 rfl w3.heap.size 2 i0 (.int .i64 0) 1 underlying80 hi hz0 hz1 .i64 .i64 _ _ 257 rfl rfl (by omega) (by omega) (by rw[hz2];omega) (by unfold maxLen;omega) nl ?_;intro wm hown hgrow;have I0:=hideP (made_ints hown);have HBm:=hideP ((Below.refl w3.heap.size w3).grown hgrow nl (by simp));clear hown hgrow)
 have Rm:=hideP (show Rdr wm B t p3 b3 from blk_low R3.o HBm.o);have Lm:=hideP (L3.o.trans (HBm.o.mono (Nat.le_of_lt (rdr_lt R3.o))));have hBG:=rdr_lt R3.o;clear HBm L3 R3;generalize w3.heap.size=G at I0 hBG ⊢;refine(num_step B t 3 p3 257 b3 wm (by omega) (by decide) Rm.o D3.o head_ok.2.2.2).mono ?_;rintro e w5 ⟨n4,p4,b4,rfl,hr,hd,hn1,hn2,hn3,ha⟩;have R4:=hideP hr;have D4:=hideP hd;have F4:=hideP hn3;have L4:=hideP (Aft.below Lm.o ha nl (Nat.le_of_lt (rdr_lt Rm.o)));have I5:=hideP (aft_isI I0.o ha (by omega));obtain⟨kq,rfl⟩:=Int.eq_ofNat_of_zero_le hn1
 have hkq:kq<=257:=by omega
 have HK:Hid (∀ b,Good t b->0+kq=above (up (lenS b))/\List.replicate 257 (0:Int)=up (tabL (lenS b) (Hf.zeros 257) ((syL (lenS b) 257).take 0))):=fun b hb=>by
  have:=hn3 b hb
  rw[(numsAll_head b).2.2.2]at this;have e:=Option.some.inj this;refine⟨by omega,?_⟩;rw[List.take_zero];exact zeros_up.symm
 clear hr hd hn1 hn2 hn3 ha Rm D3 Lm F4 I0
 go_wp2_with fail
 go_loopw [7,8] (fun kv _ wr=>∃ (kk j:Nat) (p:Int) (bd:Bool) (l:List Int),kv=.int .i64 kk/\kk<=257/\Rdr wr B t p bd/\Rd t (4+2*j) p bd/\IsI wr G 2 l/\l.length=257/\(∀ b,Good t b->j+kk=above (up (lenS b))/\l=up (tabL (lenS b) (Hf.zeros 257) ((syL (lenS b) 257).take j)))/\Below B w wr) (fun kv _ _=>(intOf kv).toNat)
 case atStart=>exact⟨kq,0,p4,b4,_,rfl,hkq,R4.o,D4.o,I5.o,List.length_replicate ..,HK.o,L4.o⟩
 case round =>
  obtain⟨kk,j,p,bd,l,rfl,hkk,hr,hd,hil,hll,hg,hlw⟩:=hrel;have RW:=hideP hr;have DW:=hideP hd;have IW:=hideP hil;have HG:=hideP hg;have LW:=hideP hlw;have HLL:=hideP hll;have cB2:wr.cell? ⟨B,2,none⟩=some (.bool bd):=cell_of_row wr B 2 _ _ _ hr;have cB1:wr.cell? ⟨B,1,none⟩=some (.int .i64 p):=cell_of_row wr B 1 _ _ _ hr;clear hr hd hil hg hlw hll R4 D4 I5 HK L4
  cases bd with
  |true =>
   have HNO:Hid (∀ b,¬Good t b):=fun b hb=>absurd (DW.o.2 b hb).1 (by decide);by_cases hk0:kk=0
   ·subst hk0
    (go_wp2_with fail);go_ret;exact⟨⟨_,rfl,by decide,fun b hb=>absurd hb (HNO.o b)⟩,by rw[HBE.o];exact LW.o⟩
   ·have hk1:(0:Int)<(kk:Int):=by omega
    (go_wp2_with fail);go_ret;exact⟨⟨_,rfl,by decide,fun b hb=>absurd hb (HNO.o b)⟩,by rw[HBE.o];exact LW.o⟩
  |false =>
   by_cases hk0:kk=0
   ·subst hk0
    have hp1:=DW.o.1.1;have hp2:=DW.o.1.2;obtain⟨pn,rfl⟩:=Int.eq_ofNat_of_zero_le hp1;have HALL:=hideP (all_read HG.o DW.o F2.o F3.o);have HIN:=hideP (IW.o.ints (B:=wr.heap.size) IW.o.lt);have hpn:pn<=t.size:=(by omega);clear HG DW IW RW F2 F3;(go_wp2_with fail);refine(open_spec (t.extract pn t.size) _ wr (by have:=ext_size t pn;omega)).mono ?_;rintro e w8 ⟨rfl,hb8⟩;have I8:=hideP (ints_keep HIN.o hb8);have L8:=hideP (low2 HBE.o LW.o hb8);clear hb8 HIN LW cB1 cB2;obtain⟨xr,hxr⟩:∃ x,x=t.extract pn t.size:=⟨_,rfl⟩;have hxs:xr.size<=8000:=(by rw[hxr];have:=ext_size t pn;omega);have hxz:t.size-pn=xr.size:=(by rw[hxr,ByteArray.size_extract];omega);rw[<-hxr]at HALL ⊢;rw[hxz];clear hxr hxz;obtain⟨bits,hbits⟩:∃ x,x=openR xr (8*(xr.size:Int)):=⟨_,rfl⟩;have hsz:bits.size<=64000:=(by rw[hbits];exact openR_size xr _ hxs);have HGS:=hideP (fun (W:World) (h:Ints W W.heap.size (some ⟨G,0,none⟩) l)=>Bi.get_spec l bits n3 (some ⟨G,0,none⟩) 257 W h (by have:=HLL.o;omega) (by omega));obtain⟨xl,xa,xc,hx⟩:∃ x y z,getR l bits n3=(x,y,z):=⟨_,_,_,rfl⟩
    have HSY:Hid (∀ b,Good t b->xl=symS b/\n2=((bwtA b:Nat):Int)):=fun b hb=>by
     obtain⟨g1,g2,g3,g4⟩:=HALL.o b hb
     have:=bits_back hb
     rw[<-g1,<-g3,<-g4,<-hbits,hx]at this;exact⟨congrArg Prod.fst this,g2⟩
    have ey:xl.length<=400:=by
     have:=Bi.getR_length l bits n3
     rw[hx]at this;exact this
    rw[hx,HLL.o]at HGS;rw[<-hbits];clear hbits hx HALL;(go_wp2_with fail);refine(HGS.o w8 I8.o).mono ?_;rintro e w9 ⟨v9,rfl,ho9,hb9⟩;have L9:=hideP (low2 HBE.o L8.o hb9);clear hb9 I8 L8 HGS;obtain⟨ay,cy,hv,hi9⟩:=In.OwnIn.ints ho9;obtain⟨ny,hny⟩:∃ x,x=xl.length:=⟨_,rfl⟩;rw[<-hny]at hv ey;subst hv;have NY:=hideP hny;have I9:=hideP hi9;clear hny hi9 ho9;(go_wp2_with fail);have hb10:Below w9.heap.size w9 (w9.alloc (.cells #[.slice ay ny cy,.int .i64 xa,.int .i64 xc] 158)):=(Below.refl _ _).alloc nl _;generalize hww:w9.alloc (.cells #[.slice ay ny cy,.int .i64 xa,.int .i64 xc] 158)=w10 at hb10 ⊢;clear hww;have I10:=hideP (ints_keep I9.o hb10);have L10:=hideP (low2 HBE.o L9.o hb10);clear hb10 I9 L9;have HZI:=hideP (fun (W:World) (h:Ints W W.heap.size ay xl)=>zerosBack_spec xl ay cy W.heap.size W h nl (by have:=NY.o;omega));rw[<-NY.o]at HZI;refine(HZI.o w10 I10.o).mono ?_;rintro e w11 ⟨v11,rfl,ho11,hb11⟩;have L11:=hideP (low2 HBE.o L10.o hb11);clear hb11 I10 L10 HZI;obtain⟨az,cz,hv,_,hi11⟩:=ho11.ints;obtain⟨nz,hnz⟩:∃ x,x=(backR xl).length:=⟨_,rfl⟩;rw[<-hnz]at hv;subst hv;have NZ:=hideP hnz;have I11:=hideP hi11;clear hnz hi11 ho11;have ez:nz<=400:=(by rw[NZ.o];exact backR_len _);have HFI:=hideP (fun (W:World) (h:Ints W W.heap.size az (backR xl))=>frontBack_spec (backR xl) az cz W.heap.size W h nl (by have:=NZ.o;omega));rw[<-NZ.o]at HFI;(go_wp2_with fail);refine(HFI.o w11 I11.o).mono ?_;rintro e w12 ⟨rfl,hb12⟩;have L12:=hideP (low2 HBE.o L11.o hb12);clear hb12 I11 L11 HFI;have hfs:(fbackR (backR xl)).length<=400:=fback_len _;obtain⟨tx,htx⟩:∃ x:ByteArray,x=⟨(fbackR (backR xl)).toArray⟩:=⟨_,rfl⟩;have hts:tx.size<=400:=(by rw[htx,size_list];exact hfs);rw[<-htx];have HTX:=hideP htx;clear htx hfs;(go_wp2_with fail);refine(unbwt_spec tx n2 w12 (by omega)).mono ?_;rintro e w13 ⟨rfl,hb13⟩;have L13:=hideP (low2 HBE.o L12.o hb13);clear hb13 L12;obtain⟨yb,yc,hy⟩:=unR_case tx n2
    have HEND:Hid (∀ b,Good t b->yb=b):=fun b hb=>by
     obtain⟨g1,g2⟩:=HSY.o b hb;have h3:=block_back hb.1;rw[<-g1,<-HTX.o,<-g2,hy]at h3;unfold tOut at h3;simp at h3;exact h3.1
    have HYS:Hid (yb.size<=400):=unR_size (by omega) hy;rw[hy];clear hy;have hfld:=fieldX yb yc
    go_wp2
    go_ret;exact⟨⟨_,rfl,HYS.o,HEND.o⟩,by rw[HBE.o];exact L13.o⟩
   ·obtain⟨q,rfl⟩:∃ q,kk=q+1:=⟨kk-1,by omega⟩
    have hk1:(0:Int)<((q+1:Nat):Int):=by omega
    have HOK:=hideP (pair_ok (q:=q) fun b hb=>(HG.o b hb).1);(go_wp2_with fail);refine(num_step B t (4+2*j) p 256 false wr (by omega) (by decide) RW.o DW.o HOK.o.1).mono ?_;rintro e w6 ⟨y,p6,b6,rfl,hr,hd,hn1,hn2,hn3,ha⟩;have R6:=hideP hr;have D6:=hideP hd;have F6:=hideP hn3;have I6:=hideP (aft_isI IW.o ha (by omega));have L6:=hideP (Aft.below LW.o ha nl (Nat.le_of_lt (rdr_lt RW.o)));obtain⟨yn,rfl⟩:=Int.eq_ofNat_of_zero_le hn1;have hyn:yn<257:=(by omega);clear hr hd hn1 hn2 hn3 ha cB1 cB2 RW DW IW LW;(go_wp2_with fail);refine(num_step B t (4+2*j+1) p6 12 b6 w6 (by omega) (by decide) R6.o D6.o HOK.o.2).mono ?_;rintro e w7 ⟨z,p7,b7,rfl,hr,hd,hn1,hn2,hn3,ha⟩;have R7:=hideP hr;have D7:=hideP hd;have F7:=hideP hn3;have I7:=hideP (aft_isI I6.o ha (by omega));have L7:=hideP (Aft.below L6.o ha nl (Nat.le_of_lt (rdr_lt R6.o)));clear hr hd hn1 hn2 hn3 ha R6 D6 I6 L6;have HNX:=hideP (row_next HG.o F6.o F7.o);have cy:=I7.o.cell (j:=yn) (by have:=HLL.o;omega);have fy:=I7.o.frozen yn;have hyi:(yn:Int)<257:=(by omega);generalize l[yn]'(by have:=HLL.o;omega)=old at cy;clear HG F6 F7 HOK;(go_wp2_with fail)
    go_roundw
    case rel =>
     refine⟨q,j+1,p7,b7,l.set yn z,by go_num,by omega,?_,?_,I7.o.set yn z,by rw[List.length_set];exact HLL.o,HNX.o,L7.o.setCell (p:=⟨G,yn,none⟩) (by show B<=G;omega) _⟩
     ·exact rdr_other R7.o (by omega)
     ·rw[show 4+2*(j+1)=4+2*j+1+1 by omega]
      exact D7.o
    case measure=>simp[intOf]
end Up
namespace Up
open Pk
open Gn (rd run numR)
open Hf (up up_length up_set)
open Bi (above)
theorem run_on (s:ByteArray):∀ f k p u,(run s f k p u).2.2=0->p<(run s f k p u).2.1:=by
 intro f
 induction f with
 |zero=>intro k p u h;exact absurd (show (3:Int)=0 from h) (by decide)
 |succ f ih =>
  intro k p u h;rw[run]at h ⊢
  split at h
  ·exact absurd h (by decide)
  ·rename_i h1
   rw[if_neg h1]
   split at h
   ·exact absurd h (by decide)
   ·rename_i h2
    rw[if_neg h2]
    split at h
    ·rename_i h3
     rw[if_pos h3]
     split at h
     ·exact absurd h (by decide)
     ·rename_i h4
      rw[if_neg h4]
      show p<p+1
      omega
    ·rename_i h3
     rw[if_neg h3]
     have:=ih _ _ _ h
     omega
theorem rd_on {s:ByteArray} {a:Nat} (h:(rd s (a:Int)).2.2=0):a<(rd s (a:Int)).2.1:=by
 unfold rd at h ⊢
 split at h
 ·exact absurd h (by decide)
 ·rename_i h1
  rw[if_neg h1]
  split at h
  ·exact absurd h (by decide)
  ·rename_i h2
   rw[if_neg h2];exact run_on s _ _ _ _ h
def RdI (t:ByteArray) (k:Nat) (p:Nat):Prop:=p<=t.size/\∀ b,Good t b->p=posK b k
theorem rdI_step {t:ByteArray} {k p:Nat} (h:RdI t k p) (hk:∀ b,Good t b->k<(numsAll b).length) :
  ((rd t (p:Int)).2.2=0->RdI t (k+1) (rd t (p:Int)).2.1/\∀ b,Good t b->(numsAll b)[k]? = some (rd t (p:Int)).1)/\(¬(rd t (p:Int)).2.2=0->∀ b,¬Good t b):=by
 have key:∀ b,Good t b->∃ v,(numsAll b)[k]? = some v/\rd t (p:Int)=(v,posK b (k+1),0):=by
  intro b hb;have hl:=hk b hb
  have:=rd_good hb k hl
  rw[<-h.2 b hb]at this;exact⟨_,List.getElem?_eq_getElem hl,this⟩
 refine⟨fun _=>⟨⟨rd_end t _,fun b hb=>?_⟩,fun b hb=>?_⟩,fun hn b hb=>?_⟩
 ·obtain⟨v,_,e⟩:=key b hb
  rw[e]
 ·obtain⟨v,h1,e⟩:=key b hb
  rw[e];exact h1
 ·obtain⟨v,_,e⟩:=key b hb
  exact hn (by rw[e])
theorem rdI_first {t:ByteArray} (h:1<=t.size):RdI t 0 1:=⟨h,fun b _=>by unfold posK;simp[numsL]⟩
theorem four_le (b:ByteArray) (k:Nat) (h:k<4):k<(numsAll b).length:=by rw[numsAll_len];omega
end Up
namespace Up
open Pk
open Gn (rd errV)
open Hf (up up_length up_set)
open Bi (above)
open Go.Proofs.YtaejgfdkfcmjeaaGreatDoor.So (bwtA)
theorem errV_yes {c:Int} (h:c=0):errV c=.nilIface:=if_pos h
theorem errV_no {c:Int} (h:¬c=0):errV c=.iface 137 (.agg #[.int .i64 c]):=if_neg h
def HeadF (s:ByteArray) (k:Nat) (l:List Int):Prop:=∀ b,Good s b->∀ j,j<k->(numsAll b)[j]? = l[j]?
theorem head_none (s:ByteArray) (l:List Int):HeadF s 0 l:=fun _ _ j h=>absurd h (by omega)
theorem head_next {s:ByteArray} {k:Nat} {l:List Int} {x:Int} (h:HeadF s k l) (hk:k<l.length) (hx:∀ b,Good s b->(numsAll b)[k]? = some x):HeadF s (k+1) (l.set k x):=by
 intro b hb j hj;by_cases e:j=k
 ·subst e
  rw[hx b hb,List.getElem?_set_self hk]
 ·rw[List.getElem?_set_ne (by omega)]
  exact h b hb j (by omega)
def TabF (s:ByteArray) (m:Nat) (l:List Int):Prop:=∀ b,Good s b->m<=above (up (lenS b))/\l=up (tabL (lenS b) (Hf.zeros 257) ((syL (lenS b) 257).take m))
theorem tab_none (s:ByteArray):TabF s 0 (List.replicate 257 0):=fun b _=>⟨Nat.zero_le _,by rw[List.take_zero];exact zeros_up.symm⟩
theorem tab_lt {s:ByteArray} {m:Nat} {l:List Int} {x3:Int} (hh:HeadF s 4 l) (h3:l[3]? = some x3) (hlt:(m:Int)<x3):∀ b,Good s b->m<above (up (lenS b)):=by
 intro b hb
 have:=hh b hb 3 (by omega)
 rw[(numsAll_head b).2.2.2,h3]at this
 have:=Option.some.inj this
 omega
theorem tab_len {s:ByteArray} {m:Nat} (h:∀ b,Good s b->m<above (up (lenS b))):(∀ b,Good s b->4+2*m<(numsAll b).length)/\(∀ b,Good s b->4+2*m+1<(numsAll b).length) :=
 ⟨fun b hb=>by rw[numsAll_len];have:=h b hb;omega,fun b hb=>by rw[numsAll_len];have:=h b hb;omega⟩
theorem tab_sym {s:ByteArray} {m:Nat} {y:Int} (h:∀ b,Good s b->m<above (up (lenS b))) (hy:∀ b,Good s b->(numsAll b)[4+2*m]? = some y) (hw:y<0∨257<=y):∀ b,¬Good s b:=by
 intro b hb
 have hj:m<(syL (lenS b) 257).length:=by rw[syL_len];exact h b hb
 have h1:=(numsAll_pair b m hj).1;rw[hy b hb]at h1;have h2:=Option.some.inj h1;have h3:=syL_lt _ (List.getElem_mem hj);omega
theorem tab_next {s:ByteArray} {m y:Nat} {z:Int} {l:List Int} (h:TabF s m l) (hlt:∀ b,Good s b->m<above (up (lenS b)))
  (h1:∀ b,Good s b->(numsAll b)[4+2*m]? = some (y:Int)) (h2:∀ b,Good s b->(numsAll b)[4+2*m+1]? = some z):TabF s (m+1) (l.set y z):=by
 intro b hb;obtain⟨h3,h4⟩:=h b hb;have h5:=hlt b hb
 have hj:m<(syL (lenS b) 257).length:=by rw[syL_len];omega
 obtain⟨k1,k2⟩:=numsAll_pair b m hj;rw[h1 b hb]at k1;rw[h2 b hb]at k2
 have e1:y=(syL (lenS b) 257)[m]:=by have:=Option.some.inj k1;omega
 have e2:=Option.some.inj k2;refine⟨by omega,?_⟩;rw[tabL_next _ _ _ _ hj,h4,e2,e1,<-up_set]
def AllF (s:ByteArray) (p:Nat) (l l':List Int):Prop:=∀ b,Good s b->l'=up (lenS b)/\l[1]? = some ((bwtA b:Nat):Int)/\l[2]? = some ((symS b).length:Int)/\s.extract p s.size=bitsS b
theorem tab_end {s:ByteArray} {m p:Nat} {l l':List Int} {x3:Int} (h:TabF s m l') (hh:HeadF s 4 l) (hr:RdI s (4+2*m) p) (h3:l[3]? = some x3) (hge:x3<=(m:Int)):AllF s p l l':=by
 intro b hb;have h4:=hh b hb 3 (by omega);rw[(numsAll_head b).2.2.2,h3]at h4;have h5:=Option.some.inj h4;obtain⟨h6,h7⟩:=h b hb
 have e:m=above (up (lenS b)):=by omega
 refine⟨?_,?_,?_,?_⟩
 ·rw[h7,List.take_of_length_le (by rw[syL_len];omega),tabL_all _ (lenS_facts b).1]
 ·rw[<-hh b hb 1 (by omega),(numsAll_head b).2.1]
 ·rw[<-hh b hb 2 (by omega),(numsAll_head b).2.2.1]
 ·have e2:p=posK b (numsAll b).length:=by
   rw[numsAll_len,<-e];exact hr.2 b hb
  rw[e2];exact(posK_all hb).2
theorem list4 {l:List Int} (h:l.length=4):∃ a b c d,l=[a,b,c,d]:=by
 match l,h with
 |[a,b,c,d],_=>exact⟨a,b,c,d,rfl⟩
end Up
end Go.Proofs.YtaejgfdkfcmjeaaGreatDoor
