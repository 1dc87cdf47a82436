/- Texts put together: PeMark, PeMark2, PeMark3, PeMark4. -/
import Derived.Test.YtikiihjabbmkcaaGreatDoorBz42
import Derived.Test.YtikiihjabbmkcaaGreatDoorBz47
set_option maxRecDepth 100000
set_option maxHeartbeats 8000000
namespace Go.Proofs.YtikiihjabbmkcaaGreatDoor.Pe
open Go.RowKit
open Kp
open In (Ints OwnI)
open Ap (KeepE keepE_own)
open Ls (lowL)
open St (markT markT_any)
structure Chg (lo hi:Nat) (w w':World):Prop where
 os:w'.os=w.os
 tape:w'.tape=w.tape
 output:w'.output=w.output
 size:w.heap.size<=w'.heap.size
 block:∀ k,k<w.heap.size->(k<lo∨hi<=k)->w'.heap[k]? = w.heap[k]?
theorem Chg.refl (lo hi:Nat) (w:World):Chg lo hi w w:=⟨rfl,rfl,rfl,Nat.le_refl _,fun _ _ _=>rfl⟩
theorem Chg.call {lo hi:Nat} {w w1 w2:World} (h:Chg lo hi w w1) (hb:Below w1.heap.size w1 w2):Chg lo hi w w2 :=
 ⟨hb.os.trans h.os,hb.tape.trans h.tape,hb.output.trans h.output,Nat.le_trans h.size hb.size,fun k hk ho=>(hb.block k (Nat.lt_of_lt_of_le hk h.size)).trans (h.block k hk ho)⟩
theorem Chg.set {lo hi g i:Nat} {w w1:World} (h:Chg lo hi w w1) (hl:lo<=g) (hh:g<hi) (v:Value):Chg lo hi w (w1.setCell ⟨g,i,none⟩ v) :=
 ⟨h.os,h.tape,h.output,by simp;exact h.size,fun k hk ho=>by rw[heap_setCell_other w1 _ k v (by show k≠g;omega)];exact h.block k hk ho⟩
theorem Chg.grown {lo hi:Nat} {row:Option Nat} {w w1 w2:World} (h:Chg lo hi w w1) (hg:w1.grownBy w2 row) (hr:∀ g,row=some g->lo<=g/\g<hi):Chg lo hi w w2:=by
 obtain⟨h1,h2,h3,h4,h5⟩:=hg
 refine⟨h1.trans h.os,h2.trans h.tape,h3.trans h.output,Nat.le_trans h.size h4,fun k hk ho=>(h5 k (Nat.lt_of_lt_of_le hk h.size) (fun e=>?_)).trans (h.block k hk ho)⟩
 have:=hr k e.symm
 omega
theorem Chg.below {lo hi B:Nat} {w0 w w':World} (hb:Below B w0 w) (h:Chg lo hi w w') (hl:B<=lo) (hB:B<=w.heap.size):Below B w0 w' :=
 ⟨h.os.trans hb.os,h.tape.trans hb.tape,h.output.trans hb.output,Nat.le_trans hb.size h.size,fun k hk=>(h.block k (by omega) (by omega)).trans (hb.block k hk)⟩
theorem iset_mid (k i:Nat) (l:List Int) (h:i<l.length):(In.mmid l k i).set i ((k+i:Nat):Int)=In.mmid l k (i+1):=In.mmid_next l k i h
theorem ownI_set {W:World} {base g n cap:Nat} {l:List Int} {i:Nat} (h:OwnI W base (.slice (some ⟨g,0,none⟩) n cap) l) (hn:l.length=n) (x:Int):OwnI (W.setCell ⟨g,i,none⟩ (.int .i64 x)) base (.slice (some ⟨g,0,none⟩) n cap) (l.set i x):=by
 unfold OwnI at h ⊢
 rw[List.length_set,List.map_set]
 rw[hn]at h ⊢
 exact own_set h _
theorem markI_from (g n c k base:Nat) (l:List Int) (w:World) (h:OwnI w base (.slice (some ⟨g,0,none⟩) n c) l) (hln:l.length=n) (hn:n<=1048576) (hk:k<=1099511627776) :
  Calls Tryz.prog 14 #[.slice (some ⟨g,0,none⟩) n c,.int .i64 k] w fun e w'=>e=.returned (.int .i64 ((k+n:Nat):Int))/\OwnI w' base (.slice (some ⟨g,0,none⟩) n c) (In.marks k n)/\w.grownBy w' (some g):=by
 have HS:=hideK h
 have HLN:=hideK hln
 clear h hln
 go_enter Tryz.func14,Tryz.ntmps14
 go_wp2_with fail
 go_loopw [5,1] (fun i kv wr=>∃ j:Nat,i=.int .i64 j/\kv=.int .i64 ((k+j:Nat):Int)/\j<=n/\OwnI wr base (.slice (some ⟨g,0,none⟩) n c) (In.mmid l k j)/\w.grownBy wr (some g)) (fun i _ _=>n-(intOf i).toNat)
 case atStart=>exact⟨0,rfl,rfl,by omega,by rw[In.mmid_zero];exact HS.out,Tr.grown_refl _ _⟩
 case round =>
  obtain⟨j,rfl,rfl,hj,h1,ha⟩:=hrel
  have G1:=hideK h1
  have GA:=hideK ha
  clear h1 ha
  by_cases hlt:j<n
  ·have hjl:j<l.length:=by rw[HLN.out];exact hlt
   have hlt':(j:Int)<(n:Int):=by omega
   have HM:=hideK (iset_mid k j l hjl)
   have HL:=hideK (In.mmid_length l k j (by omega))
   have hml:(In.mmid l k j).length=n:=by rw[HL.out,HLN.out]
   obtain⟨v0,ce,cf⟩:∃ v,wr.cell? ⟨g,j,none⟩=some (.int .i64 v)/\wr.frozen? ⟨g,j,none⟩=false:=by
    rcases G1.out.split with⟨h,_⟩|⟨g',cap',hv,_,_,ho⟩
    ·cases h
    ·obtain rfl:g=g':=by simp at hv;exact hv.1
     exact⟨_,ho.cell (j:=j) (by omega),ho.frozen j⟩
   have N1:Hid (OwnI (wr.setCell ⟨g,j,none⟩ (.int .i64 ((k+j:Nat):Int))) base (.slice (some ⟨g,0,none⟩) n c) (In.mmid l k (j+1))):=by
    unfold Hid
    rw[<-HM.out]
    exact ownI_set G1.out hml _
   have N2:Hid (w.grownBy (wr.setCell ⟨g,j,none⟩ (.int .i64 ((k+j:Nat):Int))) (some g)):=by
    obtain⟨a1,a2,a3,a4,a5⟩:=GA.out
    exact⟨a1,a2,a3,by simp;exact a4,fun q hq hne=>by rw[heap_setCell_other wr _ q _ (by exact fun e=>hne (by rw[e]))];exact a5 q hq hne⟩
   clear HM HL hml
   generalize hkk:k+j=kk at N1 N2 ⊢
   have hk2:kk+1=k+(j+1):=by omega
   have hk3:kk<=2199023255552:=by omega
   clear hkk
   have HK2:=hideK hk2
   clear hk2
   go_wp2_with fail
   go_roundw
   case rel=>exact⟨j+1,by go_num,by rw[<-HK2.out];go_num,by omega,N1.out,N2.out⟩
   case measure=>simp[intOf];omega
  ·obtain rfl:j=n:=by omega
   have HE:Hid (In.mmid l k j=In.marks k j):=by
    have:=HLN.out
    subst this
    exact In.mmid_all l k
   have N1:Hid (OwnI wr base (.slice (some ⟨g,0,none⟩) j c) (In.marks k j)):=by rw[<-HE.out];exact G1.out
   have hltD:decide ((j:Int)<(j:Int))=false:=by simp
   generalize hkk:k+j=kk
   have HKK:=hideK hkk
   clear hkk
   go_wp2_with fail
   go_ret
   exact⟨by rw[HKK.out];rfl,N1.out,GA.out⟩
theorem markI_nil (a:Option Addr) (c k:Nat) (w:World) :
  Calls Tryz.prog 14 #[.slice a 0 c,.int .i64 k] w fun e w'=>e=.returned (.int .i64 (k:Int))/\w'=w:=by
 go_enter Tryz.func14,Tryz.ntmps14
 go_wp2_with fail
 go_loopw [5,1] (fun i kv wr=>i=.int .i64 0/\kv=.int .i64 (k:Int)/\wr=w) (fun _ _ _=>0)
 case atStart=>exact⟨rfl,rfl,rfl⟩
 case round =>
  obtain⟨rfl,rfl,hw⟩:=hrel
  subst hw
  go_wp2_with fail
  go_ret
  exact⟨rfl,rfl⟩
theorem markI_own (k base:Nat) (v:Value) (l:List Int) (w:World) (h:OwnI w base v l) (hn:l.length<=1048576) (hk:k<=1099511627776) :
  Calls Tryz.prog 14 #[v,.int .i64 k] w fun e w'=>e=.returned (.int .i64 ((k+l.length:Nat):Int))/\OwnI w' base v (In.marks k l.length)/\w.grownBy w' v.ownBlock:=by
 rcases h.split with⟨rfl,rfl⟩|⟨g,cap,rfl,_,_,_⟩
 ·refine(markI_nil none 0 k w).mono ?_
  rintro e w' ⟨rfl,rfl⟩
  exact⟨rfl,OwnI.nil _ _,Tr.grown_refl _ _⟩
 ·exact markI_from g _ cap k base l w h rfl hn hk
end Go.Proofs.YtikiihjabbmkcaaGreatDoor.Pe


/- The laws' marks in a row of others. -/
namespace Go.Proofs.YtikiihjabbmkcaaGreatDoor.Pe
open Go.RowKit
open Kp
open In (Ints OwnI)
open Ap (KeepE keepE_own)
open Ls (lowL)
open St (markT markT_any)
def mkO (k:Nat) (o:Oth):Oth:=⟨markT k,In.marks (k+1) o.has.length,((k+1+o.has.length:Nat):Int),((k+2+o.has.length:Nat):Int),((k+3+o.has.length:Nat):Int)⟩
def mkN (k:Nat) (o:Oth):Nat:=k+4+o.has.length
def mkL:Nat->List Oth->List Oth
 |_,[]=>[]
 |k,o :: l=>mkO k o :: mkL (mkN k o) l
def mkE:Nat->List Oth->Nat
 |k,[]=>k
 |k,o :: l=>mkE (mkN k o) l
theorem mkL_length:∀ (l:List Oth) (k:Nat),(mkL k l).length=l.length
 |[],_=>rfl
 |o :: l,k=>by rw[mkL,List.length_cons,List.length_cons,mkL_length l]
theorem mkE_append:∀ (l l':List Oth) (k:Nat),mkE k (l++l')=mkE (mkE k l) l'
 |[],_,_=>rfl
 |o :: l,l',k=>by rw[List.cons_append,mkE,mkE,mkE_append l]
theorem mkL_append:∀ (l l':List Oth) (k:Nat),mkL k (l++l')=mkL k l++mkL (mkE k l) l'
 |[],_,_=>rfl
 |o :: l,l',k=>by rw[List.cons_append,mkL,mkL,mkE,mkL_append l];rfl
theorem mkE_le:∀ (l:List Oth) (k:Nat),k<=mkE k l
 |[],k=>Nat.le_refl _
 |o :: l,k=>by
  have:=mkE_le l (mkN k o)
  rw[mkE]
  unfold mkN at this ⊢
  omega
theorem mkE_take {m:List MO} {j k:Nat} (h:j<m.length):mkE k (oths (m.take (j+1)))=mkN (mkE k (oths (m.take j))) m[j].1:=by rw[oths_take h,mkE_append];rfl
theorem mkE_take_le {m:List MO} (k j:Nat):mkE k (oths (m.take j))<=mkE k (oths m):=by
 have h:oths m=oths (m.take j)++oths (m.drop j):=by
  unfold oths
  rw[<-List.map_append,List.take_append_drop]
 rw[h,mkE_append]
 exact mkE_le _ _
theorem mkE_bd:∀ (l:List Oth) (k:Nat),mkE k l<=k+4*l.length+tot l
 |[],k=>by
  unfold mkE
  omega
 |o :: l,k=>by
  have h:=mkE_bd l (mkN k o)
  rw[mkE,List.length_cons]
  have ht:tot (o :: l)=cost o+tot l:=by unfold tot;rw[List.map_cons,List.sum_cons]
  rw[ht]
  unfold mkN at h ⊢
  unfold cost
  omega
theorem cellsO_set4:∀ (m:List MO) (i:Nat) (x:MO) (h:i<m.length),x.2=m[i].2->cellsO (m.set i x)=((((cellsO m).set (i*5) (.string x.1.name)).set (i*5+2) (.int .i64 x.1.asked)).set (i*5+3) (.int .i64 x.1.age)).set (i*5+4) (.int .i64 x.1.strikes)
 |y :: m,0,x,_,e=>by
  have e':x.2=y.2:=e
  rw[List.set_cons_zero,cellsO,cellsO,e']
  rfl
 |y :: m,i+1,x,h,e=>by
  rw[List.set_cons_succ,cellsO,cellsO,cellsO_set4 m i x (Nat.lt_of_succ_lt_succ h) e,show (i+1)*5=i*5+5 by omega,show i*5+5+2=(i*5+2)+5 by omega,show i*5+5+3=(i*5+3)+5 by omega,show i*5+5+4=(i*5+4)+5 by omega]
  rfl
def InB (lo hi:Nat) (v:Value) (m:List MO):Prop:=(∀ g,v.ownBlock=some g->lo<=g/\g<hi)/\∀ x∈m,∀ g,x.2.ownBlock=some g->lo<=g/\g<hi
def midM (k:Nat) (m:List MO) (j:Nat):List MO:=(List.zip (mkL k (oths (m.take j))) ((m.take j).map (·.2)))++m.drop j
theorem midM_zero (k:Nat) (m:List MO):midM k m 0=m:=by unfold midM;simp
theorem midM_length (k:Nat) (m:List MO) (j:Nat) (h:j<=m.length):(midM k m j).length=m.length:=by
 unfold midM
 rw[List.length_append,List.length_zip,mkL_length,oths_length,List.length_map,List.length_take,List.length_drop]
 omega
theorem midM_all (k:Nat) (m:List MO):oths (midM k m m.length)=mkL k (oths m)/\(midM k m m.length).map (·.2)=m.map (·.2):=by
 unfold midM
 rw[List.take_length,List.drop_length,List.append_nil]
 constructor
 ·unfold oths
  rw[List.map_fst_zip (by rw[mkL_length,List.length_map,List.length_map];exact Nat.le_refl _)]
 ·rw[List.map_snd_zip (by rw[mkL_length,oths_length,List.length_map];exact Nat.le_refl _)]
theorem midM_at (k:Nat) (m:List MO) (j:Nat) (h:j<m.length):(midM k m j)[j]'(by rw[midM_length k m j (by omega)];exact h)=m[j]:=by
 have hl:(List.zip (mkL k (oths (m.take j))) ((m.take j).map (·.2))).length=j:=by
  rw[List.length_zip,mkL_length,oths_length,List.length_map,List.length_take]
  omega
 unfold midM
 rw[List.getElem_append_right (by omega)]
 simp only[hl,Nat.sub_self]
 rw[List.getElem_drop]
 rfl
theorem midM_next (k:Nat) (m:List MO) (j:Nat) (h:j<m.length):(midM k m j).set j (mkO (mkE k (oths (m.take j))) m[j].1,m[j].2)=midM k m (j+1):=by
 have hl:(List.zip (mkL k (oths (m.take j))) ((m.take j).map (·.2))).length=j:=by
  rw[List.length_zip,mkL_length,oths_length,List.length_map,List.length_take]
  omega
 unfold midM
 rw[List.set_append,if_neg (by omega),hl,Nat.sub_self,List.drop_eq_getElem_cons h,List.set_cons_zero,oths_take h,mkL_append,List.take_succ_eq_append_getElem h,List.map_append,List.zip_append (by rw[mkL_length,oths_length,List.length_map]),List.append_assoc]
 rfl
theorem apart_snd {m m':List MO} (h:m'.map (·.2)=m.map (·.2)) (ha:Apart m):Apart m':=by
 unfold Apart at ha ⊢
 have:(m.map (·.2)).Pairwise (fun (x y:Value)=>∀ g,x.ownBlock=some g->y.ownBlock≠some g):=List.pairwise_map.2 ha
 rw[<-h]at this
 exact List.pairwise_map.1 this
theorem inB_snd {lo hi:Nat} {v:Value} {m m':List MO} (h:m'.map (·.2)=m.map (·.2)) (hb:InB lo hi v m):InB lo hi v m':=⟨hb.1,fun x hx g hg=>by
 have:x.2∈m.map (·.2):=by rw[<-h];exact List.mem_map_of_mem hx
 obtain⟨y,hy,he⟩:=List.mem_map.1 this
 exact hb.2 y hy g (by rw[he];exact hg)⟩
structure RowM (W:World) (lo hi:Nat) (v:Value) (m:List MO):Prop where
 row:OwnO W lo v m
 has:Hass W lo m
 ap:Apart m
 inb:InB lo hi v m
theorem hass_grown {W W':World} {lo j:Nat} {m:List MO} {x:MO} (h:Hass W lo m) (ha:Apart m) (hj:j<m.length) (hg:W.grownBy W' m[j].2.ownBlock) (hn:OwnI W' lo x.2 x.1.has):Hass W' lo (m.set j x):=by
 intro y hy
 obtain⟨i,hi,rfl⟩:=List.getElem_of_mem hy
 rw[List.length_set]at hi
 by_cases e:j=i
 ·subst e
  rw[List.getElem_set_self]
  exact hn
 ·rw[List.getElem_set_ne e]
  have hne:∀ g,m[i].2.ownBlock=some g->m[j].2.ownBlock≠some g:=fun g h1 h2=>by
   have hp:=List.pairwise_iff_getElem.1 ha
   rcases Nat.lt_or_gt_of_ne e with hlt|hgt
   ·exact hp j i hj hi hlt g h2 h1
   ·exact hp i j hi hj hgt g h1 h2
  obtain⟨hl,ho⟩:=h m[i] (List.getElem_mem hi)
  refine⟨hl,?_⟩
  rcases ho with ho|⟨g,cap,cur,hv,hgb,hb,rest⟩
  ·exact .inl ho
  ·refine .inr ⟨g,cap,cur,hv,hgb,?_,rest⟩
   rw[hg.block g (lt_rowK hb) (fun e=>hne g (by rw[hv];rfl) e.symm)]
   exact hb
end Go.Proofs.YtikiihjabbmkcaaGreatDoor.Pe


namespace Go.Proofs.YtikiihjabbmkcaaGreatDoor.Pe
open Go.RowKit
open Kp
open In (Ints OwnI)
open Ap (KeepE keepE_own)
open Ls (lowL)
open St (markT markT_any)
theorem own_cell {W:World} {base g k n cap p:Nat} {e:TypeId} {xs:List Value} {u:Value} (h:W.ownsRow base e k (.slice (some ⟨g,0,none⟩) n cap) n xs) (hx:xs[p]? = some u):W.cell? ⟨g,p,none⟩=some u/\W.frozen? ⟨g,p,none⟩=false:=by
 obtain⟨hl,h⟩:=h
 rcases h with⟨h,_⟩|⟨g',cap',cur,hv,hg,hb,h1,h2,h3,h4⟩
 ·cases h
 ·obtain rfl:g=g':=by simp at hv;exact hv.1
  have hp:p<n*k:=by
   have:=(List.getElem?_eq_some_iff.1 hx).1
   omega
  rw[<-h4,List.getElem?_take_of_lt hp,Array.getElem?_toList]at hx
  exact⟨(cell_of_row W g p _ _ _ hb).trans hx,frozen_of_row W g p _ _ hb⟩
theorem own_grown {W W':World} {base g k n cap:Nat} {e:TypeId} {xs:List Value} {row:Option Nat} (h:W.ownsRow base e k (.slice (some ⟨g,0,none⟩) n cap) n xs) (hg:W.grownBy W' row) (hr:row≠some g):W'.ownsRow base e k (.slice (some ⟨g,0,none⟩) n cap) n xs:=by
 obtain⟨hl,h⟩:=h
 refine⟨hl,?_⟩
 rcases h with h|⟨g',cap',cur,hv,hgb,hb,rest⟩
 ·exact .inl h
 ·obtain rfl:g=g':=by simp at hv;exact hv.1
  exact .inr ⟨g,cap',cur,hv,hgb,(hg.block g (lt_rowK hb) (fun e=>hr e.symm)).trans hb,rest⟩
theorem own_blk {W:World} {base g k n cap:Nat} {e:TypeId} {xs:List Value} (h:W.ownsRow base e k (.slice (some ⟨g,0,none⟩) n cap) n xs):∃ cur,W.heap[g]? = some (.cells cur e (0,0)):=by
 obtain⟨_,h⟩:=h
 rcases h with⟨h,_⟩|⟨g',cap',cur,hv,_,hb,_⟩
 ·cases h
 ·obtain rfl:g=g':=by simp at hv;exact hv.1
  exact⟨cur,hb⟩
theorem own_down {w w':World} {base e k n:Nat} {v:Value} {xs:List Value} (h:w.ownsRow base e k v n xs) (b:Below w.heap.size w w'):w'.ownsRow base e k v n xs:=by
 obtain⟨hl,h⟩:=h
 refine⟨hl,?_⟩
 rcases h with h|⟨g,cap,cur,hv,hg,hb,rest⟩
 ·exact .inl h
 ·exact .inr ⟨g,cap,cur,hv,hg,by rw[b.block g (lt_rowK hb)];exact hb,rest⟩
theorem ownI_blk {W:World} {base g:Nat} {v:Value} {l:List Int} (h:OwnI W base v l) (hg:v.ownBlock=some g):∃ cur,W.heap[g]? = some (.cells cur 2 (0,0)):=by
 obtain⟨_,h⟩:=h
 rcases h with⟨rfl,_⟩|⟨g',cap',cur,rfl,_,hb,_⟩
 ·simp[Value.ownBlock]at hg
 ·simp[Value.ownBlock]at hg
  subst hg
  exact⟨cur,hb⟩
theorem mark_round {W w1 w3:World} {lo hi g n cap j kj:Nat} {m:List MO} (h:RowM W lo hi (.slice (some ⟨g,0,none⟩) n cap) m) (hn:m.length=n) (hj:j<m.length) (hb1:Below W.heap.size W w1)
  (ho3:OwnI w3 lo m[j].2 (In.marks (kj+1) m[j].1.has.length)) (hg3:(w1.setCell ⟨g,j*5,none⟩ (.string (markT kj))).grownBy w3 m[j].2.ownBlock) :
  w3.ownsRow lo 89 5 (.slice (some ⟨g,0,none⟩) n cap) n ((cellsO m).set (j*5) (.string (markT kj))) /\
  RowM (((w3.setCell ⟨g,j*5+2,none⟩ (.int .i64 ((kj+1+m[j].1.has.length:Nat):Int))).setCell ⟨g,j*5+3,none⟩ (.int .i64 ((kj+2+m[j].1.has.length:Nat):Int))).setCell ⟨g,j*5+4,none⟩ (.int .i64 ((kj+3+m[j].1.has.length:Nat):Int))) lo hi (.slice (some ⟨g,0,none⟩) n cap) (m.set j (mkO kj m[j].1,m[j].2)):=by
 have R0:W.ownsRow lo 89 5 (.slice (some ⟨g,0,none⟩) n cap) n (cellsO m):=by have:=h.row;unfold OwnO at this;rwa[hn]at this
 have R1:=own_down R0 hb1
 have R2:=own_set (p:=j*5) R1 (.string (markT kj))
 obtain⟨cur1,hc1⟩:=own_blk R1
 obtain⟨cur2,hc2⟩:=own_blk R2
 have he:(2:TypeId)≠89:=by decide
 have H1:Hass w1 lo m:=h.has.below hb1
 have H2:Hass (w1.setCell ⟨g,j*5,none⟩ (.string (markT kj))) lo m:=H1.keep (keepE_set hc1 _ _) he
 have hne:m[j].2.ownBlock≠some g:=fun e=>by
  obtain⟨cur,hc⟩:=ownI_blk (H2 m[j] (List.getElem_mem hj)) e
  rw[hc2]at hc
  simp at hc
 have R3:=own_grown R2 hg3 hne
 have R4:=own_set (p:=j*5+2) R3 (.int .i64 ((kj+1+m[j].1.has.length:Nat):Int))
 have R5:=own_set (p:=j*5+3) R4 (.int .i64 ((kj+2+m[j].1.has.length:Nat):Int))
 have R6:=own_set (p:=j*5+4) R5 (.int .i64 ((kj+3+m[j].1.has.length:Nat):Int))
 obtain⟨cur3,hc3⟩:=own_blk R3
 obtain⟨cur4,hc4⟩:=own_blk R4
 obtain⟨cur5,hc5⟩:=own_blk R5
 have H3:Hass w3 lo (m.set j (mkO kj m[j].1,m[j].2)):=hass_grown H2 h.ap hj hg3 ho3
 have hsnd:(m.set j (mkO kj m[j].1,m[j].2)).map (·.2)=m.map (·.2):=by
  rw[List.map_set]
  apply List.ext_getElem?
  intro i
  rw[List.getElem?_set]
  split
  ·rename_i e
   subst e
   simp[hj]
  ·rfl
 refine⟨R3,?_,?_,apart_snd hsnd h.ap,inB_snd hsnd h.inb⟩
 ·unfold OwnO
  rw[List.length_set,hn,cellsO_set4 m j (mkO kj m[j].1,m[j].2) hj rfl]
  exact R6
 ·exact((H3.keep (keepE_set hc3 _ _) he).keep (keepE_set hc4 _ _) he).keep (keepE_set hc5 _ _) he
theorem markOs_any (k lo hi:Nat) (v:Value) (m:List MO) (w:World) (h:RowM w lo hi v m) (hn:m.length<=1048576) (hsm:∀ x∈m,x.1.has.length<=1048576) (h0:0<k) (hk:mkE k (oths m)<=1099511627776) :
  Calls Tryz.prog 66 #[v,.int .i64 k] w fun e w'=>e=.returned (.int .i64 (mkE k (oths m):Nat))/\(∃ m',oths m'=mkL k (oths m)/\m'.map (·.2)=m.map (·.2)/\RowM w' lo hi v m')/\Chg lo hi w w':=by
 have HS:=hideK h
 obtain⟨a,cap,hv,_,_⟩:=h.row.one
 subst hv
 have HSM:=hideK hsm
 have HKE:=hideK hk
 generalize hnn:m.length=n at hn ⊢
 rw[hnn]at HS
 have HN:=hideK hnn
 clear h hsm hk hnn
 have HEND:Hid (∀ (W:World),RowM W lo hi (.slice a n cap) (midM k m n)->∃ m',oths m'=mkL k (oths m)/\m'.map (·.2)=m.map (·.2)/\RowM W lo hi (.slice a n cap) m'):=fun W hW=>⟨midM k m n,by rw[<-HN.out];exact(midM_all k m).1,by rw[<-HN.out];exact(midM_all k m).2,hW⟩
 have HEE:Hid (mkE k (oths (m.take n))=mkE k (oths m)):=by unfold Hid;rw[List.take_of_length_le (by rw[HN.out];exact Nat.le_refl _)]
 go_enter Tryz.func66,Tryz.ntmps66
 go_wp2_with fail
 go_loopw [5,1] (fun i kv wr=>∃ j kj:Nat,i=.int .i64 j/\kv=.int .i64 (kj:Int)/\j<=n/\kj=mkE k (oths (m.take j))/\RowM wr lo hi (.slice a n cap) (midM k m j)/\Chg lo hi w wr) (fun i _ _=>n-(intOf i).toNat)
 case atStart=>exact⟨0,k,rfl,rfl,Nat.zero_le _,rfl,by rw[midM_zero];exact HS.out,Chg.refl _ _ _⟩
 case round =>
  obtain⟨j,kj,rfl,rfl,hj,hkj,hrow,hch⟩:=hrel
  have R:=hideK hrow
  have CH:=hideK hch
  have HKJ:=hideK hkj
  have hkb:kj<=1099511627776:=by rw[hkj];exact Nat.le_trans (mkE_take_le k j) HKE.out
  have hk0:0<kj:=by rw[hkj];exact Nat.lt_of_lt_of_le h0 (mkE_le _ _)
  clear hrow hch hkj
  by_cases hlt:j<n
  ·have hlt':(j:Int)<(n:Int):=by omega
   have hjl:j<m.length:=by rw[HN.out];exact hlt
   have hml:(midM k m j).length=n:=by rw[midM_length k m j (by omega),HN.out]
   have hjm:j<(midM k m j).length:=by omega
   have HAT:=hideK (midM_at k m j hjl)
   obtain⟨g,cp,hv,hlo,hgz,_,hcc⟩:=R.out.row.cells (by omega)
   obtain⟨rfl,rfl⟩:a=some ⟨g,0,none⟩/\cap=cp:=by simp at hv;exact⟨hv.1,hv.2.2⟩
   clear hv
   have hghi:=(R.out.inb.1 g rfl).2
   have hF:=hcc j hjm
   rw[HAT.out]at hF
   have HRD:Hid (∀ (w1 w3:World),Below wr.heap.size wr w1->OwnI w3 lo m[j].2 (In.marks (kj+1) m[j].1.has.length)->(w1.setCell ⟨g,j*5,none⟩ (.string (markT kj))).grownBy w3 m[j].2.ownBlock->w3.ownsRow lo 89 5 (.slice (some ⟨g,0,none⟩) n cap) n ((cellsO (midM k m j)).set (j*5) (.string (markT kj)))/\RowM (((w3.setCell ⟨g,j*5+2,none⟩ (.int .i64 ((kj+1+m[j].1.has.length:Nat):Int))).setCell ⟨g,j*5+3,none⟩ (.int .i64 ((kj+2+m[j].1.has.length:Nat):Int))).setCell ⟨g,j*5+4,none⟩ (.int .i64 ((kj+3+m[j].1.has.length:Nat):Int))) lo hi (.slice (some ⟨g,0,none⟩) n cap) (midM k m (j+1))):=fun w1 w3 h1 h2 h3=>by
    have hq:=mark_round (W:=wr) (w1:=w1) (w3:=w3) (j:=j) (kj:=kj) R.out hml hjm h1 (by rw[HAT.out];exact h2) (by rw[HAT.out];exact h3)
    rw[HAT.out,HKJ.out,midM_next k m j hjl,<-HKJ.out]at hq
    exact hq
   have HX2:Hid (∀ (w1:World),Below wr.heap.size wr w1->OwnI (w1.setCell ⟨g,j*5,none⟩ (.string (markT kj))) lo m[j].2 m[j].1.has/\(w1.setCell ⟨g,j*5,none⟩ (.string (markT kj))).cell? ⟨g,j*5+1,none⟩=some m[j].2):=fun w1 h1=>by
    have hr:=R.out.row.below h1
    obtain⟨cur,hc⟩:=hr.blk
    refine⟨?_,?_⟩
    ·have:=(R.out.has.below h1).keep (keepE_set hc (j*5) (.string (markT kj))) (by decide) ((midM k m j)[j]) (List.getElem_mem hjm)
     rw[HAT.out]at this
     exact this
    ·have hq:=own_set (p:=j*5) (show w1.ownsRow lo 89 5 (.slice (some ⟨g,0,none⟩) n cap) n (cellsO (midM k m j)) by have:=hr;unfold OwnO at this;rwa[hml]at this) (.string (markT kj))
     refine(own_cell hq ?_).1
     rw[List.getElem?_set_ne (by omega),(cellsO_at (midM k m j) j hjm).2.1,HAT.out]
   have HCL:Hid (∀ (W:World) (xs:List Value),xs=(cellsO (midM k m j)).set (j*5) (.string (markT kj))->W.ownsRow lo 89 5 (.slice (some ⟨g,0,none⟩) n cap) n xs->W.cell? ⟨g,j*5+2,none⟩=some (.int .i64 m[j].1.asked)/\W.cell? ⟨g,j*5+3,none⟩=some (.int .i64 m[j].1.age)/\W.cell? ⟨g,j*5+4,none⟩=some (.int .i64 m[j].1.strikes)/\∀ o,W.frozen? ⟨g,o,none⟩=false):=fun W xs hxs hW=>by
    have hc:=cellsO_at (midM k m j) j hjm
    rw[HAT.out]at hc
    obtain⟨cur,hb⟩:=own_blk hW
    exact⟨(own_cell hW (by rw[hxs,List.getElem?_set_ne (by omega)];exact hc.2.2.1)).1,(own_cell hW (by rw[hxs,List.getElem?_set_ne (by omega)];exact hc.2.2.2.1)).1,(own_cell hW (by rw[hxs,List.getElem?_set_ne (by omega)];exact hc.2.2.2.2)).1,fun o=>frozen_of_row W g o _ _ hb⟩
   have HNX:=hideK (mkE_take (k:=k) hjl)
   rw[<-HKJ.out]at HNX
   have hkx:=HSM.out m[j] (List.getElem_mem hjl)
   have HMI:=hideK (fun W (hW:OwnI W lo m[j].2 m[j].1.has)=>markI_own (kj+1) lo m[j].2 m[j].1.has W hW hkx (by have:=Nat.le_trans (mkE_take_le (m:=m) k (j+1)) HKE.out;rw[HNX.out]at this;unfold mkN at this;omega))
   have HBK:Hid (∀ q,m[j].2.ownBlock=some q->lo<=q/\q<hi):=fun q hq=>R.out.inb.2 ((midM k m j)[j]) (List.getElem_mem hjm) q (by rw[HAT.out];exact hq)
   obtain⟨av,cv,hxv,_,_⟩:=(show OwnI wr lo m[j].2 m[j].1.has by have:=R.out.has ((midM k m j)[j]) (List.getElem_mem hjm);rw[HAT.out]at this;exact this).ints
   unfold mkN at HNX
   obtain⟨d0,d1,d2,d3,d4⟩:=hF
   have hfz:=R.out.row.frozen (j*5)
   generalize m[j].1.name=nm at d0
   generalize m[j].1.has=l at HRD HX2 HMI HNX hkx hxv
   generalize m[j].1.asked=q1 at d2 HCL
   generalize m[j].1.age=q2 at d3 HCL
   generalize m[j].1.strikes=q3 at d4 HCL
   generalize m[j].2=xv at d1 HRD HX2 HMI HBK hxv
   subst hxv
   generalize hll:l.length=ll at HRD HMI HNX hkx d1 HX2 HBK
   have hz4:Hid (mkE k (oths (m.take (j+1)))<=1099511627776):=Nat.le_trans (mkE_take_le k (j+1)) HKE.out
   have hkl:kj+4+ll<=1099511627776:=by rw[<-HNX.out];exact hz4.out
   clear hcc hml HAT hll hz4
   have HMT:=hideK (markT_any kj wr hk0 hkb)
   go_wp2_with fail
   refine HMT.out.mono ?_
   rintro e w1 ⟨rfl,hb1⟩
   have B1:=hideK hb1
   have y0:=(hb1.cell (p:=⟨g,j*5,none⟩) hgz).trans d0
   have yf:=(hb1.frozen (p:=⟨g,j*5,none⟩) hgz).trans hfz
   obtain⟨hoi,hcell⟩:=HX2.out w1 hb1
   have HM2:=hideK (HMI.out _ hoi)
   have C1:=hideK ((CH.out.call hb1).set (i:=j*5) hlo hghi (.string (markT kj)))
   clear d0 d1 d2 d3 d4 hfz hb1 HMT hoi
   go_upto_region 6 with fail
   have HR1:=hideK (fun w3=>HRD.out w1 w3 B1.out)
   generalize w1.setCell ⟨g,j*5,none⟩ (.string (markT kj))=W2 at HM2 C1 hcell HR1 ⊢
   clear y0 yf HRD HX2
   rw[show ((kj+1:Nat):Int)=(kj:Int)+1 by omega]at HM2
   go_wp2_with fail
   refine HM2.out.mono ?_
   rintro e w3 ⟨rfl,ho3,hg3⟩
   obtain⟨hr3,hrm⟩:=HR1.out w3 ho3 hg3
   obtain⟨e2,e3,e4,ef⟩:=HCL.out w3 _ rfl hr3
   have C3:=hideK ((((C1.out.grown hg3 HBK.out).set (i:=j*5+2) hlo hghi (.int .i64 ((kj+1+ll:Nat):Int))).set (i:=j*5+3) hlo hghi (.int .i64 ((kj+2+ll:Nat):Int))).set (i:=j*5+4) hlo hghi (.int .i64 ((kj+3+ll:Nat):Int)))
   have RM:=hideK hrm
   clear ho3 hg3 hr3 hrm hcell HR1 HCL HM2
   have hs1:((kj+2+ll:Nat):Int)=((kj+1+ll:Nat):Int)+1:=by omega
   have hs2:((kj+3+ll:Nat):Int)=((kj+1+ll:Nat):Int)+1+1:=by omega
   rw[hs1,hs2]at RM C3
   have hs3:((kj+1+ll:Nat):Int)+1+1+1=((kj+4+ll:Nat):Int):=by omega
   have HS3:=hideK hs3
   have hb9:((kj+1+ll:Nat):Int)<=1099511627776:=by omega
   have hb8:0<=((kj+1+ll:Nat):Int):=by omega
   clear hs1 hs2 hs3
   generalize ((kj+1+ll:Nat):Int)=K1 at RM C3 HS3 hb8 hb9 ⊢
   go_wp2_with fail
   go_roundw
   case rel=>exact⟨j+1,kj+4+ll,by go_num,by rw[<-HS3.out],by omega,HNX.out.symm,RM.out,C3.out⟩
   case measure=>simp[intOf];omega
  ·obtain rfl:j=n:=by omega
   have HE2:Hid (kj=mkE k (oths m)):=by unfold Hid;rw[HKJ.out,HEE.out]
   have HF:=hideK (HEND.out wr R.out)
   have hltD:decide ((j:Int)<(j:Int))=false:=by simp
   go_wp2_with fail
   go_ret
   exact⟨by rw[<-HE2.out];rfl,HF.out,CH.out⟩
end Go.Proofs.YtikiihjabbmkcaaGreatDoor.Pe


namespace Go.Proofs.YtikiihjabbmkcaaGreatDoor.Pe
open Go.RowKit
open Kp
open Ls (lowL)
theorem Chg.after {lo hi:Nat} {w w1 w2:World} (hb:Below w.heap.size w w1) (h:Chg lo hi w1 w2):Chg lo hi w w2 :=
 ⟨h.os.trans hb.os,h.tape.trans hb.tape,h.output.trans hb.output,Nat.le_trans hb.size h.size,fun k hk ho=>(h.block k (Nat.lt_of_lt_of_le hk hb.size) ho).trans (hb.block k hk)⟩
theorem RowM.call {W W':World} {lo hi:Nat} {v:Value} {m:List MO} (h:RowM W lo hi v m) (hb:Below W.heap.size W W'):RowM W' lo hi v m:=⟨h.row.below hb,h.has.below hb,h.ap,h.inb⟩
theorem MadeO.rowM {W:World} {base:Nat} {v:Value} {m mo:List MO} (h:MadeO W base v m mo):RowM W base W.heap.size v mo :=
 ⟨h.row,h.has,h.ap,fun _ hg=>World.ownsRow.lt h.row _ hg,fun x hx _ hg=>World.ownsRow.lt (h.has x hx) _ hg⟩
theorem markP_any (z b:Int) (r s:ByteArray) (y:Int) (k lo hi:Nat) (v:Value) (m:List MO) (w:World) (h:RowM w lo hi v m) (hn:m.length<=1048576) (hsm:∀ x∈m,x.1.has.length<=1048576) (h0:0<k) (hk:mkE k (oths m)<=1099511627776) :
  Calls Tryz.prog 24 #[peerV z b r s y v,.int .i64 k] w fun e w'=>e=.returned (.int .i64 (mkE k (oths m):Nat))/\(∃ m',oths m'=mkL k (oths m)/\m'.map (·.2)=m.map (·.2)/\RowM w' lo hi v m')/\Chg lo hi w w':=by
 have C0:=hideK ((Cx.nil w).new (peerO z b r s y v))
 have B0:Hid (Below w.heap.size w (w.alloc (peerO z b r s y v))):=(Below.refl _ _).alloc (Nat.le_refl _) _
 have HM:=hideK (fun W (hW:Below w.heap.size w W)=>markOs_any k lo hi v m W (h.call hW) hn hsm h0 hk)
 obtain⟨a,cap,hv,_,_⟩:=h.row.one
 subst hv
 clear h hsm hk
 generalize mkE k (oths m)=E at HM ⊢
 unfold peerV
 unfold peerO at C0 B0
 go_enter Tryz.func24,Tryz.ntmps24
 go_upto_region 1 with fail
 generalize w.alloc _=W0 at C0 B0 ⊢
 obtain⟨p0,p1,p2,p3,p4,p5⟩:=cellsP6 (C0.out.get 0 rfl)
 go_wp2_with fail
 refine(HM.out _ B0.out).mono ?_
 rintro e w1 ⟨rfl,hm,hc⟩
 have H1:=hideK hm
 have C1:=hideK (Chg.after B0.out hc)
 clear hm hc
 go_wp2_with fail
 go_ret
 exact⟨rfl,H1.out,C1.out⟩
end Go.Proofs.YtikiihjabbmkcaaGreatDoor.Pe

