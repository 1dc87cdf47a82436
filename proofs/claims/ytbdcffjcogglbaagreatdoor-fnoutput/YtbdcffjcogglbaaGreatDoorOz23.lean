import Derived.Test.YtbdcffjcogglbaaGreatDoorOz19
import Derived.Test.YtbdcffjcogglbaaGreatDoorOz15
import Derived.StillTail
import Derived.OrdersIn
import Derived.CallsIn
import Derived.OwnWalkIn
import Derived.TacticsInMore
import Derived.Test.YtbdcffjcogglbaaGreatDoorOz29
import Derived.RangeFuncNested
import Derived.RangeFuncBound
import Derived.RangeFuncCalls
import Derived.RangeFuncLeaves
import Derived.RangeFuncBox
import Derived.Shelf.Abstract
import Derived.Shelf.RegionOpen
import Derived.LoopNIn
import Derived.LoopIn
import Derived.Maps.AppendAt
import Derived.Stop.RegionWithIn
set_option maxRecDepth 100000
set_option maxHeartbeats 8000000
namespace Go.Proofs.YtbdcffjcogglbaaGreatDoor
open Go.RowKit
open Go.Proofs.Tryz
namespace Bi
def okL (m x:Int):Prop:=0<=x/\x<=m
def within (l:List Int) (m:Int):Bool:=decide (l.length<=257/\∀ x∈l,0<=x/\x<=m)
theorem within_yes {l:List Int} {m:Int} (h:within l m=true):l.length<=257/\∀ x∈l,0<=x/\x<=m:=of_decide_eq_true h
theorem within_of {l:List Int} {m:Int} (h1:l.length<=257) (h2:∀ x∈l,0<=x/\x<=m):within l m=true:=decide_eq_true ⟨h1,h2⟩
theorem within_long {l:List Int} {m:Int} (h:257<l.length):within l m=false:=decide_eq_false fun x=>by have:=x.1;omega
def part (x:Int):Nat:=if 0<x then 2 ^ (12-x.toNat) else 0
def csum (l:List Int):Nat:=(l.map part).sum
def above (l:List Int):Nat:=l.countP fun x=>decide (0<x)
theorem take_more {l:List Int} {k:Nat} (h:k<l.length):l.take (k+1)=l.take k++[l[k]]:=List.take_succ_eq_append_getElem h
theorem csum_snoc (l:List Int) (x:Int):csum (l++[x])=csum l+part x:=by simp[csum]
theorem above_snoc (l:List Int) (x:Int):above (l++[x])=above l+if 0<x then 1 else 0:=by simp[above,List.countP_append,List.countP_cons]
theorem csum_more {l:List Int} {k:Nat} (h:k<l.length):csum (l.take (k+1))=csum (l.take k)+part l[k]:=by
 rw[take_more h,csum_snoc]
theorem above_more {l:List Int} {k:Nat} (h:k<l.length):above (l.take (k+1))=above (l.take k)+if 0<l[k] then 1 else 0:=by
 rw[take_more h,above_snoc]
theorem part_le (x:Int):part x<=4096:=by
 unfold part
 split
 ·have:=Nat.pow_le_pow_right (n:=2) (by decide) (show 12-x.toNat<=12 by omega)
  omega
 ·omega
theorem above_le (l:List Int):above l<=l.length:=List.countP_le_length
theorem above_zero:∀ l:List Int,above l=0->csum l=0/\∀ x∈l,¬0<x:=by
 intro l
 induction l with
 |nil=>intro _;exact⟨rfl,fun x hx=>by cases hx⟩
 |cons x l ih =>
  intro h;simp only[above,List.countP_cons]at h
  have hx:¬0<x:=by
   intro hx;simp[hx]at h
  obtain⟨h1,h2⟩:=ih (by simp only[above];omega);refine⟨?_,fun y hy=>?_⟩
  ·simp only[csum,List.map_cons,List.sum_cons]
   simp only[csum]at h1;rw[h1,part,if_neg hx]
  ·rcases List.mem_cons.1 hy with e|hy
   ·rw[e];exact hx
   ·exact h2 y hy
theorem above_one:∀ l:List Int,above l=1->∃ x,x∈l/\0<x/\csum l=2 ^ (12-x.toNat)/\∀ y∈l,0<y->y=x:=by
 intro l
 induction l with
 |nil=>intro h;simp[above]at h
 |cons x l ih =>
  intro h;simp only[above,List.countP_cons]at h;by_cases hx:0<x
  ·simp[hx]at h
   have h0:above l=0:=by
    simp only[above,List.countP_eq_zero];intro y hy
    have:=h y hy
    simpa using this
   obtain⟨h1,h2⟩:=above_zero l h0;refine⟨x,List.mem_cons_self,hx,?_,fun y hy hp=>?_⟩
   ·simp only[csum,List.map_cons,List.sum_cons]
    simp only[csum]at h1;rw[h1,part,if_pos hx];rfl
   ·rcases List.mem_cons.1 hy with e|hy
    ·exact e
    ·exact absurd hp (h2 y hy)
  ·simp[hx]at h
   obtain⟨z,hz,hz0,hs,ha⟩:=ih h;refine⟨z,List.mem_cons_of_mem _ hz,hz0,?_,fun y hy hp=>?_⟩
   ·simp only[csum,List.map_cons,List.sum_cons]
    simp only[csum]at hs;rw[hs,part,if_neg hx,Nat.zero_add]
   ·rcases List.mem_cons.1 hy with e|hy
    ·rw[e]at hp;exact absurd hp hx
    ·exact ha y hy hp
theorem pow11 (n:Nat) (h1:1<=n) (h:2 ^ (12-n)=2048):n=1:=by
 rcases Nat.lt_or_ge n 13 with h13|h13
 ·have:n=1∨n=2∨n=3∨n=4∨n=5∨n=6∨n=7∨n=8∨n=9∨n=10∨n=11∨n=12:=by omega
  rcases this with rfl|rfl|rfl|rfl|rfl|rfl|rfl|rfl|rfl|rfl|rfl|rfl<;>first|rfl|(simp at h)
 ·rw[show 12-n=0 by omega]at h
  simp at h
theorem alone (l:List Int) (h:above l=1):l.contains 1=decide (csum l=2048):=by
 obtain⟨x,hx,hx0,hs,ha⟩:=above_one l h;by_cases e:x=1
 ·subst e
  rw[List.contains_iff_mem.2 hx,hs];rfl
 ·have h1:¬(1:Int)∈l:=fun hm=>e (ha 1 hm (by decide)).symm
  have h2:¬csum l=2048:=by
   rw[hs];intro h3
   have:=pow11 x.toNat (by omega) h3
   omega
  rw[decide_eq_false h2]
  cases hc:l.contains 1 with
  |false=>rfl
  |true=>exact absurd (List.contains_iff_mem.1 hc) h1
def right (l:List Int):Bool:=within l 12 && decide (csum l<=4096)
def whole (l:List Int):Bool:=right l && (decide (csum l=4096) || decide (above l=1) && decide (csum l=2048))
theorem right_yes {l:List Int} (h:right l=true):within l 12=true/\csum l<=4096:=by
 unfold right at h;rw[Bool.and_eq_true]at h;exact⟨h.1,of_decide_eq_true h.2⟩
theorem right_of {l:List Int} (h1:within l 12=true) (h2:csum l<=4096):right l=true:=by
 unfold right;rw[h1,decide_eq_true h2];rfl
theorem right_no {l:List Int} (h:within l 12=false∨¬csum l<=4096):right l=false:=by
 unfold right
 rcases h with h|h
 ·rw[h];rfl
 ·rw[decide_eq_false h,Bool.and_false]
theorem whole_no {l:List Int} (h:right l=false):whole l=false:=by unfold whole;rw[h];rfl
theorem shr_part (n:Nat) (h1:1<=n) (h2:n<=12):(4096:Int)/2 ^ n=((2 ^ (12-n):Nat):Int):=by
 have:n=1∨n=2∨n=3∨n=4∨n=5∨n=6∨n=7∨n=8∨n=9∨n=10∨n=11∨n=12:=by omega
 rcases this with rfl|rfl|rfl|rfl|rfl|rfl|rfl|rfl|rfl|rfl|rfl|rfl<;>rfl
end Bi
namespace Ze
theorem hideZ {p:Prop} (h:p):Hid p:=h
def zrun (r:Nat):List Int :=
 if r=0 then [] else if r%2=1 then 0 :: zrun ((r-1)/2) else 1 :: zrun ((r-2)/2)
termination_by r
decreasing_by all_goals omega
theorem zrun_zero:zrun 0=[]:=by rw[zrun];rfl
theorem zrun_odd {r:Nat} (h:r%2=1):zrun r=0 :: zrun ((r-1)/2):=by
 rw[zrun,if_neg (by omega),if_pos h]
theorem zrun_even {r:Nat} (h0:0<r) (h:¬r%2=1):zrun r=1 :: zrun ((r-2)/2):=by
 rw[zrun,if_neg (by omega),if_neg h]
theorem zrun_len (r:Nat):(zrun r).length<=r:=by
 induction r using Nat.strongRecOn with
 |ind r ih =>
  by_cases h0:r=0
  ·subst h0;rw[zrun_zero];exact nl
  ·by_cases h1:r%2=1
   ·rw[zrun_odd h1,List.length_cons]
    have:=ih ((r-1)/2) (by omega)
    omega
   ·rw[zrun_even (by omega) h1,List.length_cons]
    have:=ih ((r-2)/2) (by omega)
    omega
theorem zrun_mem (r:Nat):∀ x∈zrun r,x=0∨x=1:=by
 induction r using Nat.strongRecOn with
 |ind r ih =>
  intro x hx;by_cases h0:r=0
  ·subst h0;rw[zrun_zero]at hx;cases hx
  ·by_cases h1:r%2=1
   ·rw[zrun_odd h1]at hx
    rcases List.mem_cons.1 hx with e|hx
    ·exact .inl e
    ·exact ih ((r-1)/2) (by omega) x hx
   ·rw[zrun_even (by omega) h1]at hx
    rcases List.mem_cons.1 hx with e|hx
    ·exact .inr e
    ·exact ih ((r-2)/2) (by omega) x hx
def upTo (l:List Int) (m:Int):Bool:=decide (∀ x∈l,0<=x/\x<=m)
theorem upTo_yes {l:List Int} {m:Int} (h:upTo l m=true):∀ x∈l,0<=x/\x<=m:=of_decide_eq_true h
theorem upTo_of {l:List Int} {m:Int} (h:∀ x∈l,0<=x/\x<=m):upTo l m=true:=decide_eq_true h
theorem upTo_bad {l:List Int} {m:Int} {j:Nat} (hj:j<l.length) (h:l[j]<0∨m<l[j]):upTo l m=false:=decide_eq_false fun x=>by
 have:=x _ (List.getElem_mem hj)
 omega
def numsR (l:List Int) (m:Int):Bool:=decide (l.length<=400) && upTo l m
theorem numsR_yes {l:List Int} {m:Int} (h:numsR l m=true):l.length<=400/\upTo l m=true:=by
 unfold numsR at h;rw[Bool.and_eq_true]at h;exact⟨of_decide_eq_true h.1,h.2⟩
theorem numsR_long {l:List Int} {m:Int} (h:400<l.length):numsR l m=false:=by
 unfold numsR;rw[decide_eq_false (by omega)];rfl
theorem numsR_of {l:List Int} {m:Int} (h:l.length<=400):numsR l m=upTo l m:=by
 unfold numsR;rw[decide_eq_true h];rfl
def zstep (s:List Int × Nat) (n:Int):List Int × Nat:=if n=0 then (s.1,s.2+1) else (s.1++zrun s.2++[n+1],0)
def zst (l:List Int):List Int × Nat:=l.foldl zstep ([],0)
theorem zst_more {l:List Int} {k:Nat} (h:k<l.length):zst (l.take (k+1))=zstep (zst (l.take k)) l[k]:=by
 unfold zst;rw[Bi.take_more h,List.foldl_append];rfl
theorem zst_zero {l:List Int} {k:Nat} (h:k<l.length) (h0:l[k]=0):zst (l.take (k+1))=((zst (l.take k)).1,(zst (l.take k)).2+1):=by
 rw[zst_more h,zstep,if_pos h0]
theorem zst_other {l:List Int} {k:Nat} (h:k<l.length) (h0:¬l[k]=0):zst (l.take (k+1))=((zst (l.take k)).1++zrun (zst (l.take k)).2++[l[k]+1],0):=by
 rw[zst_more h,zstep,if_neg h0]
theorem zst_len (l:List Int):(zst l).1.length+(zst l).2<=l.length:=by
 suffices h:∀ k,k<=l.length->(zst (l.take k)).1.length+(zst (l.take k)).2<=k by
  have:=h l.length nl
  rwa[List.take_length]at this
 intro k
 induction k with
 |zero=>intro _;simp[zst]
 |succ k ih =>
  intro hk
  have:=ih (by omega)
  by_cases h0:l[k]=0
  ·rw[zst_zero hk h0]
   simp only
   omega
  ·rw[zst_other hk h0]
   have hz:=zrun_len (zst (l.take k)).2;simp only[List.length_append,List.length_cons,List.length_nil];omega
def zerosR (l:List Int):List Int:=if numsR l 255=true then (zst l).1++zrun (zst l).2 else []
theorem zerosR_yes {l:List Int} (h:numsR l 255=true):zerosR l=(zst l).1++zrun (zst l).2:=if_pos h
theorem zerosR_no {l:List Int} (h:numsR l 255=false):zerosR l=[]:=if_neg (by rw[h];decide)
theorem zerosR_len (l:List Int):(zerosR l).length<=l.length:=by
 unfold zerosR
 split
 ·rw[List.length_append]
  have:=zst_len l
  have:=zrun_len (zst l).2
  omega
 ·exact Nat.zero_le _
def bstep (s:List Int × Nat) (n:Int):List Int × Nat:=if 1<n then (s.1++[n-1],1) else (s.1++List.replicate ((n.toNat+1)*s.2) 0,s.2*2)
def bst (l:List Int):List Int × Nat:=l.foldl bstep ([],1)
theorem bst_more {l:List Int} {k:Nat} (h:k<l.length):bst (l.take (k+1))=bstep (bst (l.take k)) l[k]:=by
 unfold bst;rw[Bi.take_more h,List.foldl_append];rfl
theorem bst_one {l:List Int} {k:Nat} (h:k<l.length) (h0:1<l[k]):bst (l.take (k+1))=((bst (l.take k)).1++[l[k]-1],1):=by
 rw[bst_more h,bstep,if_pos h0]
theorem bst_zeros {l:List Int} {k:Nat} (h:k<l.length) (h0:¬1<l[k]):bst (l.take (k+1))=((bst (l.take k)).1++List.replicate ((l[k].toNat+1)*(bst (l.take k)).2) 0,(bst (l.take k)).2*2):=by
 rw[bst_more h,bstep,if_neg h0]
theorem bst_worth (l:List Int):∀ k,k<=l.length->1<=(bst (l.take k)).2/\(bst (l.take k)).2<=(bst (l.take k)).1.length+1:=by
 intro k
 induction k with
 |zero=>intro _;simp[bst]
 |succ k ih =>
  intro hk;obtain⟨h1,h2⟩:=ih (by omega);by_cases h0:1<l[k]
  ·rw[bst_one hk h0]
   simp only[List.length_append,List.length_cons,List.length_nil];omega
  ·rw[bst_zeros hk h0]
   simp only[List.length_append,List.length_replicate];generalize (bst (l.take k)).2=wo at h1 h2 ⊢
   have:wo<=(l[k].toNat+1)*wo:=Nat.le_mul_of_pos_left _ (by omega)
   omega
theorem bst_grow {l:List Int} {k:Nat} (h:k<l.length):(bst (l.take k)).1.length<=(bst (l.take (k+1))).1.length:=by
 by_cases h0:1<l[k]
 ·rw[bst_one h h0]
  simp only[List.length_append];omega
 ·rw[bst_zeros h h0]
  simp only[List.length_append];omega
theorem bst_mono (l:List Int) (j:Nat):∀ k,j<=k->k<=l.length->(bst (l.take j)).1.length<=(bst (l.take k)).1.length:=by
 intro k
 induction k with
 |zero=>intro h _;rw[show j=0 by omega];exact nl
 |succ k ih =>
  intro h hk
  rcases Nat.lt_or_ge k j with hj|hj
  ·rw[show j=k+1 by omega];exact nl
  ·exact Nat.le_trans (ih hj (by omega)) (bst_grow hk)
def backR (l:List Int):List Int:=if numsR l 256=true/\(bst l).1.length<=400 then (bst l).1 else []
theorem backR_yes {l:List Int} (h:numsR l 256=true) (h2:(bst l).1.length<=400):backR l=(bst l).1:=if_pos ⟨h,h2⟩
theorem backR_no {l:List Int} (h:numsR l 256=false):backR l=[]:=if_neg fun x=>by rw[h]at x;exact absurd x.1 (by decide)
theorem backR_long {l:List Int} {k:Nat} (hk:k<=l.length) (h2:400<(bst (l.take k)).1.length):backR l=[]:=if_neg fun x=>by
 have:=bst_mono l k l.length hk nl
 rw[List.take_length]at this
 have:=x.2
 omega
theorem backR_len (l:List Int):(backR l).length<=400:=by
 unfold backR
 split
 ·rename_i h;exact h.2
 ·simp
end Ze
namespace In
def IsNums (w:World) (a:Option Addr) (len cap:Nat) (zs:List Int):Prop :=
 (a=none/\len=0/\cap=0/\zs=[]) ∨
 ∃ x,a=some x/\len<=cap/\cap<=maxLen/\zs.length=cap/\(∀ i,i<zs.length->w.cell? (x.add i)=some (.int .i64 (zs.getD i 0)))/\∀ n∈zs,(Lit.int .i64 n).wf=true
def Wf (l:List Int):Prop:=∀ n∈l,-9223372036854775808<=n/\n<=9223372036854775807
end In
namespace Bi
open In (Ints)
open Ze (upTo upTo_yes upTo_of upTo_bad)
theorem upTo_impl (l:List Int) (m:Int) (a:Option Addr) (cap B:Nat) (w:World) (hi:Ints w B a l) (hn:l.length<=1048576) :
  Calls prog 124 #[.slice a l.length cap,.int .i64 m] w fun e w'=>e=.returned (.bool (upTo l m))/\w'=w:=by
 have HS:=hideB hi;clear hi;obtain⟨n,hln⟩:∃ n,n=l.length:=⟨_,rfl⟩;have HLN:=hideB hln;rw[<-hln]at hn ⊢;clear hln;go_enter func124,ntmps124
 go_wp2_with fail
 go_loopw [9] (fun i wr=>∃ k:Nat,i=.int .i64 k/\k<=n/\(∀ j (hj:j<l.length),j<k->0<=l[j]/\l[j]<=m)/\wr=w) (fun i _=>n-(intOf i).toNat)
 case atStart=>exact⟨0,rfl,Nat.zero_le _,fun j hj h0=>absurd h0 (Nat.not_lt_zero j),rfl⟩
 case round =>
  obtain⟨k,rfl,hk,hall,hw⟩:=hrel;subst hw;have HA:=hideB hall;clear hall;by_cases hlt:k<n
  ·have hkl:k<l.length:=by rw[<-HLN.o];exact hlt
   obtain⟨b,off,rfl,hb,hc⟩:=HS.o.some (by omega);have ci:=hc k hkl;obtain⟨x,hx⟩:∃ x,x=l[k]:=⟨_,rfl⟩;have HX:=hideB hx;rw[<-hx]at ci;clear hc hx;by_cases h0:x<0
   ·have HE:=hideB (upTo_bad (m:=m) hkl (by rw[<-HX.o];exact Or.inl h0))
    (go_wp2_with fail);go_ret;exact⟨ret_boolB HE.o.symm,rfl⟩
   ·by_cases h1:m<x
    ·have HE:=hideB (upTo_bad (m:=m) hkl (by rw[<-HX.o];exact Or.inr h1))
     have hd0:decide (x<0)=false:=decide_eq_false h0;(go_wp2_with fail);go_ret;exact⟨ret_boolB HE.o.symm,rfl⟩
    ·have hd0:decide (x<0)=false:=decide_eq_false h0
     have hd1:decide (m<x)=false:=decide_eq_false h1;(go_wp2_with fail)
     go_roundw
     case rel =>
      refine⟨k+1,by go_num,by omega,fun j hj hjk=>?_,trivial⟩;by_cases e:j=k
      ·subst e
       rw[<-HX.o];omega
      ·exact HA.o j hj (by omega)
     case measure=>simp[intOf];omega
  ·have HE:Hid (upTo l m=true):=upTo_of (fun x hx=>by
    obtain⟨j,hj,rfl⟩:=List.getElem_of_mem hx
    exact HA.o j hj (by have:=HLN.o;omega))
   go_wp2_with fail
   go_ret;exact⟨ret_boolB HE.o.symm,rfl⟩
theorem within_upTo {l:List Int} {m:Int} (h:l.length<=257):within l m=upTo l m:=by
 unfold within upTo;exact decide_eq_decide.2 ⟨fun x=>x.2,fun x=>⟨h,x⟩⟩
theorem within_impl (l:List Int) (m:Int) (a:Option Addr) (cap B:Nat) (w:World) (hi:Ints w B a l) (hn:l.length<=1048576) :
  Calls prog 128 #[.slice a l.length cap,.int .i64 m] w fun e w'=>e=.returned (.bool (within l m))/\w'=w:=by
 by_cases hlong:257<l.length
 ·have HE:=hideB (within_long (l:=l) (m:=m) hlong)
  clear hi;generalize l.length=n at hlong hn ⊢;have hd:decide ((n:Int)<=257)=false:=decide_eq_false (by omega);go_enter func128,ntmps128
  go_wp2_with fail
  go_ret;exact⟨ret_boolB HE.o.symm,rfl⟩
 ·have HU:=hideB (upTo_impl l m a cap B w hi hn)
  have HE:=hideB (within_upTo (m:=m) (show l.length<=257 by omega));clear hi;generalize l.length=n at hlong hn HU ⊢;generalize upTo l m=u at HU HE
  have hd:(n:Int)<=257:=by omega
  go_enter func128,ntmps128
  go_wp2_with fail
  refine HU.o.mono ?_;rintro e w' ⟨rfl,hw⟩;subst w'
  go_wp2_with fail
  go_ret;exact⟨ret_boolB HE.o.symm,rfl⟩
theorem part_pos (x:Int) (h0:0<x) (h2:x<=12):∃ n:Nat,x=n/\1<=n/\n<=12/\part x=2 ^ (12-n):=⟨x.toNat,by omega,by omega,by omega,by unfold part;rw[if_pos h0]⟩
theorem part_none (x:Int) (h0:¬0<x):part x=0:=if_neg h0
theorem sum_impl (l:List Int) (a:Option Addr) (cap B:Nat) (w:World) (hi:Ints w B a l) (hr:within l 12=true) :
  Calls prog 165 #[.slice a l.length cap] w fun e w'=>e=.returned (.int .i64 (csum l:Nat))/\w'=w:=by
 have HS:=hideB hi;have HW:=hideB (within_yes hr).2;have hn:=(within_yes hr).1;clear hi hr;obtain⟨n,hln⟩:∃ n,n=l.length:=⟨_,rfl⟩;have HLN:=hideB hln;rw[<-hln]at hn ⊢;clear hln;go_enter func165,ntmps165
 go_wp2_with fail
 go_loopw [8,3] (fun i v wr=>∃ k s:Nat,i=.int .i64 k/\v=.int .i64 s/\k<=n/\s=csum (l.take k)/\s<=4096*k/\wr=w) (fun i _ _=>n-(intOf i).toNat)
 case atStart=>exact⟨0,0,rfl,rfl,Nat.zero_le _,by simp[csum],by omega,rfl⟩
 case round =>
  obtain⟨k,s,rfl,rfl,hk,hs,hsb,hw⟩:=hrel;subst hw;have HC:=hideB hs;clear hs;by_cases hlt:k<n
  ·have hkl:k<l.length:=by rw[<-HLN.o];exact hlt
   obtain⟨b,off,rfl,hb,hc⟩:=HS.o.some (by omega);have ci:=hc k hkl;have HM:=hideB (csum_more hkl);have hx12:=HW.o _ (List.getElem_mem hkl);obtain⟨x,hx⟩:∃ x,x=l[k]:=⟨_,rfl⟩;rw[<-hx]at ci hx12 HM;clear hc hx;by_cases h0:0<x
   ·obtain⟨m,rfl,hm1,hm2,hp⟩:=part_pos x h0 hx12.2
    have hsh:=shr_part m hm1 hm2;have hp2:2 ^ (12-m)<=4096:=(by have:=part_le (m:Int);rw[hp]at this;exact this);have HP:=hideB hp;clear hp;generalize 2 ^ (12-m)=pm at hsh hp2 HP;(go_wp2_with fail)
    go_roundw
    case rel=>exact⟨k+1,s+pm,by go_num,by go_num,by omega,by rw[HM.o,HP.o,HC.o],by omega,trivial⟩
    case measure=>simp[intOf];omega
   ·have HP:=hideB (part_none x h0)
    (go_wp2_with fail)
    go_roundw
    case rel=>exact⟨k+1,s,by go_num,rfl,by omega,by rw[HM.o,HP.o,HC.o];rfl,by omega,trivial⟩
    case measure=>simp[intOf];omega
  ·have HE:Hid (s=csum l):=by
    unfold Hid;rw[HC.o,List.take_of_length_le (by have:=HLN.o;omega)]
   go_wp2_with fail
   go_ret;exact⟨by rw[<-HE.o];rfl,rfl⟩
theorem count_impl (l:List Int) (a:Option Addr) (cap B:Nat) (w:World) (hi:Ints w B a l) (hn:l.length<=1048576) :
  Calls prog 91 #[.slice a l.length cap] w fun e w'=>e=.returned (.int .i64 (above l:Nat))/\w'=w:=by
 have HS:=hideB hi;clear hi;obtain⟨n,hln⟩:∃ n,n=l.length:=⟨_,rfl⟩;have HLN:=hideB hln;rw[<-hln]at hn ⊢;clear hln;go_enter func91,ntmps91
 go_wp2_with fail
 go_loopw [8,3] (fun i v wr=>∃ k s:Nat,i=.int .i64 k/\v=.int .i64 s/\k<=n/\s=above (l.take k)/\s<=k/\wr=w) (fun i _ _=>n-(intOf i).toNat)
 case atStart=>exact⟨0,0,rfl,rfl,Nat.zero_le _,by simp[above],by omega,rfl⟩
 case round =>
  obtain⟨k,s,rfl,rfl,hk,hs,hsb,hw⟩:=hrel;subst hw;have HC:=hideB hs;clear hs;by_cases hlt:k<n
  ·have hkl:k<l.length:=by rw[<-HLN.o];exact hlt
   obtain⟨b,off,rfl,hb,hc⟩:=HS.o.some (by omega);have ci:=hc k hkl;have HM:=hideB (above_more hkl);obtain⟨x,hx⟩:∃ x,x=l[k]:=⟨_,rfl⟩;rw[<-hx]at ci HM;clear hc hx;by_cases h0:0<x
   ·have HM2:Hid (above (l.take (k+1))=s+1):=by
     unfold Hid;rw[HM.o,if_pos h0,HC.o]
    (go_wp2_with fail)
    go_roundw
    case rel=>exact⟨k+1,s+1,by go_num,by go_num,by omega,HM2.o.symm,by omega,trivial⟩
    case measure=>simp[intOf];omega
   ·have HM2:Hid (above (l.take (k+1))=s):=by
     unfold Hid;rw[HM.o,if_neg h0,HC.o];rfl
    (go_wp2_with fail)
    go_roundw
    case rel=>exact⟨k+1,s,by go_num,rfl,by omega,HM2.o.symm,by omega,trivial⟩
    case measure=>simp[intOf];omega
  ·have HE:Hid (s=above l):=by
    unfold Hid;rw[HC.o,List.take_of_length_le (by have:=HLN.o;omega)]
   go_wp2_with fail
   go_ret;exact⟨by rw[<-HE.o];rfl,rfl⟩
theorem index_impl (l:List Int) (y:Int) (a:Option Addr) (cap B:Nat) (w:World) (hi:Ints w B a l) (hn:l.length<=1048576) :
  Calls prog 194 #[.slice a l.length cap,.int .i64 y] w fun e w'=>(∃ r:Int,e=.returned (.int .i64 r)/\Hid (l.contains y=decide (0<=r)))/\w'=w:=by
 have HS:=hideB hi;clear hi;obtain⟨n,hln⟩:∃ n,n=l.length:=⟨_,rfl⟩;have HLN:=hideB hln;rw[<-hln]at hn ⊢;clear hln;go_enter func194,ntmps194
 go_wp2_with fail
 go_loopw [8] (fun i wr=>∃ k:Nat,i=.int .i64 k/\k<=n/\(∀ j (hj:j<l.length),j<k->l[j]≠y)/\wr=w) (fun i _=>n-(intOf i).toNat)
 case atStart=>exact⟨0,rfl,Nat.zero_le _,fun j hj h0=>absurd h0 (Nat.not_lt_zero j),rfl⟩
 case round =>
  obtain⟨k,rfl,hk,hall,hw⟩:=hrel;subst hw;have HA:=hideB hall;clear hall;by_cases hlt:k<n
  ·have hkl:k<l.length:=by rw[<-HLN.o];exact hlt
   obtain⟨b,off,rfl,hb,hc⟩:=HS.o.some (by omega);have ci:=hc k hkl;obtain⟨x,hx⟩:∃ x,x=l[k]:=⟨_,rfl⟩;have HX:=hideB hx;rw[<-hx]at ci;clear hc hx;by_cases h0:y=x
   ·have hb:(y==x)=true:=beq_iff_eq.2 h0
    have HE:Hid (l.contains y=true):=by
     unfold Hid;rw[List.contains_iff_mem,h0,HX.o];exact List.getElem_mem hkl
    clear h0;(go_wp2_with fail);go_ret;exact⟨⟨k,rfl,HE.o.trans (decide_eq_true (by omega)).symm⟩,rfl⟩
   ·have hb:(y==x)=false:=beq_eq_false_iff_ne.2 h0
    have HNE:=hideB h0;clear h0;(go_wp2_with fail)
    go_roundw
    case rel =>
     refine⟨k+1,by go_num,by omega,fun j hj hjk=>?_,trivial⟩;by_cases e:j=k
     ·subst e
      rw[<-HX.o];exact fun h=>HNE.o h.symm
     ·exact HA.o j hj (by omega)
    case measure=>simp[intOf];omega
  ·have HE:Hid (l.contains y=false):=by
    unfold Hid;rw[Bool.eq_false_iff,Ne,List.contains_iff_mem];intro hm;obtain⟨j,hj,e⟩:=List.getElem_of_mem hm;exact HA.o j hj (by have:=HLN.o;omega) e
   go_wp2_with fail
   go_ret;exact⟨⟨-1,rfl,HE.o⟩,rfl⟩
theorem contains_impl (l:List Int) (y:Int) (a:Option Addr) (cap B:Nat) (w:World) (hi:Ints w B a l) (hn:l.length<=1048576) :
  Calls prog 164 #[.slice a l.length cap,.int .i64 y] w fun e w'=>e=.returned (.bool (l.contains y))/\w'=w:=by
 have HI:=hideB (index_impl l y a cap B w hi hn);clear hi;generalize l.length=n at HI hn ⊢;generalize l.contains y=c at HI ⊢;go_enter func164,ntmps164
 go_wp2_with fail
 refine HI.o.mono ?_;rintro e w' ⟨⟨r,rfl,hr⟩,hw⟩;subst w';by_cases h0:0<=r
 ·have HE:Hid (c=true):=hr.o.trans (decide_eq_true h0)
  clear hr
  go_wp2_with fail
  go_ret;exact⟨ret_boolB HE.o.symm,rfl⟩
 ·have HE:Hid (c=false):=hr.o.trans (decide_eq_false h0)
  have HR:=hideB hr.o;clear hr
  go_wp2_with fail
  go_ret;exact⟨ret_boolB (by first|exact HE.o.symm|exact HR.o.symm),rfl⟩
theorem right_impl (l:List Int) (a:Option Addr) (cap B:Nat) (w:World) (hi:Ints w B a l) (hn:l.length<=1048576) :
  Calls prog 163 #[.slice a l.length cap] w fun e w'=>e=.returned (.bool (right l))/\w'=w:=by
 have HW:=hideB (within_impl l 12 a cap B w hi hn)
 cases hw:within l 12 with
 |false =>
  have HE:=hideB (right_no (l:=l) (Or.inl hw));rw[hw]at HW;clear hi hw;generalize l.length=n at HW hn ⊢;go_enter func163,ntmps163
  go_wp2_with fail
  refine HW.o.mono ?_;rintro e w' ⟨rfl,hw⟩;subst w'
  go_wp2_with fail
  go_ret;exact⟨ret_boolB HE.o.symm,rfl⟩
 |true =>
  have HC:=hideB (sum_impl l a cap B w hi hw);by_cases hs:csum l<=4096
  ·have HE:=hideB (right_of hw hs)
   rw[hw]at HW;clear hi hw;generalize l.length=n at HW HC hn ⊢;generalize csum l=c at HC hs
   have hs':(c:Int)<=4096:=by omega
   go_enter func163,ntmps163
   go_wp2_with fail
   refine HW.o.mono ?_;rintro e w' ⟨rfl,hw⟩;subst w'
   go_wp2_with fail
   refine HC.o.mono ?_;rintro e w' ⟨rfl,hw⟩;subst w'
   go_wp2_with fail
   go_ret;exact⟨ret_boolB HE.o.symm,rfl⟩
  ·have HE:=hideB (right_no (l:=l) (Or.inr hs))
   rw[hw]at HW;clear hi hw;generalize l.length=n at HW HC hn ⊢;generalize csum l=c at HC hs;have hs':decide ((c:Int)<=4096)=false:=decide_eq_false (by omega);go_enter func163,ntmps163
   go_wp2_with fail
   refine HW.o.mono ?_;rintro e w' ⟨rfl,hw⟩;subst w'
   go_wp2_with fail
   refine HC.o.mono ?_;rintro e w' ⟨rfl,hw⟩;subst w'
   go_wp2_with fail
   go_ret;exact⟨ret_boolB HE.o.symm,rfl⟩
end Bi
namespace So
section
variable {P : Program} {md : Region.Mode} {ops : Array Oper} {w : World}
theorem wpIn_of_still {n:Nat} {o:Oper} {a:Act} {K:Act->Prop} {K':Act->World->Prop} {Q':Exit->Act->World->Prop} (h:∀ a,K a->K' a w) (hh:o.still P a w K):o.wpIn Fence.wide n P a w K' Q':=by
 refine⟨fun _ _=>trivial,?_⟩;unfold Oper.still at hh;have e:(o.semAt Fence.wide.round a.eval)=execOp a.eval o:=rfl;rw[e];generalize (execOp a.eval o).run P w=r at hh
 cases r with
 |ok nx w' =>
  cases nx with
  |value v =>
   simp only[Oper.stillUpon]at hh;obtain⟨rfl,hh⟩:=hh;exact h _ hh
  |skip =>
   simp only[Oper.stillUpon]at hh;obtain⟨rfl,hh⟩:=hh;exact h _ hh
  |enter f args =>
   simp only[Oper.stillUpon]at hh;obtain⟨rfl,v,hc,hh⟩:=hh;refine⟨fun hx=>(by cases hx),callsIn_wide.2 (hc.mono ?_)⟩;rintro e w'' ⟨rfl,rfl⟩;exact h _ hh
  |_=>simp only[Oper.stillUpon]at hh
 |_=>simp only[Oper.stillUpon]at hh
theorem wpOpIn_of_stOp {n i:Nat} {a:Act} {K:Act->Prop} {K':Act->World->Prop} {Q':Exit->Act->World->Prop} (h:∀ a,K a->K' a w) (hh:stOp P ops w i K a):wpOpIn Fence.wide n P ops Q' i K' a w:=by
 unfold stOp at hh;unfold wpOpIn
 split
 ·rename_i ho;simp only[ho]at hh;exact h _ hh
 ·rename_i o ho
  simp only[ho]at hh
  split
  ·rename_i hw;simp only[hw,if_true]at hh;exact wpIn_of_still h hh
  ·rename_i hw;simp only[hw]at hh;exact⟨fun _ _=>trivial,h _ hh⟩
theorem wpAnyIn_of_head {n k g:Nat} {L:Array Bool->Act->Prop} {Q':Exit->Act->World->Prop} (hL:∀ listed a,L listed a->wpAnyIn Fence.wide k P md ops Q' g listed a w) :
  ∀ (f:Nat) (listed:Array Bool) (a:Act),wpAnyL P md ops w n L f listed a->wpAnyIn Fence.wide k P md ops Q' (f+g) listed a w
 |0,listed,a,h=>by rw[Nat.zero_add];exact hL _ _ h
 |f+1,listed,a,h=>by
  rw[show f+1+g=(f+g)+1 by omega];exact⟨fun h0=>absurd h0 h.1,fun i hi=>wpOpIn_of_stOp (fun a' h'=>wpAnyIn_of_head hL f _ a' h') (h.2 i hi).2⟩
theorem wpAnyIn_of_seq {k0:Nat} {Q':Exit->Act->World->Prop}:∀ (l:List Oper) (k:Nat) (listed:Array Bool) (a:Act) (w:World),(∀ j,l[j]? = ops[k+j]?) ->
  Region.seqB md ops l.length k listed=true->wpListIn Fence.wide k0 P ops Q' l a w->wpAnyIn Fence.wide k0 P md ops Q' l.length listed a w
 |[],_,_,_,_,_,hB,h=>⟨by simpa [Region.seqB] using hB,h⟩
 |o :: l,k,listed,a,w,hl,hB,h=>by
  have h0:ops[k]? = some o:=by simpa using (hl 0).symm
  simp only[List.length_cons,Region.seqB,Bool.and_eq_true,decide_eq_true_eq]at hB;refine⟨fun h1=>(by rw[hB.1]at h1;cases h1),fun i hi=>?_⟩;rw[hB.1]at hi
  have hik:i=k:=by simpa using hi
  subst hik
  have hw:wpOpIn Fence.wide k0 P ops Q' i (wpListIn Fence.wide k0 P ops Q' l) a w:=by unfold wpOpIn;simp only[h0];exact h
  exact wpOpIn_mono (fun a' w' h'=>wpAnyIn_of_seq l (i+1) _ a' w' (fun j=>by have:=hl (j+1);simpa [Nat.add_assoc,Nat.add_comm 1 j] using this) hB.2 h') hw
theorem wpIn_region_still_tail {id k0:Nat} {Q:Exit->Act->World->Prop} {a:Act} {l:List Oper} (n:Nat) (hm:P.follows .mixedOrders=true) (hB:Region.lexTailB .any l.toArray n=true)
  (h:wpStill P l.toArray w.drew (fun a'=>wpListIn Fence.wide k0 P l.toArray Q (l.drop n) a' w.drew) (l.take n) a):(Code.region id l.toArray true).wpIn Fence.wide k0 P Q a w:=by
 simp only[Region.lexTailB,Bool.and_eq_true,decide_eq_true_eq]at hB;obtain⟨⟨⟨⟨hsel,hn⟩,hs⟩,hc⟩,hlex⟩:=hB
 have hn':n<l.length:=by simpa using hn
 have htl:(l.take n).length=n:=by simp;omega
 have hdl:(l.drop n).length=l.toArray.size-n:=by simp
 have inv0:HeadInv .any l.toArray n (Array.replicate l.toArray.size false) :=
  ⟨by simp,fun j oj _ hl=>(by rw[getD_replicate_false]at hl;cases hl),fun t _ ht=>getD_in (by simpa using ht) (getD_replicate_false _ _)⟩
 have H:=wpAnyL_lex (md:=.any) (g:=l.toArray.size-n) hsel hs hc hn (l.take n) 0 _ a (fun j hj=>by
  have hj':j<n:=by rw[htl]at hj;exact hj
  simp[hj']) (by simpa using htl) inv0 (by rw[htl];exact hlex) h
 refine wpIn_region_any hm ?_
 have:=wpAnyIn_of_head (k:=k0) (Q':=Q) (g:=l.toArray.size-n) (fun listed a' hL=>by
  have:=wpAnyIn_of_seq (k0:=k0) (md:=.any) (Q':=Q) (l.drop n) n listed a' w.drew (fun j=>by simp[List.getElem?_drop]) (by rw[hdl];exact hL.1) hL.2
  rwa[hdl]at this) _ _ _ H
 rw[htl,show n+(l.toArray.size-n)=l.toArray.size by omega]at this;exact this
end
end So
namespace So
open Go.RowKit Go.Sort Go.Proofs Go.Shelf
attribute [local go_sem] Oper.semAt_some
def turnV (t:ByteArray) (x:Nat):ByteArray:=t.extract x t.size++t.extract 0 x
theorem turnsOf_in (F:Fence) (n:Nat) (hf:F.fn 157) (hro:F.round=none) (t:ByteArray) (w:World) :
  CallsIn F n prog 157 #[.string t] w fun e w'=>e=.returned (.func (.func 187) #[] #[.pointer (some ⟨w.heap.size,0,none⟩)])/\w'=w.alloc (.cells #[.string t] 9):=by
 refine callsIn_of_wp func157 rfl hf ?_ hro;simp only[ntmps157,List.size_toArray,List.length_cons,List.length_nil,Nat.reduceAdd,Nat.reduceSub,Array.replicate_succ,Array.replicate_zero,List.push_toArray,List.append_toArray,List.nil_append,List.cons_append]
 gi_wp2
 go_ret;exact⟨rfl,rfl⟩
def KeepB (Bn:Nat) (W W':World):Prop:=W'.cell? ⟨Bn,0,none⟩=W.cell? ⟨Bn,0,none⟩
theorem KeepB.trans {Bn:Nat} {A B C:World} (h1:KeepB Bn A B) (h2:KeepB Bn B C):KeepB Bn A C:=Eq.trans h2 h1
theorem turns1_in (n:Nat) (l Bn:Nat) (t:ByteArray) (ht:t.size<=1048576) (J Jx:List Nat->World->Prop)
  (hY:∀ pre x W,J pre W->pre.length<t.size->YieldAt Fence.wide (n-1) prog l #[.agg #[.int .i64 (x:Nat),.string (turnV t x)]] W fun e W' =>
   (e=.returned (.bool true)/\J (pre++[x]) W'/\KeepB Bn W W')∨(e=.returned (.bool false)/\Jx (pre++[x]) W'))
  (hA:∀ s A B,J s A->A.grownBy B none->J s B) (W:World) (hBn:W.cell? ⟨Bn,0,none⟩=some (.string t)) (h0:J [] W) :
  CallsIn Fence.wide n prog 187 #[.func (.yield l) #[] #[],.pointer (some ⟨Bn,0,none⟩)] W fun e W'=>(∃ v,e=.returned v) /\
   ((∃ ys,ys=List.range t.size/\J ys W')∨(∃ pre,pre <+: List.range t.size/\Jx pre W')):=by
 have mixed:=mixed;refine callsIn_of_wp func187 rfl trivial ?_ rfl;simp only[ntmps187,List.size_toArray,List.length_cons,List.length_nil,Nat.reduceAdd,Nat.reduceSub,Array.replicate_succ,Array.replicate_zero,List.push_toArray,List.append_toArray,List.nil_append,List.cons_append]
 gi_wp2
 gi_loopw [6] (fun p wr=>∃ k:Nat,p=.int .i64 k/\k<=t.size/\wr.cell? ⟨Bn,0,none⟩=some (.string t)/\J (List.range k) wr) (fun p _=>t.size-(intOf p).toNat)
 case atStart=>exact⟨0,rfl,Nat.zero_le _,hBn,h0⟩
 case round =>
  obtain⟨k,rfl,hk,hc,hJ⟩:=hrel;by_cases hlt:k<t.size
  ·obtain⟨fn,tmps,assign,body,hy,hR⟩:=hY (List.range k) k wr.drew (hA _ _ _ hJ ⟨rfl,rfl,rfl,nl,fun _ _ _=>rfl⟩) (by simpa using hlt)
   unfold turnV at hy;have hc':wr.drew.cell? ⟨Bn,0,none⟩=some (.string t):=hc
   have hlt':(k:Int)<(t.size:Int):=by omega
   have hle:(k:Int)<=(t.size:Int):=by omega
   have hge:¬(t.size:Int)<(k:Int):=by omega
   have hq0:(t.extract k t.size).size+(t.extract 0 k).size<=9223372036854775807:=by simp;omega
   gi_wp2
   refine wpIn_region_still_tail 10 mixed (by kernel_rfl) ?_;simp only[List.take,List.drop]
   repeat still_step
   generalize t.extract k t.size=A at hq0 hy ⊢;generalize t.extract 0 k=B at hq0 hy ⊢
   have hq4:¬A.size+B.size > 9223372036854775807:=by omega
   have hq5:¬9223372036854775807<A.size+B.size:=by omega
   repeat still_step
   refine wpStill_nil ?_
   gi_wp2
   refine⟨fun hx=>(by cases hx),hR.mono ?_⟩;rintro e W3 (⟨rfl,hJ3,hk3⟩|⟨rfl,hJx3⟩)
   ·have hc3:W3.cell? ⟨Bn,0,none⟩=some (.string t):=(show W3.cell? ⟨Bn,0,none⟩=wr.drew.cell? ⟨Bn,0,none⟩ from hk3).trans hc'
    gi_wp2
    go_roundw
    case rel=>exact⟨k+1,by go_num,by omega,hc3,by rw[List.range_succ];exact hJ3⟩
    case measure=>simp[intOf];omega
   ·gi_wp2
    refine bodyPost_ret (results_none rfl _ _ _) rfl ?_;refine⟨⟨_,rfl⟩,.inr ⟨List.range k++[k],?_,hJx3⟩⟩;rw[<-List.range_succ];exact List.prefix_iff_eq_take.2 (by rw[List.length_range,List.take_range,Nat.min_eq_left hlt])
  ·obtain rfl:k=t.size:=by omega
   have hge:¬(t.size:Int)<(t.size:Int):=by omega
   gi_wp2
   go_end0
   exact⟨⟨_,rfl⟩,.inl hJ⟩
theorem turns_stops (n Bn:Nat) (t:ByteArray) (ht:t.size<=1048576) (w:World) (hBn:Bn<w.heap.size) (hc:w.cell? ⟨Bn,0,none⟩=some (.string t)) :
  SeqStopsK Fence.wide n prog 187 #[.pointer (some ⟨Bn,0,none⟩)] (fun x:Nat=>#[Value.agg #[.int .i64 (x:Nat),.string (turnV t x)]]) (KeepB Bn) (fun ys=>ys=List.range t.size) (fun pre=>pre <+: List.range t.size) t.size w:=fun l J Jx W hW hJ _ hY h0 =>
 turns1_in n l Bn t ht J Jx hY (fun s A B h1 h2=>hJ s A B none h1 h2 (fun r e=>by cases e)) W ((hW.cell (p:=⟨Bn,0,none⟩) hBn).trans hc) h0
def OrdOk (t:ByteArray) (l:List Nat):Prop:=l.Perm (List.range t.size)/\l.Pairwise (lx (clT (turnV t)))
theorem ord_unique {t:ByteArray} {l l':List Nat} (h:OrdOk t l) (h':OrdOk t l'):l=l' :=
 List.Perm.eq_of_pairwise (fun _ _ _ _ h1 h2=>(lx_asymm (clT_weak _) h1 h2).elim) h.2 h'.2 (h.1.trans h'.1.symm)
open Classical in
noncomputable def ord (t:ByteArray):List Nat:=if h:∃ l,OrdOk t l then Classical.choose h else []
theorem ord_of {t:ByteArray} {l:List Nat} (h:OrdOk t l):ord t=l:=by
 have hex:∃ l,OrdOk t l:=⟨l,h⟩;unfold ord;rw[dif_pos hex];exact ord_unique (Classical.choose_spec hex) h
def ints (l:List Nat):List Int:=l.map fun x=>((x:Nat):Int)
theorem ints_len (l:List Nat):(ints l).length=l.length:=by simp[ints]
theorem ints_snoc (l:List Nat) (x:Nat):ints (l++[x])=ints l++[(x:Int)]:=by simp[ints]
noncomputable def ordR (t:ByteArray):List Int:=if t.size<=48 then ints (ord t) else []
theorem seg_len (f:Nat->Nat) (a b:Nat):(seg f a b).length=b-a:=by simp[seg]
theorem seg_pairwise {cl:Nat->Nat->Bool} {f:Nat->Nat} {n:Nat} (h:Ris cl 0 n f):(seg f 0 n).Pairwise (lx cl):=by
 rw[List.pairwise_iff_getElem];intro i j hi hj hij;rw[seg_len]at hi hj
 have e:∀ k (hk:k<(seg f 0 n).length),(seg f 0 n)[k]=f k:=fun k hk=>by simp[seg]
 rw[e,e];exact h i j (Nat.zero_le _) hij (by omega)
theorem ord_seg {t:ByteArray} {f:Nat->Nat} (hp:(seg f 0 t.size).Perm (List.range t.size)) (hr:Ris (clT (turnV t)) 0 t.size f):OrdOk t (seg f 0 t.size):=⟨hp,seg_pairwise hr⟩
theorem ord_put {cl:Nat->Nat->Bool} (hw:Weak cl) {l:List Nat} {k p:Nat} (hp:l.Perm (List.range k)) (hs:l.Pairwise (lx cl)) (hl:p<=l.length) (hhi:∀ j (h:j<l.length),p<=j->cl k l[j]=true) (hlo:p=0∨∃ h:p-1<l.length,cl k l[p-1]=false) :
  (l.take p++[k]++l.drop p).Perm (List.range (k+1))/\(l.take p++[k]++l.drop p).Pairwise (lx cl):=by
 refine⟨?_,?_⟩
 ·rw[List.range_succ]
  have h1:(l.take p++[k]++l.drop p).Perm (l.take p++l.drop p++[k]):=by
   rw[List.append_assoc,List.append_assoc];exact List.Perm.append_left _ List.perm_append_comm
  rw[List.take_append_drop]at h1;exact h1.trans (List.Perm.append_right _ hp)
 ·have hlt:∀ x∈l,x<k:=fun x hx=>by
   have:=hp.mem_iff.1 hx
   simpa using this
  have hlow:∀ x∈l.take p,lx cl x k:=by
   intro x hx
   rcases hlo with h0|⟨h1,h2⟩
   ·subst h0;simp at hx
   ·obtain⟨j,hj,rfl⟩:=List.getElem_of_mem hx
    have hj':j<p:=by simp at hj;omega
    rw[List.getElem_take];have hq:lx cl l[p-1] k:=lx_no h2 (hlt _ (List.getElem_mem _))
    rcases Nat.lt_or_ge j (p-1) with e|e
    ·exact lx_trans hw (List.pairwise_iff_getElem.1 hs j (p-1) (by omega) h1 e) hq
    ·have:j=p-1:=by omega
     subst this;exact hq
  have hhigh:∀ x∈l.drop p,lx cl k x:=by
   intro x hx;obtain⟨j,hj,rfl⟩:=List.getElem_of_mem hx;rw[List.getElem_drop];simp at hj;exact lx_yes (hhi (p+j) (by omega) (by omega))
  rw[List.append_assoc,List.pairwise_append];refine⟨hs.sublist (List.take_sublist _ _),?_,?_⟩
  ·rw[List.singleton_append,List.pairwise_cons]
   exact⟨hhigh,hs.sublist (List.drop_sublist _ _)⟩
  ·intro x hx y hy
   rw[List.singleton_append]at hy
   rcases List.mem_cons.1 hy with e|hy
   ·rw[e];exact hlow x hx
   ·exact lx_trans hw (hlow x hx) (hhigh y hy)
end So
namespace So
open Sh (bt bt_get bt_lt strF strF_congr)
def lastB (t:ByteArray) (x:Nat):Nat:=bt t ((x+t.size-1)%t.size)
theorem turnV_size (t:ByteArray) (x:Nat) (hx:x<=t.size):(turnV t x).size=t.size:=by
 unfold turnV;rw[ByteArray.size_append,ByteArray.size_extract,ByteArray.size_extract];omega
theorem turnV_list (t:ByteArray) (x:Nat):(turnV t x).data.toList=t.data.toList.drop x++t.data.toList.take x:=by
 unfold turnV;simp[ByteArray.data_append,ByteArray.data_extract];rw[List.take_of_length_le (by simp)]
theorem turnV_last (t:ByteArray) (x:Nat) (hx:x<t.size):bt (turnV t x) (t.size-1)=lastB t x:=by
 unfold lastB bt;rw[turnV_list]
 have hl:t.data.toList.length=t.size:=by simp
 simp only[List.getD_eq_getElem?_getD];by_cases h0:x=0
 ·subst h0
  rw[List.drop_zero,List.take_zero,List.append_nil,Nat.zero_add,Nat.mod_eq_of_lt (by omega)]
 ·rw[List.getElem?_append_right (by rw[List.length_drop];omega),List.length_drop,hl,List.getElem?_take_of_lt (by omega)]
  have e:(x+t.size-1)%t.size=x-1:=by
   rw[show x+t.size-1=(x-1)+t.size by omega,Nat.add_mod_right,Nat.mod_eq_of_lt (by omega)]
  rw[e,show t.size-1-(t.size-x)=x-1 by omega]
def atK (f:Nat->Nat):Nat->Nat
 |0=>0
 |k+1=>if f k=0 then k else atK f k
theorem atK_le (f:Nat->Nat) (k:Nat):atK f k<=k:=by
 induction k with
 |zero=>exact nl
 |succ k ih=>unfold atK;split<;>omega
theorem atK_congr {f g:Nat->Nat} {n:Nat} (h:∀ j,j<n->f j=g j):∀ k,k<=n->atK f k=atK g k:=by
 intro k
 induction k with
 |zero=>intro _;rfl
 |succ k ih=>intro hk;unfold atK;rw[h k hk,ih (by omega)]
noncomputable def ordF (t:ByteArray):Nat->Nat:=fun j=>(ord t).getD j 0
theorem ordF_seg {t:ByteArray} {f:Nat->Nat} (h:OrdOk t (seg f 0 t.size)) (j:Nat) (hj:j<t.size):ordF t j=f j:=by
 unfold ordF;rw[ord_of h,List.getD_eq_getElem?_getD,List.getElem?_eq_getElem (by rw[seg_len];omega)];simp[seg]
theorem ordF_list {t:ByteArray} {l:List Nat} (h:OrdOk t l) (j:Nat) (hj:j<l.length):ordF t j=l[j]:=by
 unfold ordF;rw[ord_of h,List.getD_eq_getElem?_getD,List.getElem?_eq_getElem hj];rfl
noncomputable def bwtT (t:ByteArray):ByteArray:=if t.size<=48 then strF t.size (fun j=>lastB t (ordF t j)) else ⟨#[]⟩
noncomputable def bwtA (t:ByteArray):Nat:=if t.size<=48 then atK (ordF t) t.size else 0
def bwtC (t:ByteArray):Nat:=if 8000<t.size then 2 else if 48<t.size then 1 else 0
theorem bwt_yes {t:ByteArray} {f:Nat->Nat} (ht:t.size<=48) (h:∀ j,j<t.size->ordF t j=f j):bwtT t=strF t.size (fun j=>lastB t (f j))/\bwtA t=atK f t.size/\bwtC t=0:=by
 unfold bwtT bwtA bwtC;rw[if_pos ht,if_pos ht,if_neg (by omega),if_neg (by omega)];exact⟨strF_congr _ _ _ fun j hj=>by rw[h j hj],atK_congr h _ nl,rfl⟩
theorem bwt_no {t:ByteArray} (ht:48<t.size):bwtT t=⟨#[]⟩/\bwtA t=0:=by
 unfold bwtT bwtA;rw[if_neg (by omega),if_neg (by omega)];exact⟨rfl,rfl⟩
def fillL (t:ByteArray) (f:Nat->Nat) (k:Nat):Nat->Nat:=fun j=>if j<k then lastB t (f j) else 0
theorem fillL_lt (t:ByteArray) (f:Nat->Nat) (k j:Nat):fillL t f k j<256:=by
 unfold fillL
 split
 ·exact bt_lt _ _
 ·omega
theorem fillL_next (t:ByteArray) (f:Nat->Nat) (k:Nat) (j:Nat):Sh.upd (fun j=>((fillL t f k j:Nat):Int)) k ((lastB t (f k):Nat):Int) j=((fillL t f (k+1) j:Nat):Int):=by
 unfold Sh.upd fillL;by_cases e:j=k
 ·subst e
  rw[if_pos rfl,if_pos (by omega)]
 ·rw[if_neg e]
  by_cases h:j<k
  ·have h':j<k+1:=by omega
   simp only[h,h',if_true]
  ·have h':¬j<k+1:=by omega
   simp only[h,h',if_false]
theorem fillL_all (t:ByteArray) (f:Nat->Nat) (n:Nat):strF n (fillL t f n)=strF n (fun j=>lastB t (f j)):=strF_congr _ _ _ fun j hj=>by
 unfold fillL;rw[if_pos hj]
end So
end Go.Proofs.YtbdcffjcogglbaaGreatDoor
