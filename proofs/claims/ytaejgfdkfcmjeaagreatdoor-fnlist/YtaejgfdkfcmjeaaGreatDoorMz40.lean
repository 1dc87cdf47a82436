import Derived.Test.YtaejgfdkfcmjeaaGreatDoorMz39
import Derived.Shelf.Strconv.Itoa0
set_option maxRecDepth 100000
set_option maxHeartbeats 8000000
namespace Go.Proofs.YtaejgfdkfcmjeaaGreatDoor
open Go.RowKit
open Go.Proofs.Tryz
namespace Tr
open St (hideT)
def renL:Go.Shelf.Ren:=⟨fun _=>149,fun k=>if k=53 then 76 else if k=46 then 90 else if k=3 then 3 else if k=4 then 4 else if k=5 then 5 else 9,fun k=>k⟩
theorem laysL:Lays.n129 prog renL where
 mixed:=by kernel_rfl
 f129:=by kernel_rfl
 t3:=by kernel_rfl
 a3:=fun w=>by kernel_rfl
 z3:=fun w=>by kernel_rfl
 v3:=fun w=>by kernel_rfl
 t4:=by kernel_rfl
 a4:=fun w=>by kernel_rfl
 z4:=fun w=>by kernel_rfl
 v4:=fun w=>by kernel_rfl
 t5:=by kernel_rfl
 a5:=fun w=>by kernel_rfl
 z5:=fun w=>by kernel_rfl
 v5:=fun w=>by kernel_rfl
 t9:=by kernel_rfl
 a9:=fun w=>by kernel_rfl
 z9:=fun w=>by kernel_rfl
 v9:=fun w=>by kernel_rfl
 t46:=by kernel_rfl
 a46:=fun w=>by kernel_rfl
 z46:=fun w=>by kernel_rfl
 v46:=fun w=>by kernel_rfl
 t53:=by kernel_rfl
 a53:=fun w=>by kernel_rfl
 z53:=fun w=>by kernel_rfl
 v53:=fun w=>by kernel_rfl
theorem len64_any (x:Nat) (w:World) (h:x<18446744073709551616) :
  Calls prog 149 #[.int .u64 x] w fun e w'=>e=.returned (.int .i64 (Lib.bitLen x))/\w'=w:=by
 have:=Any.bits_Len64 laysL x w (by omega) (by omega)
 rw[Int.toNat_natCast]at this;exact this
theorem bitLen_log (x:Nat) (h0:x≠0) (h:x<18446744073709551616):Lib.bitLen x=Nat.log2 x+1:=by
 induction x using Nat.strongRecOn with
 |ind x ih =>
  rw[Lib.bitLen_half x h0 h];by_cases h1:x/2=0
  ·have:x=1:=by omega
   subst this;rfl
  ·rw[ih (x/2) (by omega) h1 (by omega)]
   have:Nat.log2 x=Nat.log2 (x/2)+1:=by
    refine(Nat.log2_eq_iff h0).2 ⟨?_,?_⟩
    ·have:=Nat.log2_self_le h1
     rw[Nat.pow_succ];omega
    ·have:=Nat.lt_log2_self (n:=x/2)
     rw[Nat.pow_succ]at this ⊢;omega
   omega
theorem half_impl (n:Nat) (w:World) (h2:2<=n) (hn:n<9223372036854775808) :
  Calls prog 110 #[.int .i64 n] w fun e w'=>e=.returned (.int .i64 (half n))/\w'=w:=by
 have e1:IntKind.u64.wrap ((n:Int)-1)=((n-1:Nat):Int):=by
  rw[IntKind.wrap_u64];omega
 have HL:=hideT (bitLen_log (n-1) (by omega) (by omega));obtain⟨k,hk⟩:∃ k,k=Nat.log2 (n-1):=⟨_,rfl⟩;have HH:=hideT (show half n=2 ^ k by rw[hk];rfl)
 have hk62:k<=62:=by
  rw[hk]
  have:Nat.log2 (n-1)<63:=(Nat.log2_lt (by omega)).2 (by omega)
  omega
 rw[<-hk]at HL;clear hk;go_enter func110,ntmps110
 go_wp2_with fail
 refine(len64_any (n-1) w (by omega)).mono ?_;rw[HL.o];rintro e w1 ⟨rfl,hw⟩;subst w1
 go_wp2_with fail
 go_ret;refine⟨ret_int ?_,rfl⟩;have h3:(2:Nat) ^ k<=2 ^ 62:=Nat.pow_le_pow_right (by decide) hk62;rw[HH.o]
 have h4:((2:Int) ^ k)=((2 ^ k:Nat):Int):=by simp
 rw[h4];generalize (2:Nat) ^ k=y at h3 ⊢;unfold wrap64;omega
end Tr
namespace Tr
open St
open Sh (Vars leafV nodeV leafR nodeR leaf_impl node_impl digest_impl digestV leafR_yes nodeR_yes below3)
theorem cut_any (b off n cap:Nat) (w:World) (h2:2<=n) (hn:n<=1048576) (hc:n<=cap) :
  Calls prog 88 #[.slice (some ⟨b,off,none⟩) n cap] w fun e w'=>e=.returned (.tuple #[.slice (some ⟨b,off,none⟩) (half n) (half n),.slice (some ⟨b,off+half n,none⟩) (n-half n) (n-half n)])/\Below w.heap.size w w'/\w'.heap=w.heap:=by
 have hp:=half_pos n;have hl:=half_lt n h2;go_enter func88,ntmps88
 go_wp2_with fail
 refine(half_impl n w h2 (by omega)).mono ?_;rintro e w1 ⟨rfl,hw⟩;subst w1;obtain⟨k,hk⟩:∃ k,k=half n:=⟨_,rfl⟩;rw[<-hk]at hp hl ⊢;have HK:=hideT hk;clear hk
 have g1:(k:Int)<=cap:=by omega
 have g2:(k:Int)<=n:=by omega
 have g3:¬n=k:=by omega
 have g4:¬cap=k:=by omega
 go_wp2_with fail
 go_region
 all_goals (try go_wp2_with fail)
 all_goals go_ret2
 all_goals exact⟨by rw[<-HK.o];rfl,(Below.refl _ _).drew,rfl⟩
theorem empty_dig:digestV ⟨#[]⟩=Sh.sha ⟨#[]⟩:=by
 unfold digestV;rw[if_pos (by decide)]
theorem tree_impl:∀ (m n:Nat) (l:List ByteArray) (a:Option Addr) (cap B:Nat) (w:World),n<=m->l.length=n->n<=cap->n<=64->(∀ j (h:j<l.length),l[j].size<=100)->Strs w B a l->B<=w.heap.size->Vars w ->
  Calls prog 59 #[.slice a n cap] w fun e w'=>e=.returned (.string (tree l))/\Below w.heap.size w w':=by
 intro m
 induction m with
 |zero =>
  intro n l a cap B w hm hln hcap h64 hr hs hB hV
  obtain rfl:n=0:=by omega
  have HT:=hideT (tree_nil l hln);have HD:=hideT empty_dig;clear hs hr;have HV:=hideT hV;clear hV;go_enter func59,ntmps59
  go_wp2_with fail
  refine(digest_impl ⟨#[]⟩ _ (by decide) HV.o).mono ?_;rw[HD.o];rintro e w1 ⟨rfl,hb1⟩
  go_wp2_with fail
  go_ret;exact⟨Nu.ret_strJ HT.o.symm,hb1⟩
 |succ m ih =>
  intro n l a cap B w hm hln hcap h64 hr hs hB hV;by_cases h0:n=0
  ·exact ih n l a cap B w (by omega) hln hcap h64 hr hs hB hV
  ·obtain⟨b,off,rfl,hb,hc⟩:=hs.some (by omega)
   have HV:=hideT hV;have hv2:=hV.two;clear hV hs;by_cases h1:n=1
   ·have HT:=hideT (tree_one l (by omega))
    have ci:=hc 0 (by omega);rw[Nat.add_zero]at ci;have hsz:=hr 0 (by omega);obtain⟨s,hse⟩:∃ s,s=l[0]'(by omega):=⟨_,rfl⟩;rw[<-hse]at ci hsz;have HSE:=hideT hse;have HL:=hideT (leafR_yes s (by omega));subst h1;clear hc hse hr ih;go_enter func59,ntmps59;(go_wp2_with fail);refine(leaf_impl s _ (by unfold maxLen;omega) HV.o).mono ?_;rw[HL.o];rintro e w1 ⟨rfl,hb1⟩;(go_wp2_with fail);go_ret;exact⟨Nu.ret_strJ (by rw[HT.o,<-HSE.o]),hb1⟩
   ·have hp:=half_pos n
    have hl:=half_lt n (by omega);have HT:=hideT (tree_two l (by omega));have HI:=hideT ih;have HR:=hideT hr;have HC:=hideT hc;have HLN:=hideT hln;clear hc hr ih;have i0:¬(n:Int)=0:=(by omega);have i1:¬(n:Int)=1:=(by omega);go_enter func59,ntmps59;(go_wp2_with fail);refine(cut_any b off n cap w (by omega) (by omega) hcap).mono ?_;rintro e w1 ⟨rfl,hb1,hh1⟩;have V1:=hideT (HV.o.below hb1 hv2);have HB1:=hideT hb1;clear hb1 hh1;(go_wp2_with fail);refine(HI.o (half n) (l.take (half n)) (some ⟨b,off,none⟩) (half n) B w1 (by omega) (by rw[List.length_take];omega) nl (by omega) (fun j hj=>by rw[List.getElem_take];exact HR.o j _) ((Strs.take hb HC.o).after HB1.o hB) (Nat.le_trans hB HB1.o.size) V1.o).mono ?_;rintro e w2 ⟨rfl,hb2⟩;have HB2:=hideT (HB1.o.trans (hb2.mono HB1.o.size));have V2:=hideT (HV.o.below HB2.o hv2);clear hb2;(go_wp2_with fail);refine(HI.o (n-half n) (l.drop (half n)) (some ⟨b,off+half n,none⟩) (n-half n) B w2 (by omega) (by rw[List.length_drop];omega) nl (by omega) (fun j hj=>by rw[List.getElem_drop];exact HR.o _ _) ((Strs.drop hb HC.o).after HB2.o hB) (Nat.le_trans hB HB2.o.size) V2.o).mono ?_;rintro e w3 ⟨rfl,hb3⟩;have HB3:=hideT (HB2.o.trans (hb3.mono HB2.o.size));have V3:=hideT (HV.o.below HB3.o hv2);clear hb3;have HN:=hideT (nodeR_yes (tree (l.take (half n))) (tree (l.drop (half n))) (tree_size _) (tree_size _));(go_wp2_with fail);refine(node_impl (tree (l.take (half n))) (tree (l.drop (half n))) _ V3.o).mono ?_;rw[HN.o];rintro e w4 ⟨rfl,hb4⟩;have HB4:=hideT (HB3.o.trans (hb4.mono HB3.o.size));clear hb4;(go_wp2_with fail);go_ret;exact⟨Nu.ret_strJ (by rw[HT.o,HLN.o]),HB4.o⟩
end Tr
namespace Tr
open St
open Sh (leafV nodeV all_any l03Leaf_any l03Node_any)
theorem tree_spec:∀ (m n:Nat) (l:List ByteArray) (a:Option Addr) (cap B:Nat) (w:World),n<=m->l.length=n->n<=cap->n<=64->(∀ j (h:j<l.length),l[j].size<=100)->Strs w B a l->B<=w.heap.size ->
  Calls prog 85 #[.slice a n cap] w fun e w'=>e=.returned (.string (tree l))/\Below w.heap.size w w':=by
 intro m
 induction m with
 |zero =>
  intro n l a cap B w hm hln hcap h64 hr hs hB
  obtain rfl:n=0:=by omega
  have HT:=hideT (tree_nil l hln);clear hs hr;go_enter func85,ntmps85
  go_wp2_with fail
  refine(all_any ⟨#[]⟩ _ (by decide)).mono ?_;rintro e w1 ⟨rfl,hb1⟩
  go_wp2_with fail
  go_ret;exact⟨Nu.ret_strJ HT.o.symm,hb1⟩
 |succ m ih =>
  intro n l a cap B w hm hln hcap h64 hr hs hB;by_cases h0:n=0
  ·exact ih n l a cap B w (by omega) hln hcap h64 hr hs hB
  ·obtain⟨b,off,rfl,hb,hc⟩:=hs.some (by omega)
   clear hs;by_cases h1:n=1
   ·have HT:=hideT (tree_one l (by omega))
    have ci:=hc 0 (by omega);rw[Nat.add_zero]at ci;have hsz:=hr 0 (by omega);obtain⟨s,hse⟩:∃ s,s=l[0]'(by omega):=⟨_,rfl⟩;rw[<-hse]at ci hsz;have HSE:=hideT hse;subst h1;clear hc hse hr ih;go_enter func85,ntmps85;(go_wp2_with fail);refine(l03Leaf_any s _ (by omega)).mono ?_;rintro e w1 ⟨rfl,hb1⟩;(go_wp2_with fail);go_ret;exact⟨Nu.ret_strJ (by rw[HT.o,<-HSE.o]),hb1⟩
   ·have hp:=half_pos n
    have hl:=half_lt n (by omega);have HT:=hideT (tree_two l (by omega));obtain⟨k,hk⟩:∃ k,k=half n:=⟨_,rfl⟩;have HK:=hideT hk;rw[<-hk]at hp hl;clear hk
    have I1:Hid (∀ W:World,Below w.heap.size w W->Calls prog 85 #[.slice (some ⟨b,off,none⟩) k cap] W fun e w'=>e=.returned (.string (tree (l.take k)))/\Below W.heap.size W w'):=fun W hW =>
     ih k (l.take k) (some ⟨b,off,none⟩) cap B W (by omega) (by rw[List.length_take];omega) (by omega) (by omega) (fun j hj=>by rw[List.getElem_take];exact hr j _) ((Strs.take hb hc).after hW hB) (Nat.le_trans hB hW.size)
    have I2:Hid (∀ W:World,Below w.heap.size w W->Calls prog 85 #[.slice (some ⟨b,off+k,none⟩) (n-k) (cap-k)] W fun e w'=>e=.returned (.string (tree (l.drop k)))/\Below W.heap.size W w'):=fun W hW =>
     ih (n-k) (l.drop k) (some ⟨b,off+k,none⟩) (cap-k) B W (by omega) (by rw[List.length_drop];omega) (by omega) (by omega) (fun j hj=>by rw[List.getElem_drop];exact hr _ _) ((Strs.drop hb hc).after hW hB) (Nat.le_trans hB hW.size)
    have HLN:=hideT hln;have s1:=tree_size (l.take k);have s2:=tree_size (l.drop k);clear hc hr ih hln;have i0:¬(n:Int)=0:=(by omega);have i1:¬(n:Int)=1:=(by omega);have g1:(k:Int)<=cap:=(by omega);have g2:(k:Int)<=n:=(by omega);have g4:¬cap=k:=(by omega);have HH:=hideT (half_spec n w (by omega) (by omega));rw[<-HK.o]at HH;go_enter func85,ntmps85;(go_wp2_with fail);refine HH.o.mono ?_;rintro e w1 ⟨rfl,hw⟩;subst w1;(go_wp2_with fail)
    go_region_with (first|(go_at_call 85;(with_reducible refine(I1.o _ ?_).mono ?_);(· exact(Below.refl _ _).drew);rintro e w2 ⟨rfl,hb2⟩;have HB2:=hideT (show Below w.heap.size w w2 from ⟨hb2.os,hb2.tape,hb2.output,hb2.size,hb2.block⟩);clear hb2)|(go_at_call 85;(with_reducible refine(I2.o w2 HB2.o).mono ?_);rintro e w3 ⟨rfl,hb3⟩;have HB3:=hideT (HB2.o.trans (hb3.mono HB2.o.size));clear hb3)|(go_at_call 115;refine(l03Node_any (tree (l.take k)) (tree (l.drop k)) w3 ?_ ?_).mono ?_;(· omega);(· omega);rintro e w4 ⟨rfl,hb4⟩;have HB4:=hideT (HB3.o.trans (hb4.mono HB3.o.size));clear hb4))
    all_goals (try go_wp2_with fail)
    all_goals go_ret
    all_goals exact⟨Nu.ret_strJ (by rw[HT.o,HLN.o,<-HK.o]),HB4.o⟩
end Tr
namespace Tr
open Sh (nodeV)
def climbR:Nat->Nat->Nat->List ByteArray->ByteArray->Option ByteArray
 |0,_,_,_,_=>none
 |f+1,n,i,p,h =>
  if n<=1 then (if p=[] then some h else none)
  else match p.getLast? with
   |none=>none
   |some s=>if i<half n then (climbR f (half n) i p.dropLast h).map (fun x=>nodeV x s) else (climbR f (n-half n) (i-half n) p.dropLast h).map (fun x=>nodeV s x)
def od (a:Nat):Nat:=if _h:a%2=0/\0<a then od (a/2) else a
termination_by a
decreasing_by omega
theorem od_even (a:Nat) (h:a%2=0) (h0:0<a):od a=od (a/2):=by rw[od,dif_pos ⟨h,h0⟩]
theorem od_odd (a:Nat) (h:¬(a%2=0/\0<a)):od a=a:=by rw[od,dif_neg h]
def climbS:Nat->Nat->List ByteArray->ByteArray->Option ByteArray
 |_,last,[],h=>if last=0 then some h else none
 |a,last,p :: ps,h =>
  if last=0 then none
  else if a%2=1 then climbS (a/2) (last/2) ps (nodeV p h)
  else if a=last then climbS (od a/2) (od a/2) ps (nodeV p h)
  else climbS (a/2) (last/2) ps (nodeV h p)
theorem climbS_zero (a:Nat) (p:List ByteArray) (h:ByteArray) (hp:p≠[]):climbS a 0 p h=none:=by
 cases p with
 |nil=>exact absurd rfl hp
 |cons x xs=>rw[climbS,if_pos rfl]
theorem climbS_odd (a last:Nat) (x:ByteArray) (xs:List ByteArray) (h:ByteArray) (h0:last≠0) (h1:a%2=1):climbS a last (x :: xs) h=climbS (a/2) (last/2) xs (nodeV x h):=by
 rw[climbS,if_neg h0,if_pos h1]
theorem climbS_end (a:Nat) (x:ByteArray) (xs:List ByteArray) (h:ByteArray) (h0:a≠0) (h1:a%2=0):climbS a a (x :: xs) h=climbS (od a/2) (od a/2) xs (nodeV x h):=by
 rw[climbS,if_neg h0,if_neg (by omega),if_pos rfl]
theorem climbS_even (a last:Nat) (x:ByteArray) (xs:List ByteArray) (h:ByteArray) (h0:last≠0) (h1:a%2=0) (h2:a≠last):climbS a last (x :: xs) h=climbS (a/2) (last/2) xs (nodeV h x):=by
 rw[climbS,if_neg h0,if_neg (by omega),if_neg h2]
theorem climbS_nil (a last:Nat) (h:ByteArray):climbS a last [] h=if last=0 then some h else none:=by rw[climbS]
theorem pow_half (t:Nat) (h:0<t):2 ^ t/2=2 ^ (t-1)/\2 ^ t=2*2 ^ (t-1):=by
 obtain⟨s,rfl⟩:∃ s,t=s+1:=⟨t-1,by omega⟩;rw[Nat.pow_succ];simp;omega
theorem pow_pos2 (t:Nat):1<=2 ^ t:=Nat.one_le_two_pow
theorem climb_left:∀ (p:List ByteArray) (t a last:Nat) (s h:ByteArray),a<2 ^ t->2 ^ t<=last->last<2 ^ (t+1) ->
  climbS a last (p++[s]) h=(climbS a (2 ^ t-1) p h).map (fun x=>nodeV x s)
 |[],t,a,last,s,h,h1,h2,h3=>by
  have hp:=pow_pos2 t;rw[List.nil_append,climbS_nil]
  rcases Nat.eq_zero_or_pos t with h0|h0
  ·subst h0
   rw[climbS_even a last s [] h (by omega) (by omega) (by omega),climbS_nil,if_pos (by omega),if_pos (by omega)];rfl
  ·obtain⟨e1,e2⟩:=pow_half t h0
   have hq:=pow_pos2 (t-1);rw[if_neg (by omega)];by_cases ha:a%2=1
   ·rw[climbS_odd a last s [] h (by omega) ha,climbS_nil,if_neg (by omega)]
    rfl
   ·rw[climbS_even a last s [] h (by omega) (by omega) (by omega),climbS_nil,if_neg (by omega)]
    rfl
 |x :: xs,t,a,last,s,h,h1,h2,h3=>by
  have hp:=pow_pos2 t;rw[List.cons_append]
  rcases Nat.eq_zero_or_pos t with h0|h0
  ·subst h0
   rw[climbS_even a last x (xs++[s]) h (by omega) (by omega) (by omega)];rw[show last/2=0 by omega,climbS_zero _ _ _ (by simp)];rw[show 2 ^ 0-1=0 by omega,climbS_zero _ _ _ (by simp)];rfl
  ·obtain⟨e1,e2⟩:=pow_half t h0
   have hq:=pow_pos2 (t-1)
   have e3:(2 ^ t-1)/2=2 ^ (t-1)-1:=by omega
   have e4:2 ^ (t+1)=2*2 ^ t:=by rw[Nat.pow_succ];omega
   have e5:2 ^ (t-1+1)=2 ^ t:=by rw[show t-1+1=t by omega]
   by_cases ha:a%2=1
   ·rw[climbS_odd a last x _ h (by omega) ha,climbS_odd a (2 ^ t-1) x _ h (by omega) ha,e3]
    exact climb_left xs (t-1) (a/2) (last/2) s (nodeV x h) (by omega) (by omega) (by omega)
   ·rw[climbS_even a last x _ h (by omega) (by omega) (by omega),climbS_even a (2 ^ t-1) x _ h (by omega) (by omega) (by omega),e3]
    exact climb_left xs (t-1) (a/2) (last/2) s (nodeV h x) (by omega) (by omega) (by omega)
theorem od_pow:∀ t:Nat,od (2 ^ t)=1
 |0=>by rw[od_odd _ (by decide)]
 |t+1=>by
  have hp:=pow_pos2 t;rw[Nat.pow_succ,od_even _ (by omega) (by omega),show 2 ^ t*2/2=2 ^ t by omega];exact od_pow t
theorem od_top:∀ (t r:Nat),0<r->r<2 ^ t->∃ u,1<=u/\u<=t/\od (2 ^ t+r)=2 ^ u+od r/\od r<2 ^ u/\0<od r
 |0,r,h0,h1=>by simp at h1;omega
 |t+1,r,h0,h1=>by
  have hp:=pow_pos2 t
  have e:2 ^ (t+1)=2*2 ^ t:=by rw[Nat.pow_succ];omega
  by_cases hr:r%2=0
  ·obtain⟨u,u1,u2,u3,u4,u5⟩:=od_top t (r/2) (by omega) (by omega)
   refine⟨u,u1,by omega,?_,?_,?_⟩
   ·rw[od_even (2 ^ (t+1)+r) (by omega) (by omega),od_even r hr h0,show (2 ^ (t+1)+r)/2=2 ^ t+r/2 by omega]
    exact u3
   ·rw[od_even r hr h0];exact u4
   ·rw[od_even r hr h0];exact u5
  ·refine⟨t+1,by omega,nl,?_,?_,?_⟩
   ·rw[od_odd (2 ^ (t+1)+r) (by omega),od_odd r (by omega)]
   ·rw[od_odd r (by omega)];exact h1
   ·rw[od_odd r (by omega)];exact h0
theorem climb_right:∀ (p:List ByteArray) (t a last:Nat) (s h:ByteArray),2 ^ t<=a->a<=last->last<2 ^ (t+1) ->
  climbS a last (p++[s]) h=(climbS (a-2 ^ t) (last-2 ^ t) p h).map (fun x=>nodeV s x)
 |[],t,a,last,s,h,h1,h2,h3=>by
  have hp:=pow_pos2 t
  have e4:2 ^ (t+1)=2*2 ^ t:=by rw[Nat.pow_succ];omega
  rw[List.nil_append,climbS_nil (a-2 ^ t)];by_cases hl:last=2 ^ t
  ·obtain rfl:a=last:=by omega
   rw[if_pos (by omega)];by_cases ha:a%2=1
   ·rw[climbS_odd a a s [] h (by omega) ha,climbS_nil,if_pos (by
     rcases Nat.eq_zero_or_pos t with h0|h0
     ·subst h0;omega
     ·obtain⟨e1,e2⟩:=pow_half t h0;omega)]
    rfl
   ·rw[climbS_end a s [] h (by omega) (by omega),climbS_nil,hl,od_pow,if_pos (by decide)]
    rfl
  ·rw[if_neg (by omega)]
   have h0:0<t:=by
    rcases Nat.eq_zero_or_pos t with h0|h0
    ·subst h0;omega
    ·exact h0
   obtain⟨e1,e2⟩:=pow_half t h0;have hq:=pow_pos2 (t-1);by_cases ha:a%2=1
   ·rw[climbS_odd a last s [] h (by omega) ha,climbS_nil,if_neg (by omega)]
    rfl
   ·by_cases hal:a=last
    ·subst hal
     obtain⟨u,u1,u2,u3,u4,u5⟩:=od_top t (a-2 ^ t) (by omega) (by omega);rw[show 2 ^ t+(a-2 ^ t)=a by omega]at u3;obtain⟨f1,f2⟩:=pow_half u u1;have hq':=pow_pos2 (u-1);rw[climbS_end a s [] h (by omega) (by omega),climbS_nil,if_neg (by omega)];rfl
    ·rw[climbS_even a last s [] h (by omega) (by omega) hal,climbS_nil,if_neg (by omega)]
     rfl
 |x :: xs,t,a,last,s,h,h1,h2,h3=>by
  have hp:=pow_pos2 t
  have e4:2 ^ (t+1)=2*2 ^ t:=by rw[Nat.pow_succ];omega
  rw[List.cons_append];by_cases hl:last=2 ^ t
  ·obtain rfl:a=last:=by omega
   rw[show a-2 ^ t=0 by omega,climbS_zero _ _ _ (by simp)];by_cases ha:a%2=1
   ·rw[climbS_odd a a x _ h (by omega) ha,show a/2=0 by
     rcases Nat.eq_zero_or_pos t with h0|h0
     ·subst h0;omega
     ·obtain⟨e1,e2⟩:=pow_half t h0;omega,climbS_zero _ _ _ (by simp)]
    rfl
   ·rw[climbS_end a x _ h (by omega) (by omega),hl,od_pow,show 1/2=0 from rfl,climbS_zero _ _ _ (by simp)]
    rfl
  ·have h0:0<t:=by
    rcases Nat.eq_zero_or_pos t with h0|h0
    ·subst h0;omega
    ·exact h0
   obtain⟨e1,e2⟩:=pow_half t h0;have hq:=pow_pos2 (t-1)
   have e5:2 ^ (t-1+1)=2 ^ t:=by rw[show t-1+1=t by omega]
   have e6:(a-2 ^ t)/2=a/2-2 ^ (t-1):=by omega
   have e7:(last-2 ^ t)/2=last/2-2 ^ (t-1):=by omega
   by_cases ha:a%2=1
   ·rw[climbS_odd a last x _ h (by omega) ha,climbS_odd (a-2 ^ t) (last-2 ^ t) x _ h (by omega) (by omega),e6,e7]
    exact climb_right xs (t-1) (a/2) (last/2) s (nodeV x h) (by omega) (by omega) (by omega)
   ·by_cases hal:a=last
    ·subst hal
     obtain⟨u,u1,u2,u3,u4,u5⟩:=od_top t (a-2 ^ t) (by omega) (by omega);rw[show 2 ^ t+(a-2 ^ t)=a by omega]at u3;obtain⟨f1,f2⟩:=pow_half u u1;have f5:2 ^ (u-1+1)=2 ^ u:=(by rw[show u-1+1=u by omega]);rw[climbS_end a x _ h (by omega) (by omega),climbS_end (a-2 ^ t) x _ h (by omega) (by omega)];rw[show od (a-2 ^ t)/2=od a/2-2 ^ (u-1) by omega];exact climb_right xs (u-1) (od a/2) (od a/2) s (nodeV x h) (by omega) (by omega) (by omega)
    ·rw[climbS_even a last x _ h (by omega) (by omega) hal,climbS_even (a-2 ^ t) (last-2 ^ t) x _ h (by omega) (by omega) (by omega),e6,e7]
     exact climb_right xs (t-1) (a/2) (last/2) s (nodeV h x) (by omega) (by omega) (by omega)
theorem climb_same:∀ (f n i:Nat) (p:List ByteArray) (h:ByteArray),n<=f->i<n->climbR f n i p h=climbS i (n-1) p h
 |0,n,i,p,h,h1,h2=>by omega
 |f+1,n,i,p,h,h1,h2=>by
  rw[climbR];by_cases hn:n<=1
  ·rw[if_pos hn,show n-1=0 by omega]
   cases p with
   |nil=>rw[if_pos rfl,climbS_nil,if_pos rfl]
   |cons x xs=>rw[if_neg (by simp),climbS_zero _ _ _ (by simp)]
  ·rw[if_neg hn]
   cases hp:p.getLast? with
   |none =>
    have:p=[]:=List.getLast?_eq_none_iff.1 hp
    subst this;rw[climbS_nil,if_neg (by omega)]
   |some s =>
    have hps:p.dropLast++[s]=p:=by
     obtain⟨q,rfl⟩:=List.getLast?_eq_some_iff.1 hp;simp
    have k1:=half_pos n;have k2:=half_lt n (by omega);have k3:=half_two n (by omega);have hk:half n=2 ^ Nat.log2 (n-1):=rfl;have e4:2 ^ (Nat.log2 (n-1)+1)=2*half n:=(by rw[Nat.pow_succ,hk];omega);simp only[];by_cases hi:i<half n
    ·rw[if_pos hi,climb_same f (half n) i p.dropLast h (by omega) hi]
     have:=climb_left p.dropLast (Nat.log2 (n-1)) i (n-1) s h (by rw[<-hk];exact hi) (by rw[<-hk];omega) (by rw[e4];omega)
     rw[hps,<-hk]at this;exact this.symm
    ·rw[if_neg hi,climb_same f (n-half n) (i-half n) p.dropLast h (by omega) (by omega)]
     have:=climb_right p.dropLast (Nat.log2 (n-1)) i (n-1) s h (by rw[<-hk];omega) (by omega) (by rw[e4];omega)
     rw[hps,<-hk,show n-1-half n=n-half n-1 by omega]at this;exact this.symm
end Tr
end Go.Proofs.YtaejgfdkfcmjeaaGreatDoor
