/- Texts put together: StrArg, TreeTop, InclPlain, Digs, RangeRight. -/
import Derived.Test.YtikiihjabbmkcaaGreatDoorBz13
import Derived.Test.YtikiihjabbmkcaaGreatDoorBz38
import Derived.Test.YtikiihjabbmkcaaGreatDoorBz37
import Derived.BigQuiet
import Derived.Deep.QuietTactic
import Derived.Deep.RegionWith
set_option maxRecDepth 100000
set_option maxHeartbeats 8000000
/- A slice of texts that came in. -/
namespace Go.Proofs.YtikiihjabbmkcaaGreatDoor.St
open Go.RowKit
def IsStrs (w:World) (a:Option Addr) (len cap:Nat) (ss:List ByteArray):Prop :=
 (a=none/\len=0/\cap=0/\ss=[]) ∨
 ∃ x,a=some x/\len<=cap/\cap<=maxLen/\ss.length=cap/\(∀ i,i<ss.length->w.cell? (x.add i)=some (.string (ss.getD i ByteArray.empty)))/\∀ s∈ss,s.size<=maxLen
end Go.Proofs.YtikiihjabbmkcaaGreatDoor.St


/- What both TreeHash answer, and the law on it. -/
namespace Go.Proofs.YtikiihjabbmkcaaGreatDoor.Tr
open Go.RowKit
open St
open Sh (Vars)
theorem below2 {w w1 w2:World} (h1:Below w.heap.size w w1) (h2:Below w1.heap.size w1 w2):Below w.heap.size w w2:=h1.trans (h2.mono h1.size)
end Go.Proofs.YtikiihjabbmkcaaGreatDoor.Tr


/- Plain mathematics of inclusion: climbing from a leaf down from the root's step, and up from the leaf's own, come to the same. -/
namespace Go.Proofs.YtikiihjabbmkcaaGreatDoor.Tr
open Sh (nodeV)
def climbR:Nat->Nat->Nat->List ByteArray->ByteArray->Option ByteArray
 |0,_,_,_,_=>none
 |f+1,n,i,p,h =>
  if n<=1 then (if p=[] then some h else none)
  else match p.getLast? with
   |none=>none
   |some s=>if i<half n then (climbR f (half n) i p.dropLast h).map (fun x=>nodeV x s) else (climbR f (n-half n) (i-half n) p.dropLast h).map (fun x=>nodeV s x)
def od (a:Nat):Nat:=if _h:a%2=0/\0<a then od (a/2) else a
termination_by a
decreasing_by omega
theorem od_even (a:Nat) (h:a%2=0) (h0:0<a):od a=od (a/2):=by rw[od,dif_pos ⟨h,h0⟩]
theorem od_odd (a:Nat) (h:¬(a%2=0/\0<a)):od a=a:=by rw[od,dif_neg h]
def climbS:Nat->Nat->List ByteArray->ByteArray->Option ByteArray
 |_,last,[],h=>if last=0 then some h else none
 |a,last,p :: ps,h =>
  if last=0 then none
  else if a%2=1 then climbS (a/2) (last/2) ps (nodeV p h)
  else if a=last then climbS (od a/2) (od a/2) ps (nodeV p h)
  else climbS (a/2) (last/2) ps (nodeV h p)
theorem climbS_zero (a:Nat) (p:List ByteArray) (h:ByteArray) (hp:p≠[]):climbS a 0 p h=none:=by
 cases p with
 |nil=>exact absurd rfl hp
 |cons x xs=>rw[climbS,if_pos rfl]
theorem climbS_odd (a last:Nat) (x:ByteArray) (xs:List ByteArray) (h:ByteArray) (h0:last≠0) (h1:a%2=1):climbS a last (x :: xs) h=climbS (a/2) (last/2) xs (nodeV x h):=by
 rw[climbS,if_neg h0,if_pos h1]
theorem climbS_end (a:Nat) (x:ByteArray) (xs:List ByteArray) (h:ByteArray) (h0:a≠0) (h1:a%2=0):climbS a a (x :: xs) h=climbS (od a/2) (od a/2) xs (nodeV x h):=by
 rw[climbS,if_neg h0,if_neg (by omega),if_pos rfl]
theorem climbS_even (a last:Nat) (x:ByteArray) (xs:List ByteArray) (h:ByteArray) (h0:last≠0) (h1:a%2=0) (h2:a≠last):climbS a last (x :: xs) h=climbS (a/2) (last/2) xs (nodeV h x):=by
 rw[climbS,if_neg h0,if_neg (by omega),if_neg h2]
theorem climbS_nil (a last:Nat) (h:ByteArray):climbS a last [] h=if last=0 then some h else none:=by rw[climbS]
theorem pow_half (t:Nat) (h:0<t):2 ^ t/2=2 ^ (t-1)/\2 ^ t=2*2 ^ (t-1):=by
 obtain⟨s,rfl⟩:∃ s,t=s+1:=⟨t-1,by omega⟩
 rw[Nat.pow_succ]
 simp
 omega
theorem pow_pos2 (t:Nat):1<=2 ^ t:=Nat.one_le_two_pow
theorem climb_left:∀ (p:List ByteArray) (t a last:Nat) (s h:ByteArray),a<2 ^ t->2 ^ t<=last->last<2 ^ (t+1) ->
  climbS a last (p++[s]) h=(climbS a (2 ^ t-1) p h).map (fun x=>nodeV x s)
 |[],t,a,last,s,h,h1,h2,h3=>by
  have hp:=pow_pos2 t
  rw[List.nil_append,climbS_nil]
  rcases Nat.eq_zero_or_pos t with h0|h0
  ·subst h0
   rw[climbS_even a last s [] h (by omega) (by omega) (by omega),climbS_nil,if_pos (by omega),if_pos (by omega)]
   rfl
  ·obtain⟨e1,e2⟩:=pow_half t h0
   have hq:=pow_pos2 (t-1)
   rw[if_neg (by omega)]
   by_cases ha:a%2=1
   ·rw[climbS_odd a last s [] h (by omega) ha,climbS_nil,if_neg (by omega)]
    rfl
   ·rw[climbS_even a last s [] h (by omega) (by omega) (by omega),climbS_nil,if_neg (by omega)]
    rfl
 |x :: xs,t,a,last,s,h,h1,h2,h3=>by
  have hp:=pow_pos2 t
  rw[List.cons_append]
  rcases Nat.eq_zero_or_pos t with h0|h0
  ·subst h0
   rw[climbS_even a last x (xs++[s]) h (by omega) (by omega) (by omega)]
   rw[show last/2=0 by omega,climbS_zero _ _ _ (by simp)]
   rw[show 2 ^ 0-1=0 by omega,climbS_zero _ _ _ (by simp)]
   rfl
  ·obtain⟨e1,e2⟩:=pow_half t h0
   have hq:=pow_pos2 (t-1)
   have e3:(2 ^ t-1)/2=2 ^ (t-1)-1:=by omega
   have e4:2 ^ (t+1)=2*2 ^ t:=by rw[Nat.pow_succ];omega
   have e5:2 ^ (t-1+1)=2 ^ t:=by rw[show t-1+1=t by omega]
   by_cases ha:a%2=1
   ·rw[climbS_odd a last x _ h (by omega) ha,climbS_odd a (2 ^ t-1) x _ h (by omega) ha,e3]
    exact climb_left xs (t-1) (a/2) (last/2) s (nodeV x h) (by omega) (by omega) (by omega)
   ·rw[climbS_even a last x _ h (by omega) (by omega) (by omega),climbS_even a (2 ^ t-1) x _ h (by omega) (by omega) (by omega),e3]
    exact climb_left xs (t-1) (a/2) (last/2) s (nodeV h x) (by omega) (by omega) (by omega)
theorem od_pow:∀ t:Nat,od (2 ^ t)=1
 |0=>by rw[od_odd _ (by decide)]
 |t+1=>by
  have hp:=pow_pos2 t
  rw[Nat.pow_succ,od_even _ (by omega) (by omega),show 2 ^ t*2/2=2 ^ t by omega]
  exact od_pow t
theorem od_top:∀ (t r:Nat),0<r->r<2 ^ t->∃ u,1<=u/\u<=t/\od (2 ^ t+r)=2 ^ u+od r/\od r<2 ^ u/\0<od r
 |0,r,h0,h1=>by simp at h1;omega
 |t+1,r,h0,h1=>by
  have hp:=pow_pos2 t
  have e:2 ^ (t+1)=2*2 ^ t:=by rw[Nat.pow_succ];omega
  by_cases hr:r%2=0
  ·obtain⟨u,u1,u2,u3,u4,u5⟩:=od_top t (r/2) (by omega) (by omega)
   refine⟨u,u1,by omega,?_,?_,?_⟩
   ·rw[od_even (2 ^ (t+1)+r) (by omega) (by omega),od_even r hr h0,show (2 ^ (t+1)+r)/2=2 ^ t+r/2 by omega]
    exact u3
   ·rw[od_even r hr h0];exact u4
   ·rw[od_even r hr h0];exact u5
  ·refine⟨t+1,by omega,Nat.le_refl _,?_,?_,?_⟩
   ·rw[od_odd (2 ^ (t+1)+r) (by omega),od_odd r (by omega)]
   ·rw[od_odd r (by omega)];exact h1
   ·rw[od_odd r (by omega)];exact h0
theorem climb_right:∀ (p:List ByteArray) (t a last:Nat) (s h:ByteArray),2 ^ t<=a->a<=last->last<2 ^ (t+1) ->
  climbS a last (p++[s]) h=(climbS (a-2 ^ t) (last-2 ^ t) p h).map (fun x=>nodeV s x)
 |[],t,a,last,s,h,h1,h2,h3=>by
  have hp:=pow_pos2 t
  have e4:2 ^ (t+1)=2*2 ^ t:=by rw[Nat.pow_succ];omega
  rw[List.nil_append,climbS_nil (a-2 ^ t)]
  by_cases hl:last=2 ^ t
  ·obtain rfl:a=last:=by omega
   rw[if_pos (by omega)]
   by_cases ha:a%2=1
   ·rw[climbS_odd a a s [] h (by omega) ha,climbS_nil,if_pos (by
     rcases Nat.eq_zero_or_pos t with h0|h0
     ·subst h0;omega
     ·obtain⟨e1,e2⟩:=pow_half t h0;omega)]
    rfl
   ·rw[climbS_end a s [] h (by omega) (by omega),climbS_nil,hl,od_pow,if_pos (by decide)]
    rfl
  ·rw[if_neg (by omega)]
   have h0:0<t:=by
    rcases Nat.eq_zero_or_pos t with h0|h0
    ·subst h0;omega
    ·exact h0
   obtain⟨e1,e2⟩:=pow_half t h0
   have hq:=pow_pos2 (t-1)
   by_cases ha:a%2=1
   ·rw[climbS_odd a last s [] h (by omega) ha,climbS_nil,if_neg (by omega)]
    rfl
   ·by_cases hal:a=last
    ·subst hal
     obtain⟨u,u1,u2,u3,u4,u5⟩:=od_top t (a-2 ^ t) (by omega) (by omega)
     rw[show 2 ^ t+(a-2 ^ t)=a by omega]at u3
     obtain⟨f1,f2⟩:=pow_half u u1
     have hq':=pow_pos2 (u-1)
     rw[climbS_end a s [] h (by omega) (by omega),climbS_nil,if_neg (by omega)]
     rfl
    ·rw[climbS_even a last s [] h (by omega) (by omega) hal,climbS_nil,if_neg (by omega)]
     rfl
 |x :: xs,t,a,last,s,h,h1,h2,h3=>by
  have hp:=pow_pos2 t
  have e4:2 ^ (t+1)=2*2 ^ t:=by rw[Nat.pow_succ];omega
  rw[List.cons_append]
  by_cases hl:last=2 ^ t
  ·obtain rfl:a=last:=by omega
   rw[show a-2 ^ t=0 by omega,climbS_zero _ _ _ (by simp)]
   by_cases ha:a%2=1
   ·rw[climbS_odd a a x _ h (by omega) ha,show a/2=0 by
     rcases Nat.eq_zero_or_pos t with h0|h0
     ·subst h0;omega
     ·obtain⟨e1,e2⟩:=pow_half t h0;omega,climbS_zero _ _ _ (by simp)]
    rfl
   ·rw[climbS_end a x _ h (by omega) (by omega),hl,od_pow,show 1/2=0 from rfl,climbS_zero _ _ _ (by simp)]
    rfl
  ·have h0:0<t:=by
    rcases Nat.eq_zero_or_pos t with h0|h0
    ·subst h0;omega
    ·exact h0
   obtain⟨e1,e2⟩:=pow_half t h0
   have hq:=pow_pos2 (t-1)
   have e5:2 ^ (t-1+1)=2 ^ t:=by rw[show t-1+1=t by omega]
   have e6:(a-2 ^ t)/2=a/2-2 ^ (t-1):=by omega
   have e7:(last-2 ^ t)/2=last/2-2 ^ (t-1):=by omega
   by_cases ha:a%2=1
   ·rw[climbS_odd a last x _ h (by omega) ha,climbS_odd (a-2 ^ t) (last-2 ^ t) x _ h (by omega) (by omega),e6,e7]
    exact climb_right xs (t-1) (a/2) (last/2) s (nodeV x h) (by omega) (by omega) (by omega)
   ·by_cases hal:a=last
    ·subst hal
     obtain⟨u,u1,u2,u3,u4,u5⟩:=od_top t (a-2 ^ t) (by omega) (by omega)
     rw[show 2 ^ t+(a-2 ^ t)=a by omega]at u3
     obtain⟨f1,f2⟩:=pow_half u u1
     have f5:2 ^ (u-1+1)=2 ^ u:=by rw[show u-1+1=u by omega]
     rw[climbS_end a x _ h (by omega) (by omega),climbS_end (a-2 ^ t) x _ h (by omega) (by omega)]
     rw[show od (a-2 ^ t)/2=od a/2-2 ^ (u-1) by omega]
     exact climb_right xs (u-1) (od a/2) (od a/2) s (nodeV x h) (by omega) (by omega) (by omega)
    ·rw[climbS_even a last x _ h (by omega) (by omega) hal,climbS_even (a-2 ^ t) (last-2 ^ t) x _ h (by omega) (by omega) (by omega),e6,e7]
     exact climb_right xs (t-1) (a/2) (last/2) s (nodeV h x) (by omega) (by omega) (by omega)
end Go.Proofs.YtikiihjabbmkcaaGreatDoor.Tr


namespace Go.Proofs.YtikiihjabbmkcaaGreatDoor.Tr
open Go.RowKit
open St
open Sh (nodeV)
def wide (l:List ByteArray):Bool:=l.all (fun s=>decide (s.size=32))
theorem wide_yes (l:List ByteArray):wide l=true↔∀ j (h:j<l.length),l[j].size=32:=by
 unfold wide
 simp only[List.all_eq_true,decide_eq_true_eq]
 constructor
 ·intro h j hj
  exact h _ (List.getElem_mem hj)
 ·intro h s hs
  obtain⟨j,hj,rfl⟩:=List.getElem_of_mem hs
  exact h j hj
theorem wide_bad (l:List ByteArray) (j:Nat) (hj:j<l.length) (h:¬l[j].size=32):wide l=false:=by
 cases e:wide l with
 |false=>rfl
 |true=>exact absurd ((wide_yes l).1 e j hj) h
theorem digs_impl (a:Option Addr) (cap:Nat) (l:List ByteArray) (most:Nat) (w:World) (B:Nat) (h:Strs w B a l) (hn:l.length<=1048576) :
  Calls Tryz.prog 191 #[.slice a l.length cap,.int .i64 most] w fun e w'=>e=.returned (.bool (decide (l.length<=most) && wide l))/\w'=w:=by
 have HS:=hideT h
 clear h
 obtain⟨n,hln⟩:∃ n,n=l.length:=⟨_,rfl⟩
 have HLN:=hideT hln
 rw[<-hln]at hn ⊢
 clear hln
 by_cases hbig:most<n
 ·have HR:Hid ((decide (n<=most) && wide l)=false):=by
   unfold Hid
   rw[decide_eq_false (by omega)]
   rfl
  go_enter Tryz.func191,Tryz.ntmps191
  go_wp2_with fail
  go_ret
  exact⟨ret_bool HR.out.symm,rfl⟩
 ·have HR:Hid ((decide (n<=most) && wide l)=wide l):=by
   unfold Hid
   rw[decide_eq_true (by omega)]
   rfl
  go_enter Tryz.func191,Tryz.ntmps191
  go_wp2_with fail
  go_loopw [13] (fun i wr=>∃ k:Nat,i=.int .i64 k/\k<=n/\(∀ j (hj:j<l.length),j<k->l[j].size=32)/\wr=w) (fun i _=>n-(intOf i).toNat)
  case atStart=>exact⟨0,rfl,by omega,fun j hj h0=>by omega,rfl⟩
  case round =>
   obtain⟨k,rfl,hk,hall,hw⟩:=hrel
   subst hw
   have HA:=hideT hall
   clear hall
   by_cases hlt:k<n
   ·have hkl:k<l.length:=by rw[<-HLN.out];exact hlt
    obtain⟨b,off,rfl,hb,hc⟩:=HS.out.some (by omega)
    have ci:=hc k hkl
    have HBad:=hideT (wide_bad l k hkl)
    obtain⟨s,hs⟩:∃ s,s=l[k]:=⟨_,rfl⟩
    have HSE:=hideT hs
    rw[<-hs]at ci
    clear hc hs
    by_cases h32:s.size=32
    ·go_wp2_with fail
     go_roundw
     case rel =>
      refine⟨k+1,by go_num,by omega,fun j hj h0=>?_,trivial⟩
      by_cases e:j=k
      ·subst e
       rw[<-HSE.out]
       exact h32
      ·exact HA.out j hj (by omega)
     case measure=>simp[intOf];omega
    ·go_wp2_with fail
     go_ret
     exact⟨ret_bool (by rw[HR.out,HBad.out (by rw[<-HSE.out];exact h32)]),rfl⟩
   ·have HY:Hid (wide l=true):=by
     unfold Hid
     exact(wide_yes l).2 (fun j hj=>HA.out j hj (by have:=HLN.out;omega))
    go_wp2_with fail
    go_ret
    exact⟨ret_bool (by rw[HR.out,HY.out]),rfl⟩
theorem wide_spec (a:Option Addr) (cap:Nat) (l:List ByteArray) (w:World) (B:Nat) (h:Strs w B a l) (hn:l.length<=1048576) :
  Calls Tryz.prog 150 #[.slice a l.length cap] w fun e w'=>e=.returned (.bool (wide l))/\w'=w:=by
 have HS:=hideT h
 clear h
 obtain⟨n,hln⟩:∃ n,n=l.length:=⟨_,rfl⟩
 have HLN:=hideT hln
 rw[<-hln]at hn ⊢
 clear hln
 go_enter Tryz.func150,Tryz.ntmps150
 go_wp2_with fail
 go_loopw [3] (fun i wr=>∃ k:Nat,i=.int .i64 k/\k<=n/\(∀ j (hj:j<l.length),j<k->l[j].size=32)/\wr=w) (fun i _=>n-(intOf i).toNat)
 case atStart=>exact⟨0,rfl,by omega,fun j hj h0=>by omega,rfl⟩
 case round =>
  obtain⟨k,rfl,hk,hall,hw⟩:=hrel
  subst hw
  have HA:=hideT hall
  clear hall
  by_cases hlt:k<n
  ·have hkl:k<l.length:=by rw[<-HLN.out];exact hlt
   obtain⟨b,off,rfl,hb,hc⟩:=HS.out.some (by omega)
   have ci:=hc k hkl
   have HBad:=hideT (wide_bad l k hkl)
   obtain⟨s,hs⟩:∃ s,s=l[k]:=⟨_,rfl⟩
   have HSE:=hideT hs
   rw[<-hs]at ci
   clear hc hs
   by_cases h32:s.size=32
   ·go_wp2_with fail
    go_roundw
    case rel =>
     refine⟨k+1,by go_num,by omega,fun j hj h0=>?_,trivial⟩
     by_cases e:j=k
     ·subst e
      rw[<-HSE.out]
      exact h32
     ·exact HA.out j hj (by omega)
    case measure=>simp[intOf];omega
   ·go_wp2_with fail
    go_ret
    exact⟨ret_bool (by rw[HBad.out (by rw[<-HSE.out];exact h32)]),rfl⟩
  ·have HY:Hid (wide l=true):=by
    unfold Hid
    exact(wide_yes l).2 (fun j hj=>HA.out j hj (by have:=HLN.out;omega))
   go_wp2_with fail
   go_ret
   exact⟨ret_bool (by rw[HY.out]),rfl⟩
theorem cutLast_any (b off m cap:Nat) (s:ByteArray) (w:World) (hm:1<=m) (hm2:m<=1048576) (hc:m<=cap) (ci:w.cell? ⟨b,off+(m-1),none⟩=some (.string s)) :
  Calls Tryz.prog 221 #[.slice (some ⟨b,off,none⟩) m cap] w fun e w'=>e=.returned (.tuple #[.slice (some ⟨b,off,none⟩) (m-1) (m-1),.string s])/\Below w.heap.size w w':=by
 obtain⟨k,rfl⟩:∃ k,m=k+1:=⟨m-1,by omega⟩
 rw[show k+1-1=k by omega]at ci ⊢
 have g0:((k+1:Nat):Int)-1=k:=by omega
 have g1:(k:Int)<=cap:=by omega
 have g2:(k:Int)<((k+1:Nat):Int):=by omega
 have g3:¬cap=k:=by omega
 go_enter Tryz.func221,Tryz.ntmps221
 go_wp2_with fail
 go_region
 all_goals (try go_wp2_with fail)
 all_goals go_ret2
 all_goals exact⟨rfl,(Below.refl _ _).drew⟩
def incl (n i:Nat) (p:List ByteArray) (h:ByteArray):Option ByteArray:=climbS i (n-1) p h
theorem incl_one (p:List ByteArray) (h:ByteArray):incl 1 0 p h=if p=[] then some h else none:=by
 unfold incl
 cases p with
 |nil=>rw[climbS_nil,if_pos rfl,if_pos rfl]
 |cons x xs=>rw[climbS_zero _ _ _ (by simp),if_neg (by simp)]
theorem incl_none (n i:Nat) (h:ByteArray) (hn:2<=n):incl n i [] h=none:=by
 unfold incl
 rw[climbS_nil,if_neg (by omega)]
theorem incl_left (n i:Nat) (q:List ByteArray) (s h:ByteArray) (hn:2<=n) (hi:i<half n):incl n i (q++[s]) h=(incl (half n) i q h).map (fun x=>nodeV x s):=by
 have k3:=half_two n hn
 have k2:=half_lt n hn
 have hk:half n=2 ^ Nat.log2 (n-1):=rfl
 have e4:2 ^ (Nat.log2 (n-1)+1)=2*half n:=by rw[Nat.pow_succ,hk];omega
 exact climb_left q (Nat.log2 (n-1)) i (n-1) s h (by rw[<-hk];exact hi) (by rw[<-hk];omega) (by rw[e4];omega)
theorem incl_right (n i:Nat) (q:List ByteArray) (s h:ByteArray) (hn:2<=n) (hi:¬i<half n) (hin:i<n):incl n i (q++[s]) h=(incl (n-half n) (i-half n) q h).map (fun x=>nodeV s x):=by
 have k3:=half_two n hn
 have k2:=half_lt n hn
 have hk:half n=2 ^ Nat.log2 (n-1):=rfl
 have e4:2 ^ (Nat.log2 (n-1)+1)=2*half n:=by rw[Nat.pow_succ,hk];omega
 have:=climb_right q (Nat.log2 (n-1)) i (n-1) s h (by rw[<-hk];omega) (by omega) (by rw[e4];omega)
 unfold incl
 rw[this,<-hk,show n-1-half n=n-half n-1 by omega]
end Go.Proofs.YtikiihjabbmkcaaGreatDoor.Tr


/- Whether a range is right: impl.rangeRight and spec.l03Range. -/
namespace Go.Proofs.YtikiihjabbmkcaaGreatDoor.Tr
open Go.RowKit
open St
def rngB (n:Int) (p:List ByteArray):Bool:=decide (0<=n) && decide (n<=1000000) && decide (p.length=ones n.toNat) && wide p
end Go.Proofs.YtikiihjabbmkcaaGreatDoor.Tr

