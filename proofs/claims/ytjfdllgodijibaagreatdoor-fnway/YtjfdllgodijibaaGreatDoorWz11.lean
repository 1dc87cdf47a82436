/- Texts put together: TreePlain, InclPlain, WayPlain, WayMath, TreeHalf, TreeLen, TreeRight, TreeWalks, TreeSpec. -/
import Derived.Test.YtjfdllgodijibaaGreatDoorWz9
import Derived.Test.YtjfdllgodijibaaGreatDoorWz10
import Derived.Test.YtjfdllgodijibaaGreatDoorChecked
import Derived.Shelf.Strconv.Itoa0
import Derived.BigRegion
import Derived.BigQuiet
import Derived.Deep.QuietTactic
import Derived.Deep.RegionWith
set_option maxRecDepth 100000
set_option maxHeartbeats 8000000
/- Plain mathematics of trees of digests: where a list is cut, the tree of a list of texts. -/
namespace Go.Proofs.YtjfdllgodijibaaGreatDoor.Tr
open Sh (sha sha_size leafV nodeV leafV_size nodeV_size)
def half (n:Nat):Nat:=2 ^ Nat.log2 (n-1)
theorem half_pos (n:Nat):1<=half n:=Nat.one_le_two_pow
theorem half_lt (n:Nat) (h:2<=n):half n<n:=by
 have:=Nat.log2_self_le (n:=n-1) (by omega)
 unfold half
 omega
theorem half_two (n:Nat) (h:2<=n):n<=2*half n:=by
 have:=Nat.lt_log2_self (n:=n-1)
 unfold half
 rw[Nat.pow_succ]at this
 omega
theorem half_of (n i:Nat) (h1:2 ^ i<n) (h2:n<=2*2 ^ i):half n=2 ^ i:=by
 unfold half
 congr 1
 refine(Nat.log2_eq_iff (by omega)).2 ⟨by omega,?_⟩
 rw[Nat.pow_succ]
 omega
def tree (l:List ByteArray):ByteArray :=
 if h0:l.length=0 then sha ⟨#[]⟩
 else if h1:l.length=1 then leafV (l[0]'(by omega))
 else nodeV (tree (l.take (half l.length))) (tree (l.drop (half l.length)))
termination_by l.length
decreasing_by
 ·have:=half_lt l.length (by omega)
  simp
  omega
 ·have:=half_pos l.length
  simp
  omega
theorem tree_nil (l:List ByteArray) (h:l.length=0):tree l=sha ⟨#[]⟩:=by rw[tree,dif_pos h]
theorem tree_one (l:List ByteArray) (h:l.length=1):tree l=leafV (l[0]'(by omega)):=by rw[tree,dif_neg (by omega),dif_pos h]
theorem tree_two (l:List ByteArray) (h:2<=l.length):tree l=nodeV (tree (l.take (half l.length))) (tree (l.drop (half l.length))):=by
 rw[tree,dif_neg (by omega),dif_neg (by omega)]
theorem tree_size (l:List ByteArray):(tree l).size=32:=by
 rw[tree]
 split
 ·exact sha_size _
 ·split
  ·exact leafV_size _
  ·exact nodeV_size _ _
def right (l:List ByteArray):Bool:=decide (l.length<=64) && l.all (fun s=>decide (s.size<=100))
theorem right_yes (l:List ByteArray):right l=true↔l.length<=64/\∀ j (h:j<l.length),l[j].size<=100:=by
 unfold right
 simp only[Bool.and_eq_true,decide_eq_true_eq,List.all_eq_true]
 constructor
 ·rintro⟨h1,h2⟩
  exact⟨h1,fun j hj=>h2 _ (List.getElem_mem hj)⟩
 ·rintro⟨h1,h2⟩
  refine⟨h1,fun s hs=>?_⟩
  obtain⟨j,hj,rfl⟩:=List.getElem_of_mem hs
  exact h2 j hj
theorem right_long (l:List ByteArray) (h:64<l.length):right l=false:=by
 cases e:right l with
 |false=>rfl
 |true=>have:=((right_yes l).1 e).1;omega
theorem right_bad (l:List ByteArray) (j:Nat) (hj:j<l.length) (h:100<l[j].size):right l=false:=by
 cases e:right l with
 |false=>rfl
 |true=>have:=((right_yes l).1 e).2 j hj;omega
def treeR (l:List ByteArray):ByteArray:=if right l=true then tree l else ⟨#[]⟩
end Go.Proofs.YtjfdllgodijibaaGreatDoor.Tr


/- Plain mathematics of inclusion: climbing from a leaf down from the root's step, and up from the leaf's own, come to the same. -/
namespace Go.Proofs.YtjfdllgodijibaaGreatDoor.Tr
open Sh (nodeV)
def climbR:Nat->Nat->Nat->List ByteArray->ByteArray->Option ByteArray
 |0,_,_,_,_=>none
 |f+1,n,i,p,h =>
  if n<=1 then (if p=[] then some h else none)
  else match p.getLast? with
   |none=>none
   |some s=>if i<half n then (climbR f (half n) i p.dropLast h).map (fun x=>nodeV x s) else (climbR f (n-half n) (i-half n) p.dropLast h).map (fun x=>nodeV s x)
def od (a:Nat):Nat:=if _h:a%2=0/\0<a then od (a/2) else a
termination_by a
decreasing_by omega
theorem od_even (a:Nat) (h:a%2=0) (h0:0<a):od a=od (a/2):=by rw[od,dif_pos ⟨h,h0⟩]
theorem od_odd (a:Nat) (h:¬(a%2=0/\0<a)):od a=a:=by rw[od,dif_neg h]
def climbS:Nat->Nat->List ByteArray->ByteArray->Option ByteArray
 |_,last,[],h=>if last=0 then some h else none
 |a,last,p :: ps,h =>
  if last=0 then none
  else if a%2=1 then climbS (a/2) (last/2) ps (nodeV p h)
  else if a=last then climbS (od a/2) (od a/2) ps (nodeV p h)
  else climbS (a/2) (last/2) ps (nodeV h p)
theorem climbS_zero (a:Nat) (p:List ByteArray) (h:ByteArray) (hp:p≠[]):climbS a 0 p h=none:=by
 cases p with
 |nil=>exact absurd rfl hp
 |cons x xs=>rw[climbS,if_pos rfl]
theorem climbS_odd (a last:Nat) (x:ByteArray) (xs:List ByteArray) (h:ByteArray) (h0:last≠0) (h1:a%2=1):climbS a last (x :: xs) h=climbS (a/2) (last/2) xs (nodeV x h):=by
 rw[climbS,if_neg h0,if_pos h1]
theorem climbS_end (a:Nat) (x:ByteArray) (xs:List ByteArray) (h:ByteArray) (h0:a≠0) (h1:a%2=0):climbS a a (x :: xs) h=climbS (od a/2) (od a/2) xs (nodeV x h):=by
 rw[climbS,if_neg h0,if_neg (by omega),if_pos rfl]
theorem climbS_even (a last:Nat) (x:ByteArray) (xs:List ByteArray) (h:ByteArray) (h0:last≠0) (h1:a%2=0) (h2:a≠last):climbS a last (x :: xs) h=climbS (a/2) (last/2) xs (nodeV h x):=by
 rw[climbS,if_neg h0,if_neg (by omega),if_neg h2]
theorem climbS_nil (a last:Nat) (h:ByteArray):climbS a last [] h=if last=0 then some h else none:=by rw[climbS]
theorem pow_half (t:Nat) (h:0<t):2 ^ t/2=2 ^ (t-1)/\2 ^ t=2*2 ^ (t-1):=by
 obtain⟨s,rfl⟩:∃ s,t=s+1:=⟨t-1,by omega⟩
 rw[Nat.pow_succ]
 simp
 omega
theorem pow_pos2 (t:Nat):1<=2 ^ t:=Nat.one_le_two_pow
theorem climb_left:∀ (p:List ByteArray) (t a last:Nat) (s h:ByteArray),a<2 ^ t->2 ^ t<=last->last<2 ^ (t+1) ->
  climbS a last (p++[s]) h=(climbS a (2 ^ t-1) p h).map (fun x=>nodeV x s)
 |[],t,a,last,s,h,h1,h2,h3=>by
  have hp:=pow_pos2 t
  rw[List.nil_append,climbS_nil]
  rcases Nat.eq_zero_or_pos t with h0|h0
  ·subst h0
   rw[climbS_even a last s [] h (by omega) (by omega) (by omega),climbS_nil,if_pos (by omega),if_pos (by omega)]
   rfl
  ·obtain⟨e1,e2⟩:=pow_half t h0
   have hq:=pow_pos2 (t-1)
   rw[if_neg (by omega)]
   by_cases ha:a%2=1
   ·rw[climbS_odd a last s [] h (by omega) ha,climbS_nil,if_neg (by omega)]
    rfl
   ·rw[climbS_even a last s [] h (by omega) (by omega) (by omega),climbS_nil,if_neg (by omega)]
    rfl
 |x :: xs,t,a,last,s,h,h1,h2,h3=>by
  have hp:=pow_pos2 t
  rw[List.cons_append]
  rcases Nat.eq_zero_or_pos t with h0|h0
  ·subst h0
   rw[climbS_even a last x (xs++[s]) h (by omega) (by omega) (by omega)]
   rw[show last/2=0 by omega,climbS_zero _ _ _ (by simp)]
   rw[show 2 ^ 0-1=0 by omega,climbS_zero _ _ _ (by simp)]
   rfl
  ·obtain⟨e1,e2⟩:=pow_half t h0
   have hq:=pow_pos2 (t-1)
   have e3:(2 ^ t-1)/2=2 ^ (t-1)-1:=by omega
   have e4:2 ^ (t+1)=2*2 ^ t:=by rw[Nat.pow_succ];omega
   have e5:2 ^ (t-1+1)=2 ^ t:=by rw[show t-1+1=t by omega]
   by_cases ha:a%2=1
   ·rw[climbS_odd a last x _ h (by omega) ha,climbS_odd a (2 ^ t-1) x _ h (by omega) ha,e3]
    exact climb_left xs (t-1) (a/2) (last/2) s (nodeV x h) (by omega) (by omega) (by omega)
   ·rw[climbS_even a last x _ h (by omega) (by omega) (by omega),climbS_even a (2 ^ t-1) x _ h (by omega) (by omega) (by omega),e3]
    exact climb_left xs (t-1) (a/2) (last/2) s (nodeV h x) (by omega) (by omega) (by omega)
theorem od_pow:∀ t:Nat,od (2 ^ t)=1
 |0=>by rw[od_odd _ (by decide)]
 |t+1=>by
  have hp:=pow_pos2 t
  rw[Nat.pow_succ,od_even _ (by omega) (by omega),show 2 ^ t*2/2=2 ^ t by omega]
  exact od_pow t
theorem od_top:∀ (t r:Nat),0<r->r<2 ^ t->∃ u,1<=u/\u<=t/\od (2 ^ t+r)=2 ^ u+od r/\od r<2 ^ u/\0<od r
 |0,r,h0,h1=>by simp at h1;omega
 |t+1,r,h0,h1=>by
  have hp:=pow_pos2 t
  have e:2 ^ (t+1)=2*2 ^ t:=by rw[Nat.pow_succ];omega
  by_cases hr:r%2=0
  ·obtain⟨u,u1,u2,u3,u4,u5⟩:=od_top t (r/2) (by omega) (by omega)
   refine⟨u,u1,by omega,?_,?_,?_⟩
   ·rw[od_even (2 ^ (t+1)+r) (by omega) (by omega),od_even r hr h0,show (2 ^ (t+1)+r)/2=2 ^ t+r/2 by omega]
    exact u3
   ·rw[od_even r hr h0];exact u4
   ·rw[od_even r hr h0];exact u5
  ·refine⟨t+1,by omega,Nat.le_refl _,?_,?_,?_⟩
   ·rw[od_odd (2 ^ (t+1)+r) (by omega),od_odd r (by omega)]
   ·rw[od_odd r (by omega)];exact h1
   ·rw[od_odd r (by omega)];exact h0
theorem climb_right:∀ (p:List ByteArray) (t a last:Nat) (s h:ByteArray),2 ^ t<=a->a<=last->last<2 ^ (t+1) ->
  climbS a last (p++[s]) h=(climbS (a-2 ^ t) (last-2 ^ t) p h).map (fun x=>nodeV s x)
 |[],t,a,last,s,h,h1,h2,h3=>by
  have hp:=pow_pos2 t
  have e4:2 ^ (t+1)=2*2 ^ t:=by rw[Nat.pow_succ];omega
  rw[List.nil_append,climbS_nil (a-2 ^ t)]
  by_cases hl:last=2 ^ t
  ·obtain rfl:a=last:=by omega
   rw[if_pos (by omega)]
   by_cases ha:a%2=1
   ·rw[climbS_odd a a s [] h (by omega) ha,climbS_nil,if_pos (by
     rcases Nat.eq_zero_or_pos t with h0|h0
     ·subst h0;omega
     ·obtain⟨e1,e2⟩:=pow_half t h0;omega)]
    rfl
   ·rw[climbS_end a s [] h (by omega) (by omega),climbS_nil,hl,od_pow,if_pos (by decide)]
    rfl
  ·rw[if_neg (by omega)]
   have h0:0<t:=by
    rcases Nat.eq_zero_or_pos t with h0|h0
    ·subst h0;omega
    ·exact h0
   obtain⟨e1,e2⟩:=pow_half t h0
   have hq:=pow_pos2 (t-1)
   by_cases ha:a%2=1
   ·rw[climbS_odd a last s [] h (by omega) ha,climbS_nil,if_neg (by omega)]
    rfl
   ·by_cases hal:a=last
    ·subst hal
     obtain⟨u,u1,u2,u3,u4,u5⟩:=od_top t (a-2 ^ t) (by omega) (by omega)
     rw[show 2 ^ t+(a-2 ^ t)=a by omega]at u3
     obtain⟨f1,f2⟩:=pow_half u u1
     have hq':=pow_pos2 (u-1)
     rw[climbS_end a s [] h (by omega) (by omega),climbS_nil,if_neg (by omega)]
     rfl
    ·rw[climbS_even a last s [] h (by omega) (by omega) hal,climbS_nil,if_neg (by omega)]
     rfl
 |x :: xs,t,a,last,s,h,h1,h2,h3=>by
  have hp:=pow_pos2 t
  have e4:2 ^ (t+1)=2*2 ^ t:=by rw[Nat.pow_succ];omega
  rw[List.cons_append]
  by_cases hl:last=2 ^ t
  ·obtain rfl:a=last:=by omega
   rw[show a-2 ^ t=0 by omega,climbS_zero _ _ _ (by simp)]
   by_cases ha:a%2=1
   ·rw[climbS_odd a a x _ h (by omega) ha,show a/2=0 by
     rcases Nat.eq_zero_or_pos t with h0|h0
     ·subst h0;omega
     ·obtain⟨e1,e2⟩:=pow_half t h0;omega,climbS_zero _ _ _ (by simp)]
    rfl
   ·rw[climbS_end a x _ h (by omega) (by omega),hl,od_pow,show 1/2=0 from rfl,climbS_zero _ _ _ (by simp)]
    rfl
  ·have h0:0<t:=by
    rcases Nat.eq_zero_or_pos t with h0|h0
    ·subst h0;omega
    ·exact h0
   obtain⟨e1,e2⟩:=pow_half t h0
   have hq:=pow_pos2 (t-1)
   have e5:2 ^ (t-1+1)=2 ^ t:=by rw[show t-1+1=t by omega]
   have e6:(a-2 ^ t)/2=a/2-2 ^ (t-1):=by omega
   have e7:(last-2 ^ t)/2=last/2-2 ^ (t-1):=by omega
   by_cases ha:a%2=1
   ·rw[climbS_odd a last x _ h (by omega) ha,climbS_odd (a-2 ^ t) (last-2 ^ t) x _ h (by omega) (by omega),e6,e7]
    exact climb_right xs (t-1) (a/2) (last/2) s (nodeV x h) (by omega) (by omega) (by omega)
   ·by_cases hal:a=last
    ·subst hal
     obtain⟨u,u1,u2,u3,u4,u5⟩:=od_top t (a-2 ^ t) (by omega) (by omega)
     rw[show 2 ^ t+(a-2 ^ t)=a by omega]at u3
     obtain⟨f1,f2⟩:=pow_half u u1
     have f5:2 ^ (u-1+1)=2 ^ u:=by rw[show u-1+1=u by omega]
     rw[climbS_end a x _ h (by omega) (by omega),climbS_end (a-2 ^ t) x _ h (by omega) (by omega)]
     rw[show od (a-2 ^ t)/2=od a/2-2 ^ (u-1) by omega]
     exact climb_right xs (u-1) (od a/2) (od a/2) s (nodeV x h) (by omega) (by omega) (by omega)
    ·rw[climbS_even a last x _ h (by omega) (by omega) hal,climbS_even (a-2 ^ t) (last-2 ^ t) x _ h (by omega) (by omega) (by omega),e6,e7]
     exact climb_right xs (t-1) (a/2) (last/2) s (nodeV h x) (by omega) (by omega) (by omega)
end Go.Proofs.YtjfdllgodijibaaGreatDoor.Tr


/- Climbing in a tree, whatever is carried along: down from the root's step, and up from the leaf's own, come to the same. -/
namespace Go.Proofs.YtjfdllgodijibaaGreatDoor.Tr
def gR {α:Type} (FL:ByteArray->α->α) (FR:α->ByteArray->α):Nat->Nat->Nat->List ByteArray->α->Option α
 |0,_,_,_,_=>none
 |f+1,n,i,p,h =>
  if n<=1 then (if p=[] then some h else none)
  else match p.getLast? with
   |none=>none
   |some s=>if i<half n then (gR FL FR f (half n) i p.dropLast h).map (fun x=>FR x s) else (gR FL FR f (n-half n) (i-half n) p.dropLast h).map (fun x=>FL s x)
def gS {α:Type} (FL:ByteArray->α->α) (FR:α->ByteArray->α):Nat->Nat->List ByteArray->α->Option α
 |_,last,[],h=>if last=0 then some h else none
 |a,last,p :: ps,h =>
  if last=0 then none
  else if a%2=1 then gS FL FR (a/2) (last/2) ps (FL p h)
  else if a=last then gS FL FR (od a/2) (od a/2) ps (FL p h)
  else gS FL FR (a/2) (last/2) ps (FR h p)
theorem gS_zero {α:Type} (FL:ByteArray->α->α) (FR:α->ByteArray->α) (a:Nat) (p:List ByteArray) (h:α) (hp:p≠[]):gS FL FR a 0 p h=none:=by
 cases p with
 |nil=>exact absurd rfl hp
 |cons x xs=>rw[gS,if_pos rfl]
theorem gS_odd {α:Type} (FL:ByteArray->α->α) (FR:α->ByteArray->α) (a last:Nat) (x:ByteArray) (xs:List ByteArray) (h:α) (h0:last≠0) (h1:a%2=1):gS FL FR a last (x :: xs) h=gS FL FR (a/2) (last/2) xs (FL x h):=by
 rw[gS,if_neg h0,if_pos h1]
theorem gS_end {α:Type} (FL:ByteArray->α->α) (FR:α->ByteArray->α) (a:Nat) (x:ByteArray) (xs:List ByteArray) (h:α) (h0:a≠0) (h1:a%2=0):gS FL FR a a (x :: xs) h=gS FL FR (od a/2) (od a/2) xs (FL x h):=by
 rw[gS,if_neg h0,if_neg (by omega),if_pos rfl]
theorem gS_even {α:Type} (FL:ByteArray->α->α) (FR:α->ByteArray->α) (a last:Nat) (x:ByteArray) (xs:List ByteArray) (h:α) (h0:last≠0) (h1:a%2=0) (h2:a≠last):gS FL FR a last (x :: xs) h=gS FL FR (a/2) (last/2) xs (FR h x):=by
 rw[gS,if_neg h0,if_neg (by omega),if_neg h2]
theorem gS_nil {α:Type} (FL:ByteArray->α->α) (FR:α->ByteArray->α) (a last:Nat) (h:α):gS FL FR a last [] h=if last=0 then some h else none:=by rw[gS]
theorem g_left {α:Type} (FL:ByteArray->α->α) (FR:α->ByteArray->α):∀ (p:List ByteArray) (t a last:Nat) (s:ByteArray) (h:α),a<2 ^ t->2 ^ t<=last->last<2 ^ (t+1) ->
  gS FL FR a last (p++[s]) h=(gS FL FR a (2 ^ t-1) p h).map (fun x=>FR x s)
 |[],t,a,last,s,h,h1,h2,h3=>by
  have hp:=pow_pos2 t
  rw[List.nil_append,gS_nil FL FR]
  rcases Nat.eq_zero_or_pos t with h0|h0
  ·subst h0
   rw[gS_even FL FR a last s [] h (by omega) (by omega) (by omega),gS_nil FL FR,if_pos (by omega),if_pos (by omega)]
   rfl
  ·obtain⟨e1,e2⟩:=pow_half t h0
   have hq:=pow_pos2 (t-1)
   rw[if_neg (by omega)]
   by_cases ha:a%2=1
   ·rw[gS_odd FL FR a last s [] h (by omega) ha,gS_nil FL FR,if_neg (by omega)]
    rfl
   ·rw[gS_even FL FR a last s [] h (by omega) (by omega) (by omega),gS_nil FL FR,if_neg (by omega)]
    rfl
 |x :: xs,t,a,last,s,h,h1,h2,h3=>by
  have hp:=pow_pos2 t
  rw[List.cons_append]
  rcases Nat.eq_zero_or_pos t with h0|h0
  ·subst h0
   rw[gS_even FL FR a last x (xs++[s]) h (by omega) (by omega) (by omega)]
   rw[show last/2=0 by omega,gS_zero FL FR _ _ _ (by simp)]
   rw[show 2 ^ 0-1=0 by omega,gS_zero FL FR _ _ _ (by simp)]
   rfl
  ·obtain⟨e1,e2⟩:=pow_half t h0
   have hq:=pow_pos2 (t-1)
   have e3:(2 ^ t-1)/2=2 ^ (t-1)-1:=by omega
   have e4:2 ^ (t+1)=2*2 ^ t:=by rw[Nat.pow_succ];omega
   have e5:2 ^ (t-1+1)=2 ^ t:=by rw[show t-1+1=t by omega]
   by_cases ha:a%2=1
   ·rw[gS_odd FL FR a last x _ h (by omega) ha,gS_odd FL FR a (2 ^ t-1) x _ h (by omega) ha,e3]
    exact g_left FL FR xs (t-1) (a/2) (last/2) s (FL x h) (by omega) (by omega) (by omega)
   ·rw[gS_even FL FR a last x _ h (by omega) (by omega) (by omega),gS_even FL FR a (2 ^ t-1) x _ h (by omega) (by omega) (by omega),e3]
    exact g_left FL FR xs (t-1) (a/2) (last/2) s (FR h x) (by omega) (by omega) (by omega)
theorem g_right {α:Type} (FL:ByteArray->α->α) (FR:α->ByteArray->α):∀ (p:List ByteArray) (t a last:Nat) (s:ByteArray) (h:α),2 ^ t<=a->a<=last->last<2 ^ (t+1) ->
  gS FL FR a last (p++[s]) h=(gS FL FR (a-2 ^ t) (last-2 ^ t) p h).map (fun x=>FL s x)
 |[],t,a,last,s,h,h1,h2,h3=>by
  have hp:=pow_pos2 t
  have e4:2 ^ (t+1)=2*2 ^ t:=by rw[Nat.pow_succ];omega
  rw[List.nil_append,gS_nil FL FR (a-2 ^ t)]
  by_cases hl:last=2 ^ t
  ·obtain rfl:a=last:=by omega
   rw[if_pos (by omega)]
   by_cases ha:a%2=1
   ·rw[gS_odd FL FR a a s [] h (by omega) ha,gS_nil FL FR,if_pos (by
     rcases Nat.eq_zero_or_pos t with h0|h0
     ·subst h0;omega
     ·obtain⟨e1,e2⟩:=pow_half t h0;omega)]
    rfl
   ·rw[gS_end FL FR a s [] h (by omega) (by omega),gS_nil FL FR,hl,od_pow,if_pos (by decide)]
    rfl
  ·rw[if_neg (by omega)]
   have h0:0<t:=by
    rcases Nat.eq_zero_or_pos t with h0|h0
    ·subst h0;omega
    ·exact h0
   obtain⟨e1,e2⟩:=pow_half t h0
   have hq:=pow_pos2 (t-1)
   by_cases ha:a%2=1
   ·rw[gS_odd FL FR a last s [] h (by omega) ha,gS_nil FL FR,if_neg (by omega)]
    rfl
   ·by_cases hal:a=last
    ·subst hal
     obtain⟨u,u1,u2,u3,u4,u5⟩:=od_top t (a-2 ^ t) (by omega) (by omega)
     rw[show 2 ^ t+(a-2 ^ t)=a by omega]at u3
     obtain⟨f1,f2⟩:=pow_half u u1
     have hq':=pow_pos2 (u-1)
     rw[gS_end FL FR a s [] h (by omega) (by omega),gS_nil FL FR,if_neg (by omega)]
     rfl
    ·rw[gS_even FL FR a last s [] h (by omega) (by omega) hal,gS_nil FL FR,if_neg (by omega)]
     rfl
 |x :: xs,t,a,last,s,h,h1,h2,h3=>by
  have hp:=pow_pos2 t
  have e4:2 ^ (t+1)=2*2 ^ t:=by rw[Nat.pow_succ];omega
  rw[List.cons_append]
  by_cases hl:last=2 ^ t
  ·obtain rfl:a=last:=by omega
   rw[show a-2 ^ t=0 by omega,gS_zero FL FR _ _ _ (by simp)]
   by_cases ha:a%2=1
   ·rw[gS_odd FL FR a a x _ h (by omega) ha,show a/2=0 by
     rcases Nat.eq_zero_or_pos t with h0|h0
     ·subst h0;omega
     ·obtain⟨e1,e2⟩:=pow_half t h0;omega,gS_zero FL FR _ _ _ (by simp)]
    rfl
   ·rw[gS_end FL FR a x _ h (by omega) (by omega),hl,od_pow,show 1/2=0 from rfl,gS_zero FL FR _ _ _ (by simp)]
    rfl
  ·have h0:0<t:=by
    rcases Nat.eq_zero_or_pos t with h0|h0
    ·subst h0;omega
    ·exact h0
   obtain⟨e1,e2⟩:=pow_half t h0
   have hq:=pow_pos2 (t-1)
   have e5:2 ^ (t-1+1)=2 ^ t:=by rw[show t-1+1=t by omega]
   have e6:(a-2 ^ t)/2=a/2-2 ^ (t-1):=by omega
   have e7:(last-2 ^ t)/2=last/2-2 ^ (t-1):=by omega
   by_cases ha:a%2=1
   ·rw[gS_odd FL FR a last x _ h (by omega) ha,gS_odd FL FR (a-2 ^ t) (last-2 ^ t) x _ h (by omega) (by omega),e6,e7]
    exact g_right FL FR xs (t-1) (a/2) (last/2) s (FL x h) (by omega) (by omega) (by omega)
   ·by_cases hal:a=last
    ·subst hal
     obtain⟨u,u1,u2,u3,u4,u5⟩:=od_top t (a-2 ^ t) (by omega) (by omega)
     rw[show 2 ^ t+(a-2 ^ t)=a by omega]at u3
     obtain⟨f1,f2⟩:=pow_half u u1
     have f5:2 ^ (u-1+1)=2 ^ u:=by rw[show u-1+1=u by omega]
     rw[gS_end FL FR a x _ h (by omega) (by omega),gS_end FL FR (a-2 ^ t) x _ h (by omega) (by omega)]
     rw[show od (a-2 ^ t)/2=od a/2-2 ^ (u-1) by omega]
     exact g_right FL FR xs (u-1) (od a/2) (od a/2) s (FL x h) (by omega) (by omega) (by omega)
    ·rw[gS_even FL FR a last x _ h (by omega) (by omega) hal,gS_even FL FR (a-2 ^ t) (last-2 ^ t) x _ h (by omega) (by omega) (by omega),e6,e7]
     exact g_right FL FR xs (t-1) (a/2) (last/2) s (FR h x) (by omega) (by omega) (by omega)
theorem g_same {α:Type} (FL:ByteArray->α->α) (FR:α->ByteArray->α):∀ (f n i:Nat) (p:List ByteArray) (h:α),n<=f->i<n->gR FL FR f n i p h=gS FL FR i (n-1) p h
 |0,n,i,p,h,h1,h2=>by omega
 |f+1,n,i,p,h,h1,h2=>by
  rw[gR]
  by_cases hn:n<=1
  ·rw[if_pos hn,show n-1=0 by omega]
   cases p with
   |nil=>rw[if_pos rfl,gS_nil FL FR,if_pos rfl]
   |cons x xs=>rw[if_neg (by simp),gS_zero FL FR _ _ _ (by simp)]
  ·rw[if_neg hn]
   cases hp:p.getLast? with
   |none =>
    have:p=[]:=List.getLast?_eq_none_iff.1 hp
    subst this
    rw[gS_nil FL FR,if_neg (by omega)]
   |some s =>
    have hps:p.dropLast++[s]=p:=by
     obtain⟨q,rfl⟩:=List.getLast?_eq_some_iff.1 hp
     simp
    have k1:=half_pos n
    have k2:=half_lt n (by omega)
    have k3:=half_two n (by omega)
    have hk:half n=2 ^ Nat.log2 (n-1):=rfl
    have e4:2 ^ (Nat.log2 (n-1)+1)=2*half n:=by rw[Nat.pow_succ,hk];omega
    simp only[]
    by_cases hi:i<half n
    ·rw[if_pos hi,g_same FL FR f (half n) i p.dropLast h (by omega) hi]
     have:=g_left FL FR p.dropLast (Nat.log2 (n-1)) i (n-1) s h (by rw[<-hk];exact hi) (by rw[<-hk];omega) (by rw[e4];omega)
     rw[hps,<-hk]at this
     exact this.symm
    ·rw[if_neg hi,g_same FL FR f (n-half n) (i-half n) p.dropLast h (by omega) (by omega)]
     have:=g_right FL FR p.dropLast (Nat.log2 (n-1)) i (n-1) s h (by rw[<-hk];omega) (by omega) (by rw[e4];omega)
     rw[hps,<-hk,show n-1-half n=n-half n-1 by omega]at this
     exact this.symm
end Go.Proofs.YtjfdllgodijibaaGreatDoor.Tr


/- The way from a piece to the root: plain mathematics. -/
namespace Go.Proofs.YtjfdllgodijibaaGreatDoor.Tr
open Sh (nodeV leafV)
inductive Stp where
 |leaf (t:ByteArray)
 |node (l r:ByteArray)
def Stp.text:Stp->ByteArray
 |.leaf t=>⟨#[0]⟩++t
 |.node l r=>⟨#[1]⟩++l++r
def Stp.dig:Stp->ByteArray
 |.leaf t=>leafV t
 |.node l r=>nodeV l r
theorem Stp.sha (s:Stp):s.dig=Sh.sha s.text:=by cases s<;>rfl
abbrev WS:=ByteArray × List Stp
def wL (s:ByteArray) (x:WS):WS:=(nodeV s x.1,x.2++[.node s x.1])
def wR (x:WS) (s:ByteArray):WS:=(nodeV x.1 s,x.2++[.node x.1 s])
def w0 (t:ByteArray):WS:=(leafV t,[.leaf t])
def Top (x:WS):Prop:=∃ q s,x.2=q++[s]/\s.dig=x.1
theorem top_w0 (t:ByteArray):Top (w0 t):=⟨[],.leaf t,rfl,rfl⟩
theorem top_wL (s:ByteArray) (x:WS):Top (wL s x):=⟨x.2,.node s x.1,rfl,rfl⟩
theorem top_wR (s:ByteArray) (x:WS):Top (wR x s):=⟨x.2,.node x.1 s,rfl,rfl⟩
def wayR (n i:Nat) (p:List ByteArray) (t:ByteArray):Option WS:=gR wL wR n n i p (w0 t)
theorem way_same (n i:Nat) (p:List ByteArray) (t:ByteArray) (h:i<n):wayR n i p t=gS wL wR i (n-1) p (w0 t):=g_same wL wR n n i p (w0 t) (Nat.le_refl _) h
theorem gS_fst:∀ (p:List ByteArray) (a last:Nat) (x:WS),(gS wL wR a last p x).map Prod.fst=climbS a last p x.1
 |[],a,last,x=>by
  rw[gS_nil,climbS_nil]
  split<;>rfl
 |s :: p,a,last,x=>by
  by_cases h0:last=0
  ·subst h0
   rw[gS_zero _ _ _ _ _ (by simp),climbS_zero _ _ _ (by simp)]
   rfl
  ·by_cases h1:a%2=1
   ·rw[gS_odd _ _ _ _ _ _ _ h0 h1,climbS_odd _ _ _ _ _ h0 h1,gS_fst p]
    rfl
   ·by_cases h2:a=last
    ·subst h2
     rw[gS_end _ _ _ _ _ _ h0 (by omega),climbS_end _ _ _ _ h0 (by omega),gS_fst p]
     rfl
    ·rw[gS_even _ _ _ _ _ _ _ h0 (by omega) h2,climbS_even _ _ _ _ _ h0 (by omega) h2,gS_fst p]
     rfl
theorem od_le (a:Nat):od a<=a:=by
 induction a using Nat.strongRecOn with
 |ind a ih =>
  by_cases h:a%2=0/\0<a
  ·rw[od_even a h.1 h.2]
   have:=ih (a/2) (by omega)
   omega
  ·rw[od_odd a h]
   exact Nat.le_refl _
theorem gS_len {α:Type} (FL:ByteArray->α->α) (FR:α->ByteArray->α):∀ (p:List ByteArray) (a last:Nat) (x y:α),gS FL FR a last p x=some y->p.length<=last
 |[],_,_,_,_,_=>Nat.zero_le _
 |s :: p,a,last,x,y,h=>by
  by_cases h0:last=0
  ·subst h0
   rw[gS_zero _ _ _ _ _ (by simp)]at h
   cases h
  ·rw[List.length_cons]
   by_cases h1:a%2=1
   ·rw[gS_odd _ _ _ _ _ _ _ h0 h1]at h
    have:=gS_len FL FR p _ _ _ _ h
    omega
   ·by_cases h2:a=last
    ·subst h2
     rw[gS_end _ _ _ _ _ _ h0 (by omega)]at h
     have:=gS_len FL FR p _ _ _ _ h
     have:=od_le a
     omega
    ·rw[gS_even _ _ _ _ _ _ _ h0 (by omega) h2]at h
     have:=gS_len FL FR p _ _ _ _ h
     omega
theorem gR_one {α:Type} (FL:ByteArray->α->α) (FR:α->ByteArray->α) (f i:Nat) (p:List ByteArray) (x:α):gR FL FR (f+1) 1 i p x=if p=[] then some x else none:=by
 rw[gR,if_pos (Nat.le_refl _)]
theorem gR_left {α:Type} (FL:ByteArray->α->α) (FR:α->ByteArray->α) (f n i:Nat) (p:List ByteArray) (s:ByteArray) (x:α) (hn:1<n) (hi:i<half n):gR FL FR (f+1) n i (p++[s]) x=(gR FL FR f (half n) i p x).map (fun y=>FR y s):=by
 rw[gR,if_neg (by omega)]
 simp[hi]
theorem gR_right {α:Type} (FL:ByteArray->α->α) (FR:α->ByteArray->α) (f n i:Nat) (p:List ByteArray) (s:ByteArray) (x:α) (hn:1<n) (hi:¬i<half n):gR FL FR (f+1) n i (p++[s]) x=(gR FL FR f (n-half n) (i-half n) p x).map (fun y=>FL s y):=by
 rw[gR,if_neg (by omega)]
 simp[hi]
theorem gR_none {α:Type} (FL:ByteArray->α->α) (FR:α->ByteArray->α) (f n i:Nat) (x:α) (hn:1<n):gR FL FR (f+1) n i [] x=none:=by
 rw[gR,if_neg (by omega)]
 rfl
end Go.Proofs.YtjfdllgodijibaaGreatDoor.Tr


namespace Go.Proofs.YtjfdllgodijibaaGreatDoor.Tr
open Go.RowKit
open St (hideT)
theorem ret_int {a b:Int} (h:a=b):Ending.returned (.int .i64 a)=.returned (.int .i64 b):=by rw[h]
theorem half_spec (n:Nat) (w:World) (h2:2<=n) (hn:n<=1048576) :
  Calls Tryz.prog 66 #[.int .i64 n] w fun e w'=>e=.returned (.int .i64 (half n))/\w'=w:=by
 go_enter Tryz.func66,Tryz.ntmps66
 go_wp2_with fail
 go_loopw [3] (fun v wr=>∃ k i:Nat,v=.int .i64 k/\k=2 ^ i/\k<n/\wr=w) (fun v _=>n-(intOf v).toNat)
 case atStart=>exact⟨1,0,rfl,rfl,by omega,rfl⟩
 case round =>
  obtain⟨k,i,rfl,hki,hk,hw⟩:=hrel
  subst hw
  have HK:=hideT hki
  have hpos:1<=k:=by rw[hki];exact Nat.one_le_two_pow
  clear hki
  by_cases hlt:2*k<n
  ·have g1:2*(k:Int)<n:=by omega
   go_wp2_with fail
   go_roundw
   case rel=>exact⟨2*k,i+1,by go_num,by rw[Nat.pow_succ,<-HK.out];omega,by omega,trivial⟩
   case measure=>simp[intOf];omega
  ·have g1:¬2*(k:Int)<n:=by omega
   have HE:Hid (half n=k):=by
    unfold Hid
    rw[HK.out]
    exact half_of n i (by rw[<-HK.out];omega) (by rw[<-HK.out];omega)
   go_wp2_with fail
   go_ret
   exact⟨ret_int (by rw[HE.out]),rfl⟩
def len (x:Nat):Nat:=if x=0 then 0 else Nat.log2 x+1
end Go.Proofs.YtjfdllgodijibaaGreatDoor.Tr


namespace Go.Proofs.YtjfdllgodijibaaGreatDoor.Tr
open Go.RowKit
open St (hideT)
def renL:Go.Shelf.Ren:=⟨fun _=>54,fun k=>if k=53 then 58 else if k=46 then 68 else if k=3 then 3 else if k=4 then 4 else if k=5 then 5 else 9,fun k=>k⟩
theorem laysL:Lays.n129 Tryz.prog renL where
 mixed:=by kernel_rfl
 f129:=by kernel_rfl
 t3:=by kernel_rfl
 a3:=fun w=>by kernel_rfl
 z3:=fun w=>by kernel_rfl
 v3:=fun w=>by kernel_rfl
 t4:=by kernel_rfl
 a4:=fun w=>by kernel_rfl
 z4:=fun w=>by kernel_rfl
 v4:=fun w=>by kernel_rfl
 t5:=by kernel_rfl
 a5:=fun w=>by kernel_rfl
 z5:=fun w=>by kernel_rfl
 v5:=fun w=>by kernel_rfl
 t9:=by kernel_rfl
 a9:=fun w=>by kernel_rfl
 z9:=fun w=>by kernel_rfl
 v9:=fun w=>by kernel_rfl
 t46:=by kernel_rfl
 a46:=fun w=>by kernel_rfl
 z46:=fun w=>by kernel_rfl
 v46:=fun w=>by kernel_rfl
 t53:=by kernel_rfl
 a53:=fun w=>by kernel_rfl
 z53:=fun w=>by kernel_rfl
 v53:=fun w=>by kernel_rfl
theorem len64_any (x:Nat) (w:World) (h:x<18446744073709551616) :
  Calls Tryz.prog 54 #[.int .u64 x] w fun e w'=>e=.returned (.int .i64 (Lib.bitLen x))/\w'=w:=by
 have:=Any.bits_Len64 laysL x w (by omega) (by omega)
 rw[Int.toNat_natCast]at this
 exact this
theorem bitLen_log (x:Nat) (h0:x≠0) (h:x<18446744073709551616):Lib.bitLen x=Nat.log2 x+1:=by
 induction x using Nat.strongRecOn with
 |ind x ih =>
  rw[Lib.bitLen_half x h0 h]
  by_cases h1:x/2=0
  ·have:x=1:=by omega
   subst this
   rfl
  ·rw[ih (x/2) (by omega) h1 (by omega)]
   have:Nat.log2 x=Nat.log2 (x/2)+1:=by
    refine(Nat.log2_eq_iff h0).2 ⟨?_,?_⟩
    ·have:=Nat.log2_self_le h1
     rw[Nat.pow_succ]
     omega
    ·have:=Nat.lt_log2_self (n:=x/2)
     rw[Nat.pow_succ]at this ⊢
     omega
   omega
theorem half_impl (n:Nat) (w:World) (h2:2<=n) (hn:n<9223372036854775808) :
  Calls Tryz.prog 37 #[.int .i64 n] w fun e w'=>e=.returned (.int .i64 (half n))/\w'=w:=by
 have e1:IntKind.u64.wrap ((n:Int)-1)=((n-1:Nat):Int):=by
  rw[IntKind.wrap_u64]
  omega
 have HL:=hideT (bitLen_log (n-1) (by omega) (by omega))
 obtain⟨k,hk⟩:∃ k,k=Nat.log2 (n-1):=⟨_,rfl⟩
 have HH:=hideT (show half n=2 ^ k by rw[hk];rfl)
 have hk62:k<=62:=by
  rw[hk]
  have:Nat.log2 (n-1)<63:=(Nat.log2_lt (by omega)).2 (by omega)
  omega
 rw[<-hk]at HL
 clear hk
 go_enter Tryz.func37,Tryz.ntmps37
 go_wp2_with fail
 refine(len64_any (n-1) w (by omega)).mono ?_
 rw[HL.out]
 rintro e w1 ⟨rfl,hw⟩
 subst w1
 go_wp2_with fail
 go_ret
 refine⟨ret_int ?_,rfl⟩
 have h3:(2:Nat) ^ k<=2 ^ 62:=Nat.pow_le_pow_right (by decide) hk62
 rw[HH.out]
 have h4:((2:Int) ^ k)=((2 ^ k:Nat):Int):=by simp
 rw[h4]
 generalize (2:Nat) ^ k=y at h3 ⊢
 unfold wrap64
 omega
end Go.Proofs.YtjfdllgodijibaaGreatDoor.Tr


namespace Go.Proofs.YtjfdllgodijibaaGreatDoor.Tr
open Go.RowKit
open St
theorem right_spec (a:Option Addr) (cap:Nat) (l:List ByteArray) (w:World) (B:Nat) (h:Strs w B a l) (hn:l.length<=1048576) :
  Calls Tryz.prog 49 #[.slice a l.length cap] w fun e w'=>e=.returned (.bool (right l))/\w'=w:=by
 have HS:=hideT h
 clear h
 obtain⟨n,hln⟩:∃ n,n=l.length:=⟨_,rfl⟩
 have HLN:=hideT hln
 rw[<-hln]at hn ⊢
 clear hln
 go_enter Tryz.func49,Tryz.ntmps49
 go_wp2_with fail
 go_loopw [3] (fun i wr=>∃ k:Nat,i=.int .i64 k/\k<=n/\(∀ j (hj:j<l.length),j<k->l[j].size<=100)/\wr=w) (fun i _=>n-(intOf i).toNat)
 case atStart=>exact⟨0,rfl,by omega,fun j hj h0=>by omega,rfl⟩
 case round =>
  obtain⟨k,rfl,hk,hall,hw⟩:=hrel
  subst hw
  have HA:=hideT hall
  clear hall
  by_cases hlt:k<n
  ·have hkl:k<l.length:=by rw[<-HLN.out];exact hlt
   obtain⟨b,off,rfl,hb,hc⟩:=HS.out.some (by omega)
   have ci:=hc k hkl
   have HBad:=hideT (right_bad l k hkl)
   obtain⟨s,hs⟩:∃ s,s=l[k]:=⟨_,rfl⟩
   have HSE:=hideT hs
   rw[<-hs]at ci
   clear hc hs
   by_cases h100:100<s.size
   ·go_wp2_with fail
    go_ret
    exact⟨ret_bool (HBad.out (by rw[<-HSE.out];exact h100)).symm,rfl⟩
   ·go_wp2_with fail
    go_roundw
    case rel =>
     refine⟨k+1,by go_num,by omega,fun j hj h0=>?_,trivial⟩
     by_cases e:j=k
     ·subst e
      rw[<-HSE.out]
      omega
     ·exact HA.out j hj (by omega)
    case measure=>simp[intOf];omega
  ·have HR:Hid (right l=decide ((n:Int)<=64)):=by
    unfold Hid
    by_cases h64:n<=64
    ·rw[(right_yes l).2 ⟨by have:=HLN.out;omega,fun j hj=>HA.out j hj (by have:=HLN.out;omega)⟩]
     simp;omega
    ·rw[right_long l (by have:=HLN.out;omega)]
     simp;omega
   go_wp2_with fail
   go_ret
   exact⟨ret_bool HR.out.symm,rfl⟩
end Go.Proofs.YtjfdllgodijibaaGreatDoor.Tr


/- The walk of impl.treeOf: of right entries it answers their tree, and writes nothing that was there. -/
namespace Go.Proofs.YtjfdllgodijibaaGreatDoor.Tr
open Go.RowKit
open St
open Sh (Vars leafV nodeV leafR nodeR leaf_impl node_impl digest_impl digestV leafR_yes nodeR_yes below3)
end Go.Proofs.YtjfdllgodijibaaGreatDoor.Tr


namespace Go.Proofs.YtjfdllgodijibaaGreatDoor.Tr
open Go.RowKit
open St
open Sh (leafV nodeV all_any l03Leaf_any l03Node_any)
theorem tree_spec:∀ (m n:Nat) (l:List ByteArray) (a:Option Addr) (cap B:Nat) (w:World),n<=m->l.length=n->n<=cap->n<=64->(∀ j (h:j<l.length),l[j].size<=100)->Strs w B a l->B<=w.heap.size ->
  Calls Tryz.prog 67 #[.slice a n cap] w fun e w'=>e=.returned (.string (tree l))/\Below w.heap.size w w':=by
 intro m
 induction m with
 |zero =>
  intro n l a cap B w hm hln hcap h64 hr hs hB
  obtain rfl:n=0:=by omega
  have HT:=hideT (tree_nil l hln)
  clear hs hr
  go_enter Tryz.func67,Tryz.ntmps67
  go_wp2_with fail
  refine(all_any ⟨#[]⟩ _ (by decide)).mono ?_
  rintro e w1 ⟨rfl,hb1⟩
  go_wp2_with fail
  go_ret
  exact⟨Nu.ret_strJ HT.out.symm,hb1⟩
 |succ m ih =>
  intro n l a cap B w hm hln hcap h64 hr hs hB
  by_cases h0:n=0
  ·exact ih n l a cap B w (by omega) hln hcap h64 hr hs hB
  ·obtain⟨b,off,rfl,hb,hc⟩:=hs.some (by omega)
   clear hs
   by_cases h1:n=1
   ·have HT:=hideT (tree_one l (by omega))
    have ci:=hc 0 (by omega)
    rw[Nat.add_zero]at ci
    have hsz:=hr 0 (by omega)
    obtain⟨s,hse⟩:∃ s,s=l[0]'(by omega):=⟨_,rfl⟩
    rw[<-hse]at ci hsz
    have HSE:=hideT hse
    subst h1
    clear hc hse hr ih
    go_enter Tryz.func67,Tryz.ntmps67
    go_wp2_with fail
    refine(l03Leaf_any s _ (by omega)).mono ?_
    rintro e w1 ⟨rfl,hb1⟩
    go_wp2_with fail
    go_ret
    exact⟨Nu.ret_strJ (by rw[HT.out,<-HSE.out]),hb1⟩
   ·have hp:=half_pos n
    have hl:=half_lt n (by omega)
    have HT:=hideT (tree_two l (by omega))
    obtain⟨k,hk⟩:∃ k,k=half n:=⟨_,rfl⟩
    have HK:=hideT hk
    rw[<-hk]at hp hl
    clear hk
    have I1:Hid (∀ W:World,Below w.heap.size w W->Calls Tryz.prog 67 #[.slice (some ⟨b,off,none⟩) k cap] W fun e w'=>e=.returned (.string (tree (l.take k)))/\Below W.heap.size W w'):=fun W hW =>
     ih k (l.take k) (some ⟨b,off,none⟩) cap B W (by omega) (by rw[List.length_take];omega) (by omega) (by omega) (fun j hj=>by rw[List.getElem_take];exact hr j _) ((Strs.take hb hc).after hW hB) (Nat.le_trans hB hW.size)
    have I2:Hid (∀ W:World,Below w.heap.size w W->Calls Tryz.prog 67 #[.slice (some ⟨b,off+k,none⟩) (n-k) (cap-k)] W fun e w'=>e=.returned (.string (tree (l.drop k)))/\Below W.heap.size W w'):=fun W hW =>
     ih (n-k) (l.drop k) (some ⟨b,off+k,none⟩) (cap-k) B W (by omega) (by rw[List.length_drop];omega) (by omega) (by omega) (fun j hj=>by rw[List.getElem_drop];exact hr _ _) ((Strs.drop hb hc).after hW hB) (Nat.le_trans hB hW.size)
    have HLN:=hideT hln
    have s1:=tree_size (l.take k)
    have s2:=tree_size (l.drop k)
    clear hc hr ih hln
    have i0:¬(n:Int)=0:=by omega
    have i1:¬(n:Int)=1:=by omega
    have g1:(k:Int)<=cap:=by omega
    have g2:(k:Int)<=n:=by omega
    have g4:¬cap=k:=by omega
    have HH:=hideT (half_spec n w (by omega) (by omega))
    rw[<-HK.out]at HH
    go_enter Tryz.func67,Tryz.ntmps67
    go_wp2_with fail
    refine HH.out.mono ?_
    rintro e w1 ⟨rfl,hw⟩
    subst w1
    go_wp2_with fail
    go_region_with (first|(go_at_call 67;(with_reducible refine(I1.out _ ?_).mono ?_);(· exact(Below.refl _ _).drew);rintro e w2 ⟨rfl,hb2⟩;have HB2:=hideT (show Below w.heap.size w w2 from ⟨hb2.os,hb2.tape,hb2.output,hb2.size,hb2.block⟩);clear hb2)|(go_at_call 67;(with_reducible refine(I2.out w2 HB2.out).mono ?_);rintro e w3 ⟨rfl,hb3⟩;have HB3:=hideT (HB2.out.trans (hb3.mono HB2.out.size));clear hb3)|(go_at_call 79;refine(l03Node_any (tree (l.take k)) (tree (l.drop k)) w3 ?_ ?_).mono ?_;(· omega);(· omega);rintro e w4 ⟨rfl,hb4⟩;have HB4:=hideT (HB3.out.trans (hb4.mono HB3.out.size));clear hb4))
    all_goals (try go_wp2_with fail)
    all_goals go_ret
    all_goals exact⟨Nu.ret_strJ (by rw[HT.out,HLN.out,<-HK.out]),HB4.out⟩
end Go.Proofs.YtjfdllgodijibaaGreatDoor.Tr

