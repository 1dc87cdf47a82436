/- Texts put together: StrArg, TreeTop, Climb, Digs, InclWalks. -/
import Derived.Test.YtjfdllgodijibaaGreatDoorWz10
import Derived.Test.YtjfdllgodijibaaGreatDoorWz11
import Derived.Deep.RegionWith
import Derived.BigRegion
set_option maxRecDepth 100000
set_option maxHeartbeats 8000000
/- A slice of texts that came in. -/
namespace Go.Proofs.YtjfdllgodijibaaGreatDoor.St
open Go.RowKit
def IsStrs (w:World) (a:Option Addr) (len cap:Nat) (ss:List ByteArray):Prop :=
 (a=none/\len=0/\cap=0/\ss=[]) ∨
 ∃ x,a=some x/\len<=cap/\cap<=maxLen/\ss.length=cap/\(∀ i,i<ss.length->w.cell? (x.add i)=some (.string (ss.getD i ByteArray.empty)))/\∀ s∈ss,s.size<=maxLen
end Go.Proofs.YtjfdllgodijibaaGreatDoor.St


/- What both TreeHash answer, and the law on it. -/
namespace Go.Proofs.YtjfdllgodijibaaGreatDoor.Tr
open Go.RowKit
open St
open Sh (Vars)
theorem below2 {w w1 w2:World} (h1:Below w.heap.size w w1) (h2:Below w1.heap.size w1 w2):Below w.heap.size w w2:=h1.trans (h2.mono h1.size)
theorem treeR_yes (l:List ByteArray) (h:right l=true):treeR l=tree l:=if_pos h
theorem treeR_no (l:List ByteArray) (h:right l=false):treeR l=⟨#[]⟩:=if_neg (by rw[h];decide)
theorem treeHash_spec (l:List ByteArray) (n:Nat) (a:Option Addr) (cap B:Nat) (w:World) (hln:l.length=n) (hcap:n<=cap) (hn:n<=1048576) (hs:Strs w B a l) (hB:B<=w.heap.size) :
  Calls Tryz.prog 63 #[.slice a n cap] w fun e w'=>e=.returned (.string (treeR l))/\Below w.heap.size w w':=by
 have HR:=hideT (right_spec a cap l w B hs (by omega))
 rw[hln]at HR
 have HS:=hideT hs
 clear hs
 by_cases h400:400<n
 ·have HT:=hideT (treeR_no l (right_long l (by omega)))
  go_enter Tryz.func63,Tryz.ntmps63
  go_wp2_with fail
  go_ret
  exact⟨Nu.ret_strJ HT.out.symm,Below.refl _ _⟩
 ·cases hr:right l with
  |false =>
   have HT:=hideT (treeR_no l hr)
   rw[hr]at HR
   go_enter Tryz.func63,Tryz.ntmps63
   go_wp2_with fail
   refine HR.out.mono ?_
   rintro e w1 ⟨rfl,hw⟩
   subst w1
   go_wp2_with fail
   go_ret
   exact⟨Nu.ret_strJ HT.out.symm,Below.refl _ _⟩
  |true =>
   have HT:=hideT (treeR_yes l hr)
   have HY:=hideT ((right_yes l).1 hr)
   rw[hr]at HR
   go_enter Tryz.func63,Tryz.ntmps63
   go_wp2_with fail
   refine HR.out.mono ?_
   rintro e w1 ⟨rfl,hw⟩
   subst w1
   go_wp2_with fail
   refine(tree_spec n n l a cap B _ (Nat.le_refl _) hln hcap (by have:=HY.out.1;omega) HY.out.2 HS.out hB).mono ?_
   rintro e w2 ⟨rfl,hb2⟩
   go_wp2_with fail
   go_ret
   exact⟨Nu.ret_strJ HT.out.symm,hb2⟩
end Go.Proofs.YtjfdllgodijibaaGreatDoor.Tr


namespace Go.Proofs.YtjfdllgodijibaaGreatDoor.Tr
open Go.RowKit
open St
open Sh (Vars nodeV nodeV_size nodeR nodeR_yes node_impl)
def Climbs (w0:World) (f:Value) (φ:ByteArray->ByteArray):Prop :=
 ∃ k cap,f=.func (.func k) #[] cap/\(∀ args w,(callFunc k args).run Tryz.prog w=.ok (.enter k args) w)/\∀ (node:ByteArray) (w:World),node.size=32->Below w0.heap.size w0 w->Vars w ->
  Calls Tryz.prog k (#[.string node]++cap) w fun e w'=>e=.returned (.string (φ node))/\Below w.heap.size w w'
theorem Climbs.later {w w':World} {f:Value} {φ:ByteArray->ByteArray} (h:Climbs w f φ) (b:Below w.heap.size w w'):Climbs w' f φ:=by
 obtain⟨k,cap,hf,he,hc⟩:=h
 exact⟨k,cap,hf,he,fun node W hn hW hV=>hc node W hn (below2 b hW) hV⟩
theorem stay_any (w0:World):Climbs w0 (.func (.func 51) #[] #[]) (fun x=>x):=by
 refine⟨51,#[],rfl,enters_of Tryz.func51 (by kernel_rfl) rfl,fun node w hn hb hV=>?_⟩
 show Calls Tryz.prog 51 #[.string node] w _
 clear hV hb hn
 go_enter Tryz.func51,Tryz.ntmps51
 go_wp2_with fail
 go_ret
 exact⟨rfl,Below.refl _ _⟩
theorem right_call (node side:ByteArray) (k g1 g2:Nat) (cap:Array Value) (φ:ByteArray->ByteArray) (w:World) (hn:node.size=32) (hs:side.size=32) (hV:Vars w)
  (he:∀ args w,(callFunc k args).run Tryz.prog w=.ok (.enter k args) w) (c1:w.cell? ⟨g1,0,none⟩=some (.func (.func k) #[] cap)) (c2:w.cell? ⟨g2,0,none⟩=some (.string side))
  (H:∀ (x:ByteArray) (W:World),x.size=32->Below w.heap.size w W->Vars W->Calls Tryz.prog k (#[.string x]++cap) W fun e w'=>e=.returned (.string (φ x))/\Below W.heap.size W w') :
  Calls Tryz.prog 68 #[.string node,.pointer (some ⟨g1,0,none⟩),.pointer (some ⟨g2,0,none⟩)] w fun e w'=>e=.returned (.string (φ (nodeV node side)))/\Below w.heap.size w w':=by
 have HH:=hideT H
 have HV:=hideT hV
 have hv2:=hV.two
 have HN:=hideT (nodeR_yes node side hn hs)
 have HG:=hideT (World.block_lt_of_cell? w _ c1)
 have HC1:=hideT c1
 clear H hV
 go_enter Tryz.func68,Tryz.ntmps68
 go_wp2_with fail
 go_region_with (first|(go_at_call 69;(with_reducible refine(node_impl node side _ ?_).mono ?_);(· exact HV.out);rw[HN.out];rintro e w1 ⟨rfl,hb1⟩;have HB1:=hideT (show Below w.heap.size w w1 from ⟨hb1.os,hb1.tape,hb1.output,hb1.size,hb1.block⟩);have c1b:=(HB1.out.cell (p:=⟨g1,0,none⟩) HG.out).trans HC1.out;clear hb1)|((with_reducible refine(HH.out (nodeV node side) w1 ?_ HB1.out ?_).mono ?_);(· exact nodeV_size _ _);(· exact HV.out.below HB1.out hv2);rintro e w2 ⟨rfl,hb2⟩;have HB2:=hideT (below2 HB1.out hb2);clear hb2))
 all_goals (try go_wp2_with fail)
 all_goals go_ret
 all_goals exact⟨rfl,HB2.out⟩
theorem left_call (node side:ByteArray) (k g1 g2:Nat) (cap:Array Value) (φ:ByteArray->ByteArray) (w:World) (hn:node.size=32) (hs:side.size=32) (hV:Vars w)
  (he:∀ args w,(callFunc k args).run Tryz.prog w=.ok (.enter k args) w) (c1:w.cell? ⟨g1,0,none⟩=some (.func (.func k) #[] cap)) (c2:w.cell? ⟨g2,0,none⟩=some (.string side))
  (H:∀ (x:ByteArray) (W:World),x.size=32->Below w.heap.size w W->Vars W->Calls Tryz.prog k (#[.string x]++cap) W fun e w'=>e=.returned (.string (φ x))/\Below W.heap.size W w') :
  Calls Tryz.prog 70 #[.string node,.pointer (some ⟨g1,0,none⟩),.pointer (some ⟨g2,0,none⟩)] w fun e w'=>e=.returned (.string (φ (nodeV side node)))/\Below w.heap.size w w':=by
 have HH:=hideT H
 have HV:=hideT hV
 have hv2:=hV.two
 have HN:=hideT (nodeR_yes side node hs hn)
 have HG:=hideT (World.block_lt_of_cell? w _ c1)
 have HC1:=hideT c1
 clear H hV
 go_enter Tryz.func70,Tryz.ntmps70
 go_wp2_with fail
 go_region_with (first|(go_at_call 69;(with_reducible refine(node_impl side node _ ?_).mono ?_);(· exact HV.out);rw[HN.out];rintro e w1 ⟨rfl,hb1⟩;have HB1:=hideT (show Below w.heap.size w w1 from ⟨hb1.os,hb1.tape,hb1.output,hb1.size,hb1.block⟩);have c1b:=(HB1.out.cell (p:=⟨g1,0,none⟩) HG.out).trans HC1.out;clear hb1)|((with_reducible refine(HH.out (nodeV side node) w1 ?_ HB1.out ?_).mono ?_);(· exact nodeV_size _ _);(· exact HV.out.below HB1.out hv2);rintro e w2 ⟨rfl,hb2⟩;have HB2:=hideT (below2 HB1.out hb2);clear hb2))
 all_goals (try go_wp2_with fail)
 all_goals go_ret
 all_goals exact⟨rfl,HB2.out⟩
theorem joinRight_any (side:ByteArray) (f:Value) (φ:ByteArray->ByteArray) (w:World) (hs:side.size=32) (h:Climbs w f φ) :
  Calls Tryz.prog 52 #[.string side,f] w fun e w'=>∃ g,e=.returned g/\Climbs w' g (fun x=>φ (nodeV x side))/\Below w.heap.size w w':=by
 obtain⟨k,cap,rfl,he,hc⟩:=h
 have HE:=hideT he
 have HC:=hideT hc
 clear he hc
 go_enter Tryz.func52,Tryz.ntmps52
 go_wp2_with fail
 go_ret
 refine⟨_,rfl,⟨68,_,rfl,enters_of Tryz.func68 (by kernel_rfl) rfl,fun node W hn hW hV=>?_⟩,((Below.refl _ _).alloc (Nat.le_refl _) _).alloc (by simp) _⟩
 have hsz:=hW.size
 have hb:Below w.heap.size w W:=below2 (((Below.refl _ _).alloc (Nat.le_refl _) _).alloc (by simp) _) hW
 have c1:=hW.cell (p:=⟨w.heap.size+1,0,none⟩) (by simp)
 have c2:=hW.cell (p:=⟨w.heap.size,0,none⟩) (by simp;omega)
 refine right_call node side k (w.heap.size+1) w.heap.size cap φ W hn hs hV HE.out ?_ ?_ (fun x W' hx hW' hV'=>HC.out x W' hx (below2 hb hW') hV')
 ·rw[c1]
  simp
 ·rw[c2]
  simp
theorem joinLeft_any (side:ByteArray) (f:Value) (φ:ByteArray->ByteArray) (w:World) (hs:side.size=32) (h:Climbs w f φ) :
  Calls Tryz.prog 53 #[.string side,f] w fun e w'=>∃ g,e=.returned g/\Climbs w' g (fun x=>φ (nodeV side x))/\Below w.heap.size w w':=by
 obtain⟨k,cap,rfl,he,hc⟩:=h
 have HE:=hideT he
 have HC:=hideT hc
 clear he hc
 go_enter Tryz.func53,Tryz.ntmps53
 go_wp2_with fail
 go_ret
 refine⟨_,rfl,⟨70,_,rfl,enters_of Tryz.func70 (by kernel_rfl) rfl,fun node W hn hW hV=>?_⟩,((Below.refl _ _).alloc (Nat.le_refl _) _).alloc (by simp) _⟩
 have hsz:=hW.size
 have hb:Below w.heap.size w W:=below2 (((Below.refl _ _).alloc (Nat.le_refl _) _).alloc (by simp) _) hW
 have c1:=hW.cell (p:=⟨w.heap.size+1,0,none⟩) (by simp)
 have c2:=hW.cell (p:=⟨w.heap.size,0,none⟩) (by simp;omega)
 refine left_call node side k (w.heap.size+1) w.heap.size cap φ W hn hs hV HE.out ?_ ?_ (fun x W' hx hW' hV'=>HC.out x W' hx (below2 hb hW') hV')
 ·rw[c1]
  simp
 ·rw[c2]
  simp
end Go.Proofs.YtjfdllgodijibaaGreatDoor.Tr


namespace Go.Proofs.YtjfdllgodijibaaGreatDoor.Tr
open Go.RowKit
open St
open Sh (nodeV)
def wide (l:List ByteArray):Bool:=l.all (fun s=>decide (s.size=32))
theorem wide_yes (l:List ByteArray):wide l=true↔∀ j (h:j<l.length),l[j].size=32:=by
 unfold wide
 simp only[List.all_eq_true,decide_eq_true_eq]
 constructor
 ·intro h j hj
  exact h _ (List.getElem_mem hj)
 ·intro h s hs
  obtain⟨j,hj,rfl⟩:=List.getElem_of_mem hs
  exact h j hj
theorem wide_bad (l:List ByteArray) (j:Nat) (hj:j<l.length) (h:¬l[j].size=32):wide l=false:=by
 cases e:wide l with
 |false=>rfl
 |true=>exact absurd ((wide_yes l).1 e j hj) h
theorem digs_impl (a:Option Addr) (cap:Nat) (l:List ByteArray) (most:Nat) (w:World) (B:Nat) (h:Strs w B a l) (hn:l.length<=1048576) :
  Calls Tryz.prog 34 #[.slice a l.length cap,.int .i64 most] w fun e w'=>e=.returned (.bool (decide (l.length<=most) && wide l))/\w'=w:=by
 have HS:=hideT h
 clear h
 obtain⟨n,hln⟩:∃ n,n=l.length:=⟨_,rfl⟩
 have HLN:=hideT hln
 rw[<-hln]at hn ⊢
 clear hln
 by_cases hbig:most<n
 ·have HR:Hid ((decide (n<=most) && wide l)=false):=by
   unfold Hid
   rw[decide_eq_false (by omega)]
   rfl
  go_enter Tryz.func34,Tryz.ntmps34
  go_wp2_with fail
  go_ret
  exact⟨ret_bool HR.out.symm,rfl⟩
 ·have HR:Hid ((decide (n<=most) && wide l)=wide l):=by
   unfold Hid
   rw[decide_eq_true (by omega)]
   rfl
  go_enter Tryz.func34,Tryz.ntmps34
  go_wp2_with fail
  go_loopw [13] (fun i wr=>∃ k:Nat,i=.int .i64 k/\k<=n/\(∀ j (hj:j<l.length),j<k->l[j].size=32)/\wr=w) (fun i _=>n-(intOf i).toNat)
  case atStart=>exact⟨0,rfl,by omega,fun j hj h0=>by omega,rfl⟩
  case round =>
   obtain⟨k,rfl,hk,hall,hw⟩:=hrel
   subst hw
   have HA:=hideT hall
   clear hall
   by_cases hlt:k<n
   ·have hkl:k<l.length:=by rw[<-HLN.out];exact hlt
    obtain⟨b,off,rfl,hb,hc⟩:=HS.out.some (by omega)
    have ci:=hc k hkl
    have HBad:=hideT (wide_bad l k hkl)
    obtain⟨s,hs⟩:∃ s,s=l[k]:=⟨_,rfl⟩
    have HSE:=hideT hs
    rw[<-hs]at ci
    clear hc hs
    by_cases h32:s.size=32
    ·go_wp2_with fail
     go_roundw
     case rel =>
      refine⟨k+1,by go_num,by omega,fun j hj h0=>?_,trivial⟩
      by_cases e:j=k
      ·subst e
       rw[<-HSE.out]
       exact h32
      ·exact HA.out j hj (by omega)
     case measure=>simp[intOf];omega
    ·go_wp2_with fail
     go_ret
     exact⟨ret_bool (by rw[HR.out,HBad.out (by rw[<-HSE.out];exact h32)]),rfl⟩
   ·have HY:Hid (wide l=true):=by
     unfold Hid
     exact(wide_yes l).2 (fun j hj=>HA.out j hj (by have:=HLN.out;omega))
    go_wp2_with fail
    go_ret
    exact⟨ret_bool (by rw[HR.out,HY.out]),rfl⟩
theorem wide_spec (a:Option Addr) (cap:Nat) (l:List ByteArray) (w:World) (B:Nat) (h:Strs w B a l) (hn:l.length<=1048576) :
  Calls Tryz.prog 22 #[.slice a l.length cap] w fun e w'=>e=.returned (.bool (wide l))/\w'=w:=by
 have HS:=hideT h
 clear h
 obtain⟨n,hln⟩:∃ n,n=l.length:=⟨_,rfl⟩
 have HLN:=hideT hln
 rw[<-hln]at hn ⊢
 clear hln
 go_enter Tryz.func22,Tryz.ntmps22
 go_wp2_with fail
 go_loopw [3] (fun i wr=>∃ k:Nat,i=.int .i64 k/\k<=n/\(∀ j (hj:j<l.length),j<k->l[j].size=32)/\wr=w) (fun i _=>n-(intOf i).toNat)
 case atStart=>exact⟨0,rfl,by omega,fun j hj h0=>by omega,rfl⟩
 case round =>
  obtain⟨k,rfl,hk,hall,hw⟩:=hrel
  subst hw
  have HA:=hideT hall
  clear hall
  by_cases hlt:k<n
  ·have hkl:k<l.length:=by rw[<-HLN.out];exact hlt
   obtain⟨b,off,rfl,hb,hc⟩:=HS.out.some (by omega)
   have ci:=hc k hkl
   have HBad:=hideT (wide_bad l k hkl)
   obtain⟨s,hs⟩:∃ s,s=l[k]:=⟨_,rfl⟩
   have HSE:=hideT hs
   rw[<-hs]at ci
   clear hc hs
   by_cases h32:s.size=32
   ·go_wp2_with fail
    go_roundw
    case rel =>
     refine⟨k+1,by go_num,by omega,fun j hj h0=>?_,trivial⟩
     by_cases e:j=k
     ·subst e
      rw[<-HSE.out]
      exact h32
     ·exact HA.out j hj (by omega)
    case measure=>simp[intOf];omega
   ·go_wp2_with fail
    go_ret
    exact⟨ret_bool (by rw[HBad.out (by rw[<-HSE.out];exact h32)]),rfl⟩
  ·have HY:Hid (wide l=true):=by
    unfold Hid
    exact(wide_yes l).2 (fun j hj=>HA.out j hj (by have:=HLN.out;omega))
   go_wp2_with fail
   go_ret
   exact⟨ret_bool (by rw[HY.out]),rfl⟩
theorem cutLast_any (b off m cap:Nat) (s:ByteArray) (w:World) (hm:1<=m) (hm2:m<=1048576) (hc:m<=cap) (ci:w.cell? ⟨b,off+(m-1),none⟩=some (.string s)) :
  Calls Tryz.prog 36 #[.slice (some ⟨b,off,none⟩) m cap] w fun e w'=>e=.returned (.tuple #[.slice (some ⟨b,off,none⟩) (m-1) (m-1),.string s])/\Below w.heap.size w w':=by
 obtain⟨k,rfl⟩:∃ k,m=k+1:=⟨m-1,by omega⟩
 rw[show k+1-1=k by omega]at ci ⊢
 have g0:((k+1:Nat):Int)-1=k:=by omega
 have g1:(k:Int)<=cap:=by omega
 have g2:(k:Int)<((k+1:Nat):Int):=by omega
 have g3:¬cap=k:=by omega
 go_enter Tryz.func36,Tryz.ntmps36
 go_wp2_with fail
 go_region
 all_goals (try go_wp2_with fail)
 all_goals go_ret2
 all_goals exact⟨rfl,(Below.refl _ _).drew⟩
def incl (n i:Nat) (p:List ByteArray) (h:ByteArray):Option ByteArray:=climbS i (n-1) p h
theorem incl_one (p:List ByteArray) (h:ByteArray):incl 1 0 p h=if p=[] then some h else none:=by
 unfold incl
 cases p with
 |nil=>rw[climbS_nil,if_pos rfl,if_pos rfl]
 |cons x xs=>rw[climbS_zero _ _ _ (by simp),if_neg (by simp)]
theorem incl_none (n i:Nat) (h:ByteArray) (hn:2<=n):incl n i [] h=none:=by
 unfold incl
 rw[climbS_nil,if_neg (by omega)]
theorem incl_left (n i:Nat) (q:List ByteArray) (s h:ByteArray) (hn:2<=n) (hi:i<half n):incl n i (q++[s]) h=(incl (half n) i q h).map (fun x=>nodeV x s):=by
 have k3:=half_two n hn
 have k2:=half_lt n hn
 have hk:half n=2 ^ Nat.log2 (n-1):=rfl
 have e4:2 ^ (Nat.log2 (n-1)+1)=2*half n:=by rw[Nat.pow_succ,hk];omega
 exact climb_left q (Nat.log2 (n-1)) i (n-1) s h (by rw[<-hk];exact hi) (by rw[<-hk];omega) (by rw[e4];omega)
theorem incl_right (n i:Nat) (q:List ByteArray) (s h:ByteArray) (hn:2<=n) (hi:¬i<half n) (hin:i<n):incl n i (q++[s]) h=(incl (n-half n) (i-half n) q h).map (fun x=>nodeV s x):=by
 have k3:=half_two n hn
 have k2:=half_lt n hn
 have hk:half n=2 ^ Nat.log2 (n-1):=rfl
 have e4:2 ^ (Nat.log2 (n-1)+1)=2*half n:=by rw[Nat.pow_succ,hk];omega
 have:=climb_right q (Nat.log2 (n-1)) i (n-1) s h (by rw[<-hk];omega) (by omega) (by rw[e4];omega)
 unfold incl
 rw[this,<-hk,show n-1-half n=n-half n-1 by omega]
end Go.Proofs.YtjfdllgodijibaaGreatDoor.Tr


namespace Go.Proofs.YtjfdllgodijibaaGreatDoor.Tr
open Go.RowKit
open St
open Sh (Vars nodeV)
theorem take_last (p:List ByteArray) (m:Nat) (h:1<=m) (hm:m<=p.length):p.take m=p.take (m-1)++[p[m-1]]:=by
 have:=List.take_append_getElem (l:=p) (i:=m-1) (by omega)
 rw[this,show m-1+1=m by omega]
theorem climbFrom_any (n0 i0:Nat) (p:List ByteArray) (a:Option Addr) (cap B:Nat) (w:World) (hin:i0<n0) (hn:n0<9223372036854775808) (hp:p.length<=1048576) (hcap:p.length<=cap) (hw:∀ j (h:j<p.length),p[j].size=32) (hs:Strs w B a p) (hB:B<=w.heap.size) :
  Calls Tryz.prog 35 #[.int .i64 i0,.int .i64 n0,.slice a p.length cap] w fun e w'=>Below w.heap.size w w'/\((∃ f φ,e=.returned (.tuple #[f,.bool true])/\Climbs w' f φ/\∀ h,incl n0 i0 p h=some (φ h))∨(∃ f,e=.returned (.tuple #[f,.bool false])/\∀ h,incl n0 i0 p h=none)):=by
 have HS:=hideT hs
 have HW:=hideT hw
 clear hs hw
 obtain⟨m0,hm0⟩:∃ m0,m0=p.length:=⟨_,rfl⟩
 have HM:=hideT hm0
 rw[<-hm0]at hp hcap ⊢
 clear hm0
 go_enter Tryz.func35,Tryz.ntmps35
 go_wp2_with fail
 go_loopw [0,1,2,8] (fun iv nv pv uv wr=>∃ (i n m c:Nat) (φ:ByteArray->ByteArray),iv=.int .i64 i/\nv=.int .i64 n/\pv=.slice a m c/\i<n/\n<=n0/\m<=m0/\m<=c/\Climbs wr uv φ/\(∀ h,incl n0 i0 p h=(incl n i (p.take m) h).map φ)/\Below w.heap.size w wr) (fun _ nv _ _ _=>(intOf nv).toNat)
 case atStart =>
  refine⟨i0,n0,m0,cap,fun x=>x,rfl,rfl,rfl,hin,Nat.le_refl _,Nat.le_refl _,hcap,stay_any w,fun h=>?_,Below.refl _ _⟩
  rw[HM.out,List.take_length,Option.map_id']
 case round =>
  obtain⟨i,n,m,c,φ,rfl,rfl,rfl,hi,hn0,hm,hmc,hcl,hinc,hbel⟩:=hrel
  have HB:=hideT hbel
  have HCL:=hideT hcl
  have HI:=hideT hinc
  clear hbel hcl hinc
  by_cases h1:n<=1
  ·obtain rfl:n=1:=by omega
   obtain rfl:i=0:=by omega
   by_cases hm0:m=0
   ·subst hm0
    have HE:Hid (∀ h,incl n0 i0 p h=some (φ h)):=fun h=>by
     rw[HI.out h,incl_one]
     rfl
    go_wp2_with fail
    go_ret2
    exact⟨HB.out,.inl ⟨_,φ,rfl,HCL.out,HE.out⟩⟩
   ·have HE:Hid (∀ h,incl n0 i0 p h=none):=fun h=>by
     rw[HI.out h,incl_one,if_neg (by
      intro he
      have h2:=congrArg List.length he
      rw[List.length_take,List.length_nil]at h2
      have h3:=HM.out
      omega)]
     rfl
    have g0:((m:Int)==0)=false:=by simp;omega
    go_wp2_with fail
    go_ret2
    exact⟨HB.out,.inr ⟨_,rfl,HE.out⟩⟩
  ·have g1:1<(n:Int):=by omega
   by_cases hm0:m=0
   ·subst hm0
    have HE:Hid (∀ h,incl n0 i0 p h=none):=fun h=>by
     rw[HI.out h,List.take_zero,incl_none n i h (by omega)]
     rfl
    go_wp2_with fail
    go_ret2
    exact⟨HB.out,.inr ⟨_,rfl,HE.out⟩⟩
   ·have g0:¬(m:Int)=0:=by omega
    have hml:m-1<p.length:=by have:=HM.out;omega
    obtain⟨b,off,rfl,hb,hc⟩:=(HS.out.after HB.out hB).some (by omega)
    have ci:=hc (m-1) hml
    have HSZ:=hideT (HW.out (m-1) hml)
    have HTL:=hideT (take_last p m (by omega) (by have:=HM.out;omega))
    have HIL:=hideT (fun (s h:ByteArray) (hik:i<half n)=>incl_left n i (p.take (m-1)) s h (by omega) hik)
    have HIR:=hideT (fun (s h:ByteArray) (hik:¬i<half n)=>incl_right n i (p.take (m-1)) s h (by omega) hik hi)
    obtain⟨s,hse⟩:∃ s,s=p[m-1]:=⟨_,rfl⟩
    rw[<-hse]at ci HSZ HTL
    clear hc hse
    have hp2:=half_pos n
    have hl2:=half_lt n (by omega)
    go_wp2_with fail
    refine(cutLast_any b off m c s wr (by omega) (by omega) hmc ci).mono ?_
    rintro e w1 ⟨rfl,hb1⟩
    have HB1:=hideT (HB.out.trans (hb1.mono HB.out.size))
    have HCL1:=hideT (HCL.out.later hb1)
    clear hb1 ci
    go_wp2_with fail
    refine(half_impl n w1 (by omega) (by omega)).mono ?_
    rintro e w2 ⟨rfl,hw2⟩
    subst w2
    obtain⟨k,hk⟩:∃ k,k=half n:=⟨_,rfl⟩
    rw[<-hk]at hp2 hl2 HIL HIR ⊢
    clear hk
    by_cases hik:i<k
    ·go_wp2_with fail
     refine(joinRight_any s _ φ w1 HSZ.out HCL1.out).mono ?_
     rintro e w3 ⟨g,rfl,hg3,hb3⟩
     have HB3:=hideT (HB1.out.trans (hb3.mono HB1.out.size))
     have HG:=hideT hg3
     clear hb3 hg3
     go_wp2_with fail
     go_roundw
     case rel =>
      refine⟨i,k,m-1,m-1,_,rfl,rfl,rfl,hik,by omega,by omega,Nat.le_refl _,HG.out,fun h=>?_,HB3.out⟩
      rw[HI.out h,HTL.out,HIL.out s h hik,Option.map_map]
      rfl
     case measure=>simp[intOf];omega
    ·go_wp2_with fail
     refine(joinLeft_any s _ φ w1 HSZ.out HCL1.out).mono ?_
     rintro e w3 ⟨g,rfl,hg3,hb3⟩
     have HB3:=hideT (HB1.out.trans (hb3.mono HB1.out.size))
     have HG:=hideT hg3
     clear hb3 hg3
     go_wp2_with fail
     go_roundw
     case rel =>
      refine⟨i-k,n-k,m-1,m-1,_,by go_num,by go_num,rfl,by omega,by omega,by omega,Nat.le_refl _,HG.out,fun h=>?_,HB3.out⟩
      rw[HI.out h,HTL.out,HIR.out s h hik,Option.map_map]
      rfl
     case measure=>simp[intOf];omega
theorem str_eq (a b:ByteArray):(a.toList==b.toList)=decide (a=b):=by
 rw[ByteArray.toList_eq,ByteArray.toList_eq]
 by_cases h:a=b
 ·subst h
  simp
 ·rw[decide_eq_false h]
  have:¬a.data.toList=b.data.toList:=fun e=>h (by
   cases a
   cases b
   simp at e
   rw[e])
  simpa using this
def inclB (leaf:ByteArray) (i n:Int) (p:List ByteArray) (root:ByteArray):Bool :=
 decide (leaf.size=32) && decide (root.size=32) && (decide (p.length<=63) && wide p) && decide (0<=i) && decide (i<n) && decide (incl n.toNat i.toNat p leaf=some root)
theorem inclB_leaf (leaf:ByteArray) (i n:Int) (p:List ByteArray) (root:ByteArray) (h:¬leaf.size=32):inclB leaf i n p root=false:=by simp[inclB,h]
theorem inclB_root (leaf:ByteArray) (i n:Int) (p:List ByteArray) (root:ByteArray) (h:¬root.size=32):inclB leaf i n p root=false:=by simp[inclB,h]
theorem inclB_path (leaf:ByteArray) (i n:Int) (p:List ByteArray) (root:ByteArray) (h:(decide (p.length<=63) && wide p)=false):inclB leaf i n p root=false:=by simp only[inclB,h];simp
theorem inclB_low (leaf:ByteArray) (i n:Int) (p:List ByteArray) (root:ByteArray) (h:i<0):inclB leaf i n p root=false:=by simp[inclB,show ¬0<=i by omega]
theorem inclB_high (leaf:ByteArray) (i n:Int) (p:List ByteArray) (root:ByteArray) (h:¬i<n):inclB leaf i n p root=false:=by simp[inclB,h]
theorem inclB_in (leaf:ByteArray) (i n:Nat) (p:List ByteArray) (root:ByteArray) (h1:leaf.size=32) (h2:root.size=32) (h3:(decide (p.length<=63) && wide p)=true) (h:i<n):inclB leaf i n p root=decide (incl n i p leaf=some root):=by
 simp only[inclB,h1,h2,h3]
 simp[h]
theorem incl_impl (leaf root:ByteArray) (i n:Int) (p:List ByteArray) (a:Option Addr) (cap B:Nat) (w:World) (hn:n<9223372036854775808) (hp:p.length<=1048576) (hcap:p.length<=cap) (hs:Strs w B a p) (hB:B<=w.heap.size) (hV:Vars w) :
  Calls Tryz.prog 26 #[.string leaf,.int .i64 i,.int .i64 n,.slice a p.length cap,.string root] w fun e w'=>e=.returned (.bool (inclB leaf i n p root))/\Below w.heap.size w w':=by
 have HD:=hideT (digs_impl a cap p 63 w B hs hp)
 have HCF:=hideT (fun (n' i':Nat) h1 h2 h3=>climbFrom_any n' i' p a cap B w h1 h2 hp hcap h3 hs hB)
 have HV:=hideT hV
 have hv2:=hV.two
 have HPath:=hideT (inclB_path leaf i n p root)
 have HIn:=hideT (inclB_in leaf)
 have HWide:=hideT ((wide_yes p).1)
 clear hs hV
 by_cases h1:leaf.size=32
 ·by_cases h2:root.size=32
  ·cases h3:(decide (p.length<=63) && wide p) with
   |false =>
    have HF:=hideT (HPath.out h3)
    rw[h3]at HD
    clear h3
    clear HCF
    generalize p.length=m at hp hcap HD ⊢
    go_enter Tryz.func26,Tryz.ntmps26
    go_wp2_with fail
    refine HD.out.mono ?_
    rintro e w1 ⟨rfl,hw⟩
    subst w1
    go_wp2_with fail
    go_ret
    exact⟨ret_bool HF.out.symm,Below.refl _ _⟩
   |true =>
    have HT:=hideT h3
    have HW2:Hid (wide p=true):=by
     unfold Hid
     rw[Bool.and_eq_true]at h3
     exact h3.2
    rw[h3]at HD
    clear h3
    by_cases hi0:i<0
    ·have HF:=hideT (inclB_low leaf i n p root hi0)
     clear HCF
     generalize p.length=m at hp hcap HD ⊢
     go_enter Tryz.func26,Tryz.ntmps26
     go_wp2_with fail
     refine HD.out.mono ?_
     rintro e w1 ⟨rfl,hw⟩
     subst w1
     go_wp2_with fail
     go_ret
     exact⟨ret_bool HF.out.symm,Below.refl _ _⟩
    ·by_cases hin:i<n
     ·obtain⟨i',rfl⟩:∃ k:Nat,i=k:=⟨i.toNat,by omega⟩
      obtain⟨n',rfl⟩:∃ k:Nat,n=k:=⟨n.toNat,by omega⟩
      have HF:=hideT (HIn.out i' n' p root h1 h2 HT.out (by omega))
      have HC:=hideT (HCF.out n' i' (by omega) (by omega) (HWide.out HW2.out))
      generalize p.length=m at hp hcap HD HC ⊢
      have g1:¬(n':Int)<=i':=by omega
      clear HCF hi0 hin hn
      go_enter Tryz.func26,Tryz.ntmps26
      go_wp2_with fail
      refine HD.out.mono ?_
      rintro e w1 ⟨rfl,hw⟩
      subst w1
      go_wp2_with fail
      refine HC.out.mono ?_
      rintro e w2 ⟨hb2,⟨f,φ,rfl,hcl,hall⟩|⟨f,rfl,hnone⟩⟩
      ·obtain⟨k,caps,rfl,he,hcall⟩:=hcl
       have HB2:=hideT hb2
       have HE:=hideT (hall leaf)
       have HCall:=hideT (hcall leaf w2 h1 (Below.refl _ _) (HV.out.below hb2 hv2))
       clear hcall hall hb2
       go_wp2_with fail
       refine HCall.out.mono ?_
       rintro e w3 ⟨rfl,hb3⟩
       have HB3:=hideT (below2 HB2.out hb3)
       clear hb3
       have HQ:Hid (inclB leaf i' n' p root=decide (φ leaf=root)):=by
        unfold Hid
        rw[HF.out,HE.out]
        simp
       go_wp2_with fail
       go_ret
       exact⟨ret_bool (by rw[HQ.out];exact str_eq _ _),HB3.out⟩
      ·have HQ:Hid (inclB leaf i' n' p root=false):=by
        unfold Hid
        rw[HF.out,hnone leaf]
        simp
       clear hnone
       go_wp2_with fail
       go_ret
       exact⟨ret_bool HQ.out.symm,hb2⟩
     ·have HF:=hideT (inclB_high leaf i n p root hin)
      have hin':n<=i:=by omega
      clear HCF
      generalize p.length=m at hp hcap HD ⊢
      go_enter Tryz.func26,Tryz.ntmps26
      go_wp2_with fail
      refine HD.out.mono ?_
      rintro e w1 ⟨rfl,hw⟩
      subst w1
      go_wp2_with fail
      go_ret
      exact⟨ret_bool HF.out.symm,Below.refl _ _⟩
  ·have HF:=hideT (inclB_root leaf i n p root h2)
   clear HCF
   generalize p.length=m at hp hcap HD ⊢
   go_enter Tryz.func26,Tryz.ntmps26
   go_wp2_with fail
   go_ret
   exact⟨ret_bool HF.out.symm,Below.refl _ _⟩
 ·have HF:=hideT (inclB_leaf leaf i n p root h1)
  clear HCF
  generalize p.length=m at hp hcap HD ⊢
  go_enter Tryz.func26,Tryz.ntmps26
  go_wp2_with fail
  go_ret
  exact⟨ret_bool HF.out.symm,Below.refl _ _⟩
end Go.Proofs.YtjfdllgodijibaaGreatDoor.Tr

