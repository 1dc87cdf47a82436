/- Texts put together: PmSend, TreeTop, Digs, RangeRight, RangeRoot, AddPlain, AppOpt, PeCopy, PeOpen, PlOwn, TkPlain, HrDel. -/
import Derived.Test.YtpddanmnlkcdpaaGreatDoorHz33
import Derived.Test.YtpddanmnlkcdpaaGreatDoorHz27
import Derived.Test.YtpddanmnlkcdpaaGreatDoorHz0
import Derived.Test.YtpddanmnlkcdpaaGreatDoorHz18
import Derived.BigQuiet
import Derived.Deep.QuietTactic
import Derived.Deep.RegionWith
import Derived.Test.YtpddanmnlkcdpaaGreatDoorHz13
import Derived.Test.YtpddanmnlkcdpaaGreatDoorHz30
import Derived.ArgAppend
import Derived.Laws.OwnMore
import Derived.Test.YtpddanmnlkcdpaaGreatDoorHz39
import Derived.Test.YtpddanmnlkcdpaaGreatDoorHz22
import Derived.Shelf.SlicesG.Delete
set_option maxRecDepth 100000
set_option maxHeartbeats 8000000
namespace Go.Proofs.YtpddanmnlkcdpaaGreatDoor.Pl
open Go.RowKit
open Kp
open Pe
open Ls (blk_alloc)
open Sh (step_append_own)
theorem Tryz.infoSent:(Tryz.prog.info? 114).map (fun i=>(i.zero,i.size,i.bytes))=some (some (.agg #[.string ⟨#[]⟩,.int .i64 0,.int .i64 0,.string ⟨#[]⟩,.slice none 0 0]),5,72):=by kernel_rfl
theorem OwnL.blk {W:World} {base k:Nat} {v:Value} {m:List ML} (h:OwnL W base v m) (hk:v.ownBlock=some k):∃ cs,W.heap[k]? = some (.cells cs 114 (0,0)):=by
 obtain⟨_,h⟩:=h
 rcases h with⟨rfl,_⟩|⟨g,cap,cur,rfl,_,hb,_⟩
 ·simp[Value.ownBlock]at hk
 ·simp[Value.ownBlock]at hk
  subst hk
  exact⟨cur,hb⟩
theorem OwnL.others {W W':World} {base g:Nat} {v:Value} {m:List ML} {cs:Array Value} {T:TypeId} (h:OwnL W base v m) (hg:W.heap[g]? = some (.cells cs T (0,0))) (hT:T≠114) (hk:∀ k o,W.heap[k]? = some o->k≠g->W'.heap[k]? = some o):OwnL W' base v m:=by
 obtain⟨hl,h⟩:=h
 refine⟨hl,?_⟩
 rcases h with h|⟨k,cap,cur,hv,hkb,hb,rest⟩
 ·exact .inl h
 ·exact .inr ⟨k,cap,cur,hv,hkb,hk k _ hb (ty_ne hb hg (fun e=>hT e.symm)),rest⟩
def wpB (u:Value) (e z b:Int) (r s:ByteArray) (y:Int) (vo vs:Value):Obj:=.cells #[u,.int .i64 e,.int .i64 z,.int .i64 b,.string r,.string s,.int .i64 y,vo,vs] 78
theorem wp_set8 {W:World} {g:Nat} {u:Value} {e z b:Int} {r s:ByteArray} {y:Int} {vo vs:Value} (h:W.heap[g]? = some (wpB u e z b r s y vo vs)) (v:Value):(W.setCell ⟨g,8,none⟩ v).heap[g]? = some (wpB u e z b r s y vo v):=by
 unfold wpB at h ⊢
 rw[heap_setCell_same W g 8 _ _ v h]
 rfl
theorem send_end {w w1 w8:World} {o:Obj} {g base:Nat} {x:ML} {e z b:Int} {r s:ByteArray} {y:Int} {u vo vs v8:Value} {m:List ML} (hg:w.heap[g]? = some (wpB u e z b r s y vo vs)) (ho:OwnL w base vs m) (hw1:∃ q,w1=w.alloc q) (hbase:base<=w.heap.size)
  (hg8:(w1.drew.alloc o).grownBy w8 vs.ownBlock) (ho8:w8.ownsRow base 114 5 v8 (m.length+1) (cellsL m++[.string x.1.who,.int .i64 x.1.kind,.int .i64 x.1.index,.string x.1.piece,x.2])) :
  w8.heap[g]? = some (wpB u e z b r s y vo vs)/\∃ v',(w8.setCell ⟨g,8,none⟩ v8).heap[g]? = some (wpB u e z b r s y vo v')/\OwnL (w8.setCell ⟨g,8,none⟩ v8) base v' (m++[x]) /\
    (∀ k o,w.heap[k]? = some o->k≠g->vs.ownBlock≠some k->(w8.setCell ⟨g,8,none⟩ v8).heap[k]? = some o)/\(∀ B,B<=base->B<=g->Below B w (w8.setCell ⟨g,8,none⟩ v8)):=by
 obtain⟨q,rfl⟩:=hw1
 have hT1:(78:Nat)≠114:=by decide
 have hne:vs.ownBlock≠some g:=fun e=>by
  obtain⟨cs,hc⟩:=ho.blk e
  unfold wpB at hg
  exact ty_ne hg hc hT1 rfl
 have up:∀ k u,w.heap[k]? = some u->((w.alloc q).drew.alloc o).heap[k]? = some u:=fun k u h=>blk_alloc (W:=(w.alloc q).drew) (blk_alloc h q) o
 have h8:w8.heap[g]? = some (wpB u e z b r s y vo vs):=grown_blk hg8 (up g _ hg) hne
 have o8:OwnL w8 base v8 (m++[x]):=OwnL.snoc ho8
 refine⟨h8,v8,wp_set8 h8 v8,?_,?_,?_⟩
 ·refine OwnL.others (W:=w8) (g:=g) o8 (by unfold wpB at h8;exact h8) hT1 (fun k o hk hkg=>?_)
  rw[heap_setCell_other _ _ k _ (by exact hkg)]
  exact hk
 ·intro k u hk hkg hkv
  rw[heap_setCell_other _ _ k _ (by exact hkg)]
  exact grown_blk hg8 (up k _ hk) hkv
 ·intro B hB hBg
  have hBs:B<=w.heap.size:=by have:=lt_rowK hg;omega
  refine(((((Below.refl B w).alloc hBs q).drew).alloc (by simp;omega) o).grown hg8 (by simp;omega) ?_).setCell (p:=⟨g,8,none⟩) hBg v8
  intro k hk
  exact Nat.le_trans hB (World.ownsRow.lt ho k hk).1
def SendPost (g base:Nat) (x:ML) (u:Value) (e z b:Int) (r s:ByteArray) (y:Int) (vo vs:Value) (m:List ML) (w w':World):Prop :=
 ∃ v',w'.heap[g]? = some (wpB u e z b r s y vo v')/\OwnL w' base v' (m++[x])/\(∀ k o,w.heap[k]? = some o->k≠g->vs.ownBlock≠some k->w'.heap[k]? = some o)/\(∀ B,B<=base->B<=g->Below B w w')
theorem send_any (g base n:Nat) (x:ML) (u:Value) (e z b:Int) (r s:ByteArray) (y:Int) (vo vs:Value) (m:List ML) (w:World) (hg:w.heap[g]? = some (wpB u e z b r s y vo vs)) (ho:OwnL w base vs m) (hbase:base<=w.heap.size) (hn:m.length=n) (hm:n<=1048576) (hx:∃ a n cap,x.2=.slice a n cap) :
  Calls Tryz.prog 38 #[.pointer (some ⟨g,0,none⟩),.string x.1.who,.agg #[.int .i64 x.1.kind,.int .i64 x.1.index,.string x.1.piece,x.2]] w fun q w' =>
   q=.returned (.tuple #[])/\SendPost g base x u e z b r s y vo vs m w w':=by
 obtain⟨i0,hi,hz0,hz1,hz2⟩:=info_parts Tryz.infoSent
 have HEND:=hideK (fun w1 w8 o v8=>send_end (w:=w) (w1:=w1) (w8:=w8) (o:=o) (x:=x) (v8:=v8) hg ho)
 obtain⟨⟨xt,xk,xi,xp,xl⟩,xv⟩:=x
 obtain⟨ap,np,cp,hxv⟩:=hx
 unfold SendPost
 dsimp only at hxv HEND ⊢
 subst hxv
 subst hn
 obtain⟨w1,hw1⟩:∃ w1,w1=w.alloc (.cells #[.int .i64 xk,.int .i64 xi,.string xp,.slice ap np cp] 51):=⟨_,rfl⟩
 have HX1:Hid (w1.heap[w.heap.size]? = some (.cells #[.int .i64 xk,.int .i64 xi,.string xp,.slice ap np cp] 51 (0,0))):=by rw[hw1];exact heap_alloc_new w _
 have B1:Hid (Below w.heap.size w w1):=by rw[hw1];exact(Below.refl _ _).alloc (Nat.le_refl _) _
 have G1:Hid (w1.heap[g]? = some (wpB u e z b r s y vo vs)):=by rw[hw1];exact blk_alloc hg _
 have O1:Hid (OwnL w1 base vs m):=by rw[hw1];exact ho.alloc _
 have HW1:Hid (∃ q,w1=w.alloc q):=⟨_,hw1⟩
 have OD:=hideK ((O1.out.below (show Below w1.heap.size w1 w1.drew from (Below.refl _ _).drew)).alloc (.cells #[.string xt,.int .i64 xk,.int .i64 xi,.string xp,.slice ap np cp] 114))
 have hz1':base<=w1.heap.size:=Nat.le_trans hbase B1.out.size
 clear hg ho
 obtain⟨a,cap,hv,_,_⟩:=O1.out.one
 have x0:=cell_of_row w1 w.heap.size 0 _ _ _ HX1.out
 have x1:=cell_of_row w1 w.heap.size 1 _ _ _ HX1.out
 have x2:=cell_of_row w1 w.heap.size 2 _ _ _ HX1.out
 have x3:=cell_of_row w1 w.heap.size 3 _ _ _ HX1.out
 have k8:w1.cell? ⟨g,8,none⟩=some vs:=cell_of_row w1 g 8 _ _ _ (by have:=G1.out;unfold wpB at this;exact this)
 have hfz:∀ o,w1.frozen? ⟨g,o,none⟩=false:=fun o=>frozen_of_row w1 g o _ _ (by have:=G1.out;unfold wpB at this;exact this)
 have HC8:Hid (∀ W:World,W.heap[g]? = some (wpB u e z b r s y vo vs)->W.cell? ⟨g,8,none⟩=some vs/\∀ o,W.frozen? ⟨g,o,none⟩=false):=fun W h=>by
  unfold wpB at h
  exact⟨cell_of_row W g 8 _ _ _ h,fun o=>frozen_of_row W g o _ _ h⟩
 go_enter Tryz.func38,Tryz.ntmps38
 go_upto_region 1 with fail
 rw[<-hw1]
 clear hw1
 generalize hml:m.length=n at hv OD HEND hm ⊢
 subst hv
 have ODD:Hid (((w1.alloc (.cells #[.string xt,.int .i64 xk,.int .i64 xi,.string xp,.slice ap np cp] 114)).drew).ownsRow base 114 5 (.slice a n cap) n (cellsL m)):=by
  have:=OD.out
  unfold OwnL at this
  rw[hml]at this
  exact this
 have cA:(w1.alloc (.cells #[.string xt,.int .i64 xk,.int .i64 xi,.string xp,.slice ap np cp] 114)).cell? ⟨g,8,none⟩=some (.slice a n cap):=(HC8.out _ (blk_alloc G1.out _)).1
 go_region_law (refine step_append_own rfl (.tmp 10) (.tmp 14) 36 rfl base 114 i0 _ 5 72 Tryz.underlying36 hi hz0 hz1 hz2 rfl (by decide) (.slice a n cap) n _ rfl ODD.out ⟨w1.heap.size,0,none⟩ 1 1 [.string xt,.int .i64 xk,.int .i64 xi,.string xp,.slice ap np cp] rfl rfl (five_new w1.drew _ _ _ _ _ _) (five_one rfl rfl rfl rfl rfl) (by unfold maxLen;omega) (by omega) (by simp;omega) ?_;intro v8 w8 ho8 hg8;obtain⟨a8,c8,hv8⟩:=own_one ho8;subst hv8;obtain⟨G8,HE8⟩:=HEND.out w1 w8 _ _ HW1.out hbase hg8 ho8;have E8:=hideK HE8;clear ho8 hg8 HE8;obtain⟨d8,hf8⟩:=HC8.out w8 G8)
 all_goals (try go_wp2_with fail)
 all_goals (
  refine bodyPost_end (v:=.tuple #[]) (by simp[results,Tryz.results38,go_sem]) rfl ⟨rfl,?_⟩
  exact E8.out)
end Go.Proofs.YtpddanmnlkcdpaaGreatDoor.Pl


/- What both TreeHash answer, and the law on it. -/
namespace Go.Proofs.YtpddanmnlkcdpaaGreatDoor.Tr
open Go.RowKit
open St
open Sh (Vars)
theorem below2 {w w1 w2:World} (h1:Below w.heap.size w w1) (h2:Below w1.heap.size w1 w2):Below w.heap.size w w2:=h1.trans (h2.mono h1.size)
end Go.Proofs.YtpddanmnlkcdpaaGreatDoor.Tr


namespace Go.Proofs.YtpddanmnlkcdpaaGreatDoor.Tr
open Go.RowKit
open St
open Sh (nodeV)
def wide (l:List ByteArray):Bool:=l.all (fun s=>decide (s.size=32))
theorem wide_yes (l:List ByteArray):wide l=true↔∀ j (h:j<l.length),l[j].size=32:=by
 unfold wide
 simp only[List.all_eq_true,decide_eq_true_eq]
 constructor
 ·intro h j hj
  exact h _ (List.getElem_mem hj)
 ·intro h s hs
  obtain⟨j,hj,rfl⟩:=List.getElem_of_mem hs
  exact h j hj
theorem wide_bad (l:List ByteArray) (j:Nat) (hj:j<l.length) (h:¬l[j].size=32):wide l=false:=by
 cases e:wide l with
 |false=>rfl
 |true=>exact absurd ((wide_yes l).1 e j hj) h
theorem digs_impl (a:Option Addr) (cap:Nat) (l:List ByteArray) (most:Nat) (w:World) (B:Nat) (h:Strs w B a l) (hn:l.length<=1048576) :
  Calls Tryz.prog 198 #[.slice a l.length cap,.int .i64 most] w fun e w'=>e=.returned (.bool (decide (l.length<=most) && wide l))/\w'=w:=by
 have HS:=hideT h
 clear h
 obtain⟨n,hln⟩:∃ n,n=l.length:=⟨_,rfl⟩
 have HLN:=hideT hln
 rw[<-hln]at hn ⊢
 clear hln
 by_cases hbig:most<n
 ·have HR:Hid ((decide (n<=most) && wide l)=false):=by
   unfold Hid
   rw[decide_eq_false (by omega)]
   rfl
  go_enter Tryz.func198,Tryz.ntmps198
  go_wp2_with fail
  go_ret
  exact⟨ret_bool HR.out.symm,rfl⟩
 ·have HR:Hid ((decide (n<=most) && wide l)=wide l):=by
   unfold Hid
   rw[decide_eq_true (by omega)]
   rfl
  go_enter Tryz.func198,Tryz.ntmps198
  go_wp2_with fail
  go_loopw [13] (fun i wr=>∃ k:Nat,i=.int .i64 k/\k<=n/\(∀ j (hj:j<l.length),j<k->l[j].size=32)/\wr=w) (fun i _=>n-(intOf i).toNat)
  case atStart=>exact⟨0,rfl,by omega,fun j hj h0=>by omega,rfl⟩
  case round =>
   obtain⟨k,rfl,hk,hall,hw⟩:=hrel
   subst hw
   have HA:=hideT hall
   clear hall
   by_cases hlt:k<n
   ·have hkl:k<l.length:=by rw[<-HLN.out];exact hlt
    obtain⟨b,off,rfl,hb,hc⟩:=HS.out.some (by omega)
    have ci:=hc k hkl
    have HBad:=hideT (wide_bad l k hkl)
    obtain⟨s,hs⟩:∃ s,s=l[k]:=⟨_,rfl⟩
    have HSE:=hideT hs
    rw[<-hs]at ci
    clear hc hs
    by_cases h32:s.size=32
    ·go_wp2_with fail
     go_roundw
     case rel =>
      refine⟨k+1,by go_num,by omega,fun j hj h0=>?_,trivial⟩
      by_cases e:j=k
      ·subst e
       rw[<-HSE.out]
       exact h32
      ·exact HA.out j hj (by omega)
     case measure=>simp[intOf];omega
    ·go_wp2_with fail
     go_ret
     exact⟨ret_bool (by rw[HR.out,HBad.out (by rw[<-HSE.out];exact h32)]),rfl⟩
   ·have HY:Hid (wide l=true):=by
     unfold Hid
     exact(wide_yes l).2 (fun j hj=>HA.out j hj (by have:=HLN.out;omega))
    go_wp2_with fail
    go_ret
    exact⟨ret_bool (by rw[HR.out,HY.out]),rfl⟩
theorem wide_spec (a:Option Addr) (cap:Nat) (l:List ByteArray) (w:World) (B:Nat) (h:Strs w B a l) (hn:l.length<=1048576) :
  Calls Tryz.prog 165 #[.slice a l.length cap] w fun e w'=>e=.returned (.bool (wide l))/\w'=w:=by
 have HS:=hideT h
 clear h
 obtain⟨n,hln⟩:∃ n,n=l.length:=⟨_,rfl⟩
 have HLN:=hideT hln
 rw[<-hln]at hn ⊢
 clear hln
 go_enter Tryz.func165,Tryz.ntmps165
 go_wp2_with fail
 go_loopw [3] (fun i wr=>∃ k:Nat,i=.int .i64 k/\k<=n/\(∀ j (hj:j<l.length),j<k->l[j].size=32)/\wr=w) (fun i _=>n-(intOf i).toNat)
 case atStart=>exact⟨0,rfl,by omega,fun j hj h0=>by omega,rfl⟩
 case round =>
  obtain⟨k,rfl,hk,hall,hw⟩:=hrel
  subst hw
  have HA:=hideT hall
  clear hall
  by_cases hlt:k<n
  ·have hkl:k<l.length:=by rw[<-HLN.out];exact hlt
   obtain⟨b,off,rfl,hb,hc⟩:=HS.out.some (by omega)
   have ci:=hc k hkl
   have HBad:=hideT (wide_bad l k hkl)
   obtain⟨s,hs⟩:∃ s,s=l[k]:=⟨_,rfl⟩
   have HSE:=hideT hs
   rw[<-hs]at ci
   clear hc hs
   by_cases h32:s.size=32
   ·go_wp2_with fail
    go_roundw
    case rel =>
     refine⟨k+1,by go_num,by omega,fun j hj h0=>?_,trivial⟩
     by_cases e:j=k
     ·subst e
      rw[<-HSE.out]
      exact h32
     ·exact HA.out j hj (by omega)
    case measure=>simp[intOf];omega
   ·go_wp2_with fail
    go_ret
    exact⟨ret_bool (by rw[HBad.out (by rw[<-HSE.out];exact h32)]),rfl⟩
  ·have HY:Hid (wide l=true):=by
    unfold Hid
    exact(wide_yes l).2 (fun j hj=>HA.out j hj (by have:=HLN.out;omega))
   go_wp2_with fail
   go_ret
   exact⟨ret_bool (by rw[HY.out]),rfl⟩
theorem cutLast_any (b off m cap:Nat) (s:ByteArray) (w:World) (hm:1<=m) (hm2:m<=1048576) (hc:m<=cap) (ci:w.cell? ⟨b,off+(m-1),none⟩=some (.string s)) :
  Calls Tryz.prog 218 #[.slice (some ⟨b,off,none⟩) m cap] w fun e w'=>e=.returned (.tuple #[.slice (some ⟨b,off,none⟩) (m-1) (m-1),.string s])/\Below w.heap.size w w':=by
 obtain⟨k,rfl⟩:∃ k,m=k+1:=⟨m-1,by omega⟩
 rw[show k+1-1=k by omega]at ci ⊢
 have g0:((k+1:Nat):Int)-1=k:=by omega
 have g1:(k:Int)<=cap:=by omega
 have g2:(k:Int)<((k+1:Nat):Int):=by omega
 have g3:¬cap=k:=by omega
 go_enter Tryz.func218,Tryz.ntmps218
 go_wp2_with fail
 go_region
 all_goals (try go_wp2_with fail)
 all_goals go_ret2
 all_goals exact⟨rfl,(Below.refl _ _).drew⟩
def incl (n i:Nat) (p:List ByteArray) (h:ByteArray):Option ByteArray:=climbS i (n-1) p h
theorem incl_one (p:List ByteArray) (h:ByteArray):incl 1 0 p h=if p=[] then some h else none:=by
 unfold incl
 cases p with
 |nil=>rw[climbS_nil,if_pos rfl,if_pos rfl]
 |cons x xs=>rw[climbS_zero _ _ _ (by simp),if_neg (by simp)]
theorem incl_none (n i:Nat) (h:ByteArray) (hn:2<=n):incl n i [] h=none:=by
 unfold incl
 rw[climbS_nil,if_neg (by omega)]
theorem incl_left (n i:Nat) (q:List ByteArray) (s h:ByteArray) (hn:2<=n) (hi:i<half n):incl n i (q++[s]) h=(incl (half n) i q h).map (fun x=>nodeV x s):=by
 have k3:=half_two n hn
 have k2:=half_lt n hn
 have hk:half n=2 ^ Nat.log2 (n-1):=rfl
 have e4:2 ^ (Nat.log2 (n-1)+1)=2*half n:=by rw[Nat.pow_succ,hk];omega
 exact climb_left q (Nat.log2 (n-1)) i (n-1) s h (by rw[<-hk];exact hi) (by rw[<-hk];omega) (by rw[e4];omega)
theorem incl_right (n i:Nat) (q:List ByteArray) (s h:ByteArray) (hn:2<=n) (hi:¬i<half n) (hin:i<n):incl n i (q++[s]) h=(incl (n-half n) (i-half n) q h).map (fun x=>nodeV s x):=by
 have k3:=half_two n hn
 have k2:=half_lt n hn
 have hk:half n=2 ^ Nat.log2 (n-1):=rfl
 have e4:2 ^ (Nat.log2 (n-1)+1)=2*half n:=by rw[Nat.pow_succ,hk];omega
 have:=climb_right q (Nat.log2 (n-1)) i (n-1) s h (by rw[<-hk];omega) (by omega) (by rw[e4];omega)
 unfold incl
 rw[this,<-hk,show n-1-half n=n-half n-1 by omega]
end Go.Proofs.YtpddanmnlkcdpaaGreatDoor.Tr


/- Whether a range is right: impl.rangeRight and spec.l03Range. -/
namespace Go.Proofs.YtpddanmnlkcdpaaGreatDoor.Tr
open Go.RowKit
open St
def rngB (n:Int) (p:List ByteArray):Bool:=decide (0<=n) && decide (n<=1000000) && decide (p.length=ones n.toNat) && wide p
end Go.Proofs.YtpddanmnlkcdpaaGreatDoor.Tr


/- What both RangeRoot answer. -/
namespace Go.Proofs.YtpddanmnlkcdpaaGreatDoor.Tr
open Go.RowKit
open St
open Sh (Vars nodeV nodeV_size nodeR nodeR_yes node_impl digest_impl all_any l03Node_any sha)
def fold (p:List ByteArray):Nat->ByteArray->ByteArray
 |0,h=>h
 |m+1,h=>fold p m (nodeV (p.getD m ⟨#[]⟩) h)
def rootR (n:Int) (p:List ByteArray):ByteArray :=
 if rngB n p=true then (if n=0 then sha ⟨#[]⟩ else fold p (p.length-1) (p.getD (p.length-1) ⟨#[]⟩)) else ⟨#[]⟩
end Go.Proofs.YtpddanmnlkcdpaaGreatDoor.Tr


/- What RangeAdd answers; rows that are cut, and append onto them. -/
namespace Go.Proofs.YtpddanmnlkcdpaaGreatDoor.Tr
open Go.RowKit
open St
open Sh (Vars leafV nodeV nodeV_size)
def carry (p:List ByteArray):Nat->Nat->ByteArray->List ByteArray
 |0,_,h=>[h]
 |j+1,low,h=>if low%2=1 then carry p j (low/2) (nodeV (p.getD j ⟨#[]⟩) h) else p.take (j+1)++[h]
def addOk (n:Int) (p:List ByteArray) (t:ByteArray):Bool:=rngB n p && decide (n<1000000) && decide (t.size<=100)
def addN (n:Int) (p:List ByteArray) (t:ByteArray):Int:=if 8000<t.size then 0 else if addOk n p t=true then n+1 else n
def addR (n:Int) (p:List ByteArray) (t:ByteArray):List ByteArray:=if 8000<t.size then [] else if addOk n p t=true then carry p p.length n.toNat (leafV t) else p
theorem map_one1 (l:List ByteArray):∀ u∈l.map Value.string,u.oneCell'=true:=by
 intro u hu
 simp at hu
 obtain⟨s,_,rfl⟩:=hu
 rfl
def Rw (w:World) (base:Nat) (v:Value) (l:List ByteArray):Prop :=
 OwnS w base v l∨∃ g,v=.slice (some ⟨g,0,none⟩) l.length l.length/\base<=g/\∀ j (h:j<l.length),w.cell? ⟨g,j,none⟩=some (.string l[j])
end Go.Proofs.YtpddanmnlkcdpaaGreatDoor.Tr


/- append of a slice that came in, nil too, behind a row of the call's own. -/
namespace Go.Proofs.YtpddanmnlkcdpaaGreatDoor.Tr
open Go.RowKit
theorem grown_refl (w:World) (row:Option Nat):w.grownBy w row:=⟨rfl,rfl,rfl,Nat.le_refl _,fun _ _ _=>rfl⟩
theorem wpList_append_opt {P:Program} (w:World) {ops:Array Oper} {rest:List Oper} {o:Oper} {a:Act} {Q:Exit->Act->World->Prop} (hgd:o.guard=none) (s x:Operand) (t:TypeId)
  (ho:o.op=.call { callee:=.builtin .append,args:=#[s,x],argTypes:=#[t,t] })
  (base:Nat) (e:TypeId) (i:TypeInfo) (z:Value) (size bytes:Nat) (ht:P.underlying t=some (.slice e)) (hi:P.info? e=some i) (hz:i.zero=some z)
  (hsize:i.size=size) (hby:i.bytes=bytes) (hzs:z.cells.size=size) (hsz:0<size)
  (v:Value) (n:Nat) (xs:List Value) (hs:a.eval s=v) (hown:w.ownsRow base e size v n xs)
  (ad:Option Addr) (m c:Nat) (ha:ad=none->m=0/\c=0) (news:List Value) (hx:a.eval x=.slice ad m c) (hl:news.length=m*size) (hnews:∀ d,ad=some d->∀ j u,news[j]? = some u->w.cell? (d.add j)=some u) (h1:∀ u∈news,u.oneCell'=true)
  (h63:n+m<=maxLen) (hbytes:(n+m)*bytes<=140737488355328) (hbase:base<=w.heap.size)
  (h:∀ v' w',w'.ownsRow base e size v' (n+m) (xs++news)->w.grownBy w' v.ownBlock->(v'=.slice none 0 0↔v=.slice none 0 0/\m=0)->wpList P ops Q rest (a.put o.dst v') w'):wpList P ops Q (o :: rest) a w:=by
 cases ad with
 |some d=>exact wpList_append_own w hgd s x t ho base e i z size bytes ht hi hz hsize hby hzs hsz v n xs hs hown d m c news hx hl (hnews d rfl) h1 h63 hbytes hbase h
 |none =>
  obtain⟨rfl,rfl⟩:=ha rfl
  obtain rfl:news=[]:=List.eq_nil_of_length_eq_zero (by simpa using hl)
  refine wpList_plain hgd fun K hK=>?_
  have hr:=run_append_owned_none (P:=P) (w:=w) base t o.type e i size ht hi v n xs hown
  unfold Oper.wp execOp
  simp only[ho,resolve,invoke,builtin,Sem.run_bind,Sem.run_pure,Result.andThen_ok,List.map_toArray,List.map_cons,List.map_nil,hs,hx,hr]
  exact hK _ _ (h v w (by simpa using hown) (grown_refl _ _) (by simp))
theorem step_append_opt {P:Program} {ops:Array Oper} {o:Oper} {a:Act} {w:World} {K:Act->World->Prop} {Q:Exit->Act->World->Prop} {E:Prop}
  (hg:o.guard=none) (s x:Operand) (t:TypeId) (ho:o.op=.call { callee:=.builtin .append,args:=#[s,x],argTypes:=#[t,t] })
  (base:Nat) (e:TypeId) (i:TypeInfo) (z:Value) (size bytes:Nat) (ht:P.underlying t=some (.slice e)) (hi:P.info? e=some i) (hz:i.zero=some z)
  (hsize:i.size=size) (hby:i.bytes=bytes) (hzs:z.cells.size=size) (hsz:0<size)
  (v:Value) (n:Nat) (xs:List Value) (hs:a.eval s=v) (hown:w.ownsRow base e size v n xs)
  (ad:Option Addr) (m c:Nat) (ha:ad=none->m=0/\c=0) (news:List Value) (hx:a.eval x=.slice ad m c) (hl:news.length=m*size) (hnews:∀ d,ad=some d->∀ j u,news[j]? = some u->w.cell? (d.add j)=some u) (h1:∀ u∈news,u.oneCell'=true)
  (h63:n+m<=maxLen) (hbytes:(n+m)*bytes<=140737488355328) (hbase:base<=w.heap.size)
  (h:∀ v' w',w'.ownsRow base e size v' (n+m) (xs++news)->w.grownBy w' v.ownBlock->K (a.put o.dst v') w') :
  if Region.wanted o (yielded ops a.tmps)=true then Oper.wp P o a w K Q else E:=by
 cases ad with
 |some d=>exact Sh.step_append_own hg s x t ho base e i z size bytes ht hi hz hsize hby hzs hsz v n xs hs hown d m c news hx hl (hnews d rfl) h1 h63 hbytes hbase h
 |none =>
  obtain⟨rfl,rfl⟩:=ha rfl
  obtain rfl:news=[]:=List.eq_nil_of_length_eq_zero (by simpa using hl)
  have hw:Region.wanted o (yielded ops a.tmps)=true:=by simp[Region.wanted,hg]
  rw[if_pos hw]
  have hr:=run_append_owned_none (P:=P) (w:=w) base t o.type e i size ht hi v n xs hown
  unfold Oper.wp execOp
  simp only[ho,resolve,invoke,builtin,Sem.run_bind,Sem.run_pure,Result.andThen_ok,List.map_toArray,List.map_cons,List.map_nil,hs,hx,hr]
  exact h v w (by simpa using hown) (grown_refl _ _)
end Go.Proofs.YtpddanmnlkcdpaaGreatDoor.Tr


namespace Go.Proofs.YtpddanmnlkcdpaaGreatDoor.Pe
open Go.RowKit
open Kp
open In (Ints OwnI)
open In.Tryz (infoI2)
open Tr (wpList_append_opt)
open Ap (KeepE keepE_own)
open Ls (lowL blk_alloc)
theorem Tryz.infoOther:(Tryz.prog.info? 86).map (fun i=>(i.zero,i.size,i.bytes))=some (some (.agg #[.string ⟨#[]⟩,.slice none 0 0,.int .i64 0,.int .i64 0,.int .i64 0]),5,64):=by kernel_rfl
def Apart (m:List MO):Prop:=m.Pairwise fun x y=>∀ g,x.2.ownBlock=some g->y.2.ownBlock≠some g
def Hass (W:World) (base:Nat) (m:List MO):Prop:=∀ x∈m,OwnI W base x.2 x.1.has
theorem ownI_keep {W W':World} {base:Nat} {v:Value} {l:List Int} {e:TypeId} (h:OwnI W base v l) (k:KeepE e W W') (he:(2:TypeId)≠e):OwnI W' base v l:=by
 obtain⟨hl,h⟩:=h
 refine⟨hl,?_⟩
 rcases h with h|⟨g,cap,cur,hv,hg,hb,rest⟩
 ·exact .inl h
 ·exact .inr ⟨g,cap,cur,hv,hg,k g cur _ he hb,rest⟩
theorem Hass.keep {W W':World} {base:Nat} {m:List MO} {e:TypeId} (h:Hass W base m) (k:KeepE e W W') (he:(2:TypeId)≠e):Hass W' base m:=fun x hx=>ownI_keep (h x hx) k he
theorem Hass.below {W W':World} {base:Nat} {m:List MO} (h:Hass W base m) (hb:Below W.heap.size W W'):Hass W' base m:=fun x hx=>(h x hx).below hb
theorem keepE_set {W:World} {g:Nat} {cs:Array Value} {e:TypeId} (hg:W.heap[g]? = some (.cells cs e (0,0))) (i:Nat) (u:Value):KeepE e W (W.setCell ⟨g,i,none⟩ u):=fun k cur t ht hk=>by
 rw[heap_setCell_other W _ k u (by
  rintro rfl
  rw[hg]at hk
  simp at hk
  exact ht hk.2.symm)]
 exact hk
theorem OwnO.set_other {W:World} {base g:Nat} {v:Value} {m:List MO} (h:OwnO W base v m) (hg:v.ownBlock≠some g) (i:Nat) (u:Value):OwnO (W.setCell ⟨g,i,none⟩ u) base v m:=by
 obtain⟨hl,h⟩:=h
 refine⟨hl,?_⟩
 rcases h with h|⟨k,cap,cur,rfl,hk,hb,rest⟩
 ·exact .inl h
 ·refine .inr ⟨k,cap,cur,rfl,hk,?_,rest⟩
  rw[heap_setCell_other W _ k u (by
   rintro rfl
   exact hg rfl)]
  exact hb
theorem OwnO.block_lt {W:World} {base g:Nat} {v:Value} {m:List MO} (h:OwnO W base v m) (hg:W.heap.size<=g):v.ownBlock≠some g:=fun e=>by
 have:=(World.ownsRow.lt h g e).2
 omega
theorem ints_news {W:World} {B:Nat} {a:Option Addr} {l:List Int} (h:Ints W B a l):∀ d,a=some d->∀ j u,(l.map (Value.int .i64))[j]? = some u->W.cell? (d.add j)=some u:=by
 intro d hd j u hu
 have hj:j<l.length:=by
  have:=(List.getElem?_eq_some_iff.1 hu).1
  rwa[List.length_map]at this
 rcases h with rfl|⟨b,off,rfl,_,hc⟩
 ·cases hj
 ·cases hd
  rw[List.getElem?_map,List.getElem?_eq_getElem hj]at hu
  rw[Addr.add_lit,hc j hj]
  exact hu
theorem ints_oneP (l:List Int):∀ u∈l.map (Value.int .i64),u.oneCell'=true:=by
 intro u hu
 obtain⟨x,_,rfl⟩:=List.mem_map.1 hu
 rfl
theorem oths_take {m:List MO} {j:Nat} (h:j<m.length):oths (m.take (j+1))=oths (m.take j)++[m[j].1]:=by
 unfold oths
 rw[List.take_succ_eq_append_getElem h,List.map_append]
 rfl
def CopyOut (m:List MO) (base:Nat) (e:Ending) (w':World):Prop:=∃ v m',e=.returned v/\oths m'=oths m/\OwnO w' base v m'/\Hass w' base m'/\Apart m'
structure Cop (w wr:World) (m:List MO) (j:Nat) (u:Value) (m':List MO):Prop where
 os:oths m'=oths (m.take j)
 row:OwnO wr w.heap.size u m'
 has:Hass wr w.heap.size m'
 ap:Apart m'
 low:Below w.heap.size w wr
theorem Cop.len {w wr:World} {m m':List MO} {j:Nat} {u:Value} (h:Cop w wr m j u m') (hj:j<=m.length):m'.length=j:=by
 have:=congrArg List.length h.os
 rw[oths_length,oths_length,List.length_take]at this
 omega
theorem Cop.more {w wr w1 w3:World} {m m':List MO} {j:Nat} {u v1 v3:Value} {x:Oth} {l0:Value} (h:Cop w wr m j u m') (hx:oths (m.take (j+1))=oths (m.take j)++[x])
  (hz:w.heap.size<=wr.heap.size)
  (ho1:OwnI w1 (wr.heap.size+1) v1 x.has) (hb1:Below (wr.heap.size+1) (wr.alloc (.cells #[.string x.name,l0,.int .i64 x.asked,.int .i64 x.age,.int .i64 x.strikes] 86)) w1)
  (ho3:w3.ownsRow w.heap.size 86 5 v3 (m'.length+1) (cellsO m'++[.string x.name,v1,.int .i64 x.asked,.int .i64 x.age,.int .i64 x.strikes]))
  (hg3:((w1.setCell ⟨wr.heap.size,1,none⟩ v1).alloc (.cells #[.string x.name,v1,.int .i64 x.asked,.int .i64 x.age,.int .i64 x.strikes] 86)).grownBy w3 u.ownBlock):Cop w w3 m (j+1) v3 (m'++[(x,v1)]):=by
 have hz1:wr.heap.size+1<=w1.heap.size:=by have:=hb1.size;simpa using this
 have hA:Below wr.heap.size wr w1:=((Below.refl _ wr).alloc (Nat.le_refl _) _).trans (hb1.mono (Nat.le_succ _))
 have hblk:w1.heap[wr.heap.size]? = some (.cells #[.string x.name,l0,.int .i64 x.asked,.int .i64 x.age,.int .i64 x.strikes] 86 (0,0)):=(hb1.block _ (Nat.lt_succ_self _)).trans (heap_alloc_new wr _)
 have hr1:OwnO w1 w.heap.size u m':=h.row.below hA
 have hr2:=(hr1.set_other (h.row.block_lt (Nat.le_refl _)) 1 v1).alloc (.cells #[.string x.name,v1,.int .i64 x.asked,.int .i64 x.age,.int .i64 x.strikes] 86)
 have k1:=keepE_set hblk 1 v1
 have hbl2:Below (w1.setCell ⟨wr.heap.size,1,none⟩ v1).heap.size (w1.setCell ⟨wr.heap.size,1,none⟩ v1) ((w1.setCell ⟨wr.heap.size,1,none⟩ v1).alloc (.cells #[.string x.name,v1,.int .i64 x.asked,.int .i64 x.age,.int .i64 x.strikes] 86)):=(Below.refl _ _).alloc (Nat.le_refl _) _
 have k2:=KeepE.below (e:=86) hbl2
 have k3:=keepE_own hg3 hr2
 have he:(2:TypeId)≠86:=by decide
 have kk:∀ {v:Value} {l:List Int} {b:Nat},OwnI w1 b v l->OwnI w3 b v l:=fun q=>ownI_keep (ownI_keep (ownI_keep q k1 he) k2 he) k3 he
 refine⟨?_,OwnO.snoc ho3,?_,?_,?_⟩
 ·unfold oths at hx ⊢
  rw[List.map_append,hx,<-show List.map (·.1) m'=List.map (·.1) (m.take j) from h.os]
  rfl
 ·intro y hy
  rcases List.mem_append.1 hy with hy|hy
  ·exact kk ((h.has y hy).below hA)
  ·rw[List.mem_singleton.1 hy]
   exact kk (ho1.mono (Nat.le_trans hz (Nat.le_succ _)))
 ·unfold Apart
  rw[List.pairwise_append]
  refine⟨h.ap,List.pairwise_singleton _ _,fun y hy z hq g hg=>?_⟩
  rw[List.mem_singleton.1 hq]
  intro hg'
  have h1:=(World.ownsRow.lt (h.has y hy) g hg).2
  have h2:=(World.ownsRow.lt ho1 g hg').1
  omega
 ·refine(((h.low.trans (hA.mono hz)).setCell (p:=⟨wr.heap.size,1,none⟩) hz v1).alloc ?_ _).grown hg3 ?_ ?_
  ·simp
   omega
  ·simp
   omega
  ·intro k hk
   exact(World.ownsRow.lt h.row k hk).1
theorem copy_impl (a:Option Addr) (n cap:Nat) (m:List MO) (w:World) (h:Oths w w.heap.size a m) (hm:m.length=n) (hn:n<=1048576) (hsm:Small m) :
  Calls Tryz.prog 69 #[.slice a n cap] w fun e w'=>CopyOut m w.heap.size e w'/\Below w.heap.size w w':=by
 obtain⟨i0,hi0,hz0,hz1,hz2⟩:=info_parts infoI2
 obtain⟨j0,hj0,ho0,ho1,ho2⟩:=info_parts Tryz.infoOther
 have HS:=hideK h
 have HM:=hideK hm
 have HSM:=hideK hsm
 clear h hm hsm
 go_enter Tryz.func69,Tryz.ntmps69
 go_wp2_with fail
 go_loopw [3,8] (fun u jv wr=>∃ (j:Nat) (m':List MO),jv=.int .i64 j/\j<=n/\Cop w wr m j u m') (fun _ jv _=>n-(intOf jv).toNat)
 case atStart=>exact⟨0,[],rfl,Nat.zero_le _,rfl,OwnO.nil _ _,fun x hx=>absurd hx List.not_mem_nil,List.Pairwise.nil,Below.refl _ _⟩
 case round =>
  obtain⟨j,m',rfl,hj,hcop⟩:=hrel
  have CP:=hideK hcop
  have HLN:=hideK (hcop.len (by rw[HM.out];exact hj))
  have hzr:=hcop.low.size
  obtain⟨au,cu,hu,_,_⟩:=hcop.row.one
  rw[HLN.out]at hu
  subst hu
  clear hcop
  by_cases hlt:j<n
  ·have hlt':(j:Int)<(n:Int):=by omega
   have hjl:j<m.length:=by rw[HM.out];exact hlt
   obtain⟨b,off,rfl,hb,hc⟩:=HS.out.some (by omega)
   obtain⟨d0,d1,d2,d3,d4⟩:=(hc j hjl).below CP.out.low hb
   obtain⟨ax,cx,hxv,hcx,hnx,hix⟩:=HS.out.2 m[j] (List.getElem_mem hjl)
   have HIX:=hideK (hix.below CP.out.low)
   have HSX:=hideK (HSM.out m[j] (List.getElem_mem hjl))
   have HT:=hideK (oths_take hjl)
   rw[hxv]at d1
   have hkx:=HSX.out.1
   have HNX:Hid (ax=none->m[j].1.has.length=0/\cx=0):=fun h=>by have:=hnx h;omega
   generalize m[j].1=x at d0 d1 d2 d3 d4 HIX HT hkx hcx HNX
   obtain⟨nm,l,q,g,t⟩:=x
   dsimp only at d0 d1 d2 d3 d4 HIX hkx hcx HNX
   clear hc hxv HSX hjl hnx hix
   have XN:Hid ((wr.alloc (.cells #[.string nm,.slice ax l.length cx,.int .i64 q,.int .i64 g,.int .i64 t] 86)).heap[wr.heap.size]? = some (.cells #[.string nm,.slice ax l.length cx,.int .i64 q,.int .i64 g,.int .i64 t] 86 (0,0))):=heap_alloc_new wr _
   have BN:Hid (Below w.heap.size wr (wr.alloc (.cells #[.string nm,.slice ax l.length cx,.int .i64 q,.int .i64 g,.int .i64 t] 86))):=(Below.refl _ _).alloc hzr _
   have HMO:Hid (∀ (w1 w3:World) (v1 v3:Value),OwnI w1 (wr.heap.size+1) v1 l->Below (wr.heap.size+1) (wr.alloc (.cells #[.string nm,.slice ax l.length cx,.int .i64 q,.int .i64 g,.int .i64 t] 86)) w1->w3.ownsRow w.heap.size 86 5 v3 (j+1) (cellsO m'++[.string nm,v1,.int .i64 q,.int .i64 g,.int .i64 t])->((w1.setCell ⟨wr.heap.size,1,none⟩ v1).alloc (.cells #[.string nm,v1,.int .i64 q,.int .i64 g,.int .i64 t] 86)).grownBy w3 (Value.slice au j cu).ownBlock->Cop w w3 m (j+1) v3 (m'++[(⟨nm,l,q,g,t⟩,v1)])):=fun w1 w3 v1 v3 h1 h2 h3 h4=>CP.out.more (x:=⟨nm,l,q,g,t⟩) HT.out hzr h1 h2 (by rw[HLN.out];exact h3) h4
   have HRW:Hid (∀ (w1:World) (v1:Value),Below (wr.heap.size+1) (wr.alloc (.cells #[.string nm,.slice ax l.length cx,.int .i64 q,.int .i64 g,.int .i64 t] 86)) w1->((w1.setCell ⟨wr.heap.size,1,none⟩ v1).alloc (.cells #[.string nm,v1,.int .i64 q,.int .i64 g,.int .i64 t] 86)).ownsRow w.heap.size 86 5 (.slice au j cu) j (cellsO m')):=fun w1 v1 h2=>by
    have:=(((CP.out.row.below (((Below.refl _ wr).alloc (Nat.le_refl _) _).trans (h2.mono (Nat.le_succ _)))).set_other (CP.out.row.block_lt (Nat.le_refl _)) 1 v1).alloc (.cells #[.string nm,v1,.int .i64 q,.int .i64 g,.int .i64 t] 86))
    unfold OwnO at this
    rw[HLN.out]at this
    exact this
   go_upto_region 5 with fail
   have hsz1:(wr.alloc (.cells #[.string nm,.slice ax l.length cx,.int .i64 q,.int .i64 g,.int .i64 t] 86)).heap.size=wr.heap.size+1:=by simp
   have HSZ1:=hideK hsz1
   clear hsz1
   generalize wr.alloc (.cells #[.string nm,.slice ax l.length cx,.int .i64 q,.int .i64 g,.int .i64 t] 86)=W1 at XN BN HMO HRW HSZ1 ⊢
   generalize wr.heap.size=gx at XN HMO HRW HSZ1 hzr ⊢
   obtain⟨e0,e1,e2,e3,e4⟩:=cells5 XN.out
   clear d0 d1 d2 d3 d4
   generalize hkl:l.length=k at e1 hkx hcx HNX XN ⊢
   have HKL:=hideK hkl
   clear hkl
   go_wp2_with (at_builtin;refine wpList_append_opt _ rfl (.const (.slice none 0 0)) (.tmp 13) 84 rfl (gx+1) 2 i0 (.int .i64 0) 1 8 Tryz.underlying84 hi0 hz0 hz1 hz2 rfl (by decide) (.slice none 0 0) 0 [] rfl (World.ownsRow_nil _ _ _ _) ax k cx HNX.out (l.map (Value.int .i64)) rfl (by rw[List.length_map,HKL.out,Nat.mul_one]) (ints_news (HIX.out.below BN.out)) (ints_oneP _) (by unfold maxLen;omega) (by omega) (by rw[HSZ1.out];exact Nat.le_refl _) ?_)
   intro v1 w1 hown1 hgrow1 _
   have O1:Hid (OwnI w1 (gx+1) v1 l):=by
    unfold Hid OwnI
    rw[HKL.out]
    simpa using hown1
   have B1:Hid (Below (gx+1) W1 w1):=(Below.refl _ _).grown hgrow1 (by rw[HSZ1.out];exact Nat.le_refl _) (fun k hk=>by simp[Value.ownBlock]at hk)
   obtain⟨a1,c1,hv1,_,_⟩:=O1.out.ints
   rw[HKL.out]at hv1
   subst hv1
   have X1:Hid (w1.heap[gx]? = some (.cells #[.string nm,.slice ax k cx,.int .i64 q,.int .i64 g,.int .i64 t] 86 (0,0))):=(B1.out.block _ (Nat.lt_succ_self _)).trans XN.out
   obtain⟨f0,f1,f2,f3,f4⟩:=cells5 X1.out
   have ff:=frozen_of_row w1 gx 1 _ _ X1.out
   have X2:Hid ((w1.setCell ⟨gx,1,none⟩ (.slice a1 k c1)).heap[gx]? = some (.cells #[.string nm,.slice a1 k c1,.int .i64 q,.int .i64 g,.int .i64 t] 86 (0,0))):=by
    unfold Hid
    rw[heap_setCell_same w1 gx 1 _ _ _ X1.out]
    rfl
   have RW:=hideK (HRW.out w1 (.slice a1 k c1) B1.out)
   have MO1:=hideK (fun w3 v3=>HMO.out w1 w3 (.slice a1 k c1) v3 O1.out B1.out)
   have hz4:w.heap.size<=(w1.setCell ⟨gx,1,none⟩ (.slice a1 k c1)).heap.size:=by
    have:=B1.out.size
    simp
    have:=HSZ1.out
    omega
   clear hown1 hgrow1 e0 e1 e2 e3 e4
   go_upto_region 6 with fail
   generalize w1.setCell ⟨gx,1,none⟩ (.slice a1 k c1)=W2 at X2 RW MO1 hz4 ⊢
   clear f0 f1 f2 f3 f4 ff
   obtain⟨e0,e1,e2,e3,e4⟩:=cells5 X2.out
   go_wp2_with (at_builtin;refine wpList_append_own _ rfl (.tmp 16) (.tmp 18) 33 rfl w.heap.size 86 j0 _ 5 64 Tryz.underlying33 hj0 ho0 ho1 ho2 rfl (by decide) (.slice au j cu) j (cellsO m') rfl RW.out ⟨W2.heap.size,0,none⟩ 1 1 [.string nm,.slice a1 k c1,.int .i64 q,.int .i64 g,.int .i64 t] rfl rfl (five_new _ _ _ _ _ _ _) (five_one rfl rfl rfl rfl rfl) (by unfold maxLen;omega) (by omega) (by simp;omega) ?_)
   intro v3 w3 hown3 hgrow3 _
   have N3:=hideK (MO1.out w3 v3 hown3 hgrow3)
   clear hown3 hgrow3
   go_wp2_with fail
   go_roundw
   case rel=>exact⟨j+1,_,by go_num,by omega,N3.out⟩
   case measure=>simp[intOf];omega
  ·have HE:Hid (CopyOut m w.heap.size (.returned (.slice au j cu)) wr):=⟨_,m',rfl,by rw[CP.out.os,List.take_of_length_le (by rw[HM.out];omega)],CP.out.row,CP.out.has,CP.out.ap⟩
   go_wp2_with fail
   go_ret
   exact⟨HE.out,CP.out.low⟩
end Go.Proofs.YtpddanmnlkcdpaaGreatDoor.Pe


namespace Go.Proofs.YtpddanmnlkcdpaaGreatDoor.Pe
open Go.RowKit
open Kp
open Ls (HH hh_keep lV lowL blkL countN count_impl)
noncomputable def peerB (fit:Rec->Bool) (z b:Int) (r s:ByteArray) (y:Int) (l:List Oth):Bool:=keepB fit z b r s y && othsB l (countN z b r:Nat)
def peerV (z b:Int) (r s:ByteArray) (y:Int) (v:Value):Value:=.agg #[.int .i64 z,.int .i64 b,.string r,.string s,.int .i64 y,v]
def peerO (z b:Int) (r s:ByteArray) (y:Int) (v:Value):Obj:=.cells #[.int .i64 z,.int .i64 b,.string r,.string s,.int .i64 y,v] 35
def workZ:Obj:=.cells #[.slice none 0 0,.int .i64 0,.int .i64 0,.int .i64 0,.string ⟨#[]⟩,.string ⟨#[]⟩,.int .i64 0,.slice none 0 0,.slice none 0 0] 78
structure OpenP (fit:Rec->Bool) (s:ByteArray) (m:List MO) (base:Nat) (w':World) (v vo:Value) (mr:List MR) (mo:List MO):Prop where
 rs:recs mr=(allR fit s).1
 row:OwnR w' base v mr
 ps:PathsO base w' mr
 os:oths mo=oths m
 orow:OwnO w' base vo mo
 has:Hass w' base mo
 ap:Apart mo
def OpenPOut (fit:Rec->Bool) (z b:Int) (r s:ByteArray) (y:Int) (m:List MO) (base:Nat) (P:Bool) (e:Ending) (w':World):Prop :=
 (P=true/\∃ v vo mr mo,e=.returned (.tuple #[.agg #[v,.int .i64 ((allR fit s).2:Nat),.int .i64 z,.int .i64 b,.string r,.string s,.int .i64 y,vo,.slice none 0 0],.bool true])/\OpenP fit s m base w' v vo mr mo) ∨
 (P=false/\e=.returned (.tuple #[.agg #[.slice none 0 0,.int .i64 0,.int .i64 0,.int .i64 0,.string ⟨#[]⟩,.string ⟨#[]⟩,.int .i64 0,.slice none 0 0,.slice none 0 0],.bool false]))
theorem OwnO.others {W W':World} {base g:Nat} {v:Value} {m:List MO} {cs:Array Value} {T:TypeId} (h:OwnO W base v m) (hg:W.heap[g]? = some (.cells cs T (0,0))) (hT:T≠86) (hk:∀ k o,W.heap[k]? = some o->k≠g->W'.heap[k]? = some o):OwnO W' base v m:=by
 obtain⟨hl,h⟩:=h
 refine⟨hl,?_⟩
 rcases h with h|⟨k,cap,cur,hv,hkb,hb,rest⟩
 ·exact .inl h
 ·exact .inr ⟨k,cap,cur,hv,hkb,hk k _ hb (ty_ne hb hg (fun e=>hT e.symm)),rest⟩
theorem Hass.others {W W':World} {base g:Nat} {m:List MO} {cs:Array Value} {T:TypeId} (h:Hass W base m) (hg:W.heap[g]? = some (.cells cs T (0,0))) (hT:T≠2) (hk:∀ k o,W.heap[k]? = some o->k≠g->W'.heap[k]? = some o):Hass W' base m:=fun x hx=>by
 obtain⟨hl,h⟩:=h x hx
 refine⟨hl,?_⟩
 rcases h with h|⟨k,cap,cur,hv,hkb,hb,rest⟩
 ·exact .inl h
 ·exact .inr ⟨k,cap,cur,hv,hkb,hk k _ hb (ty_ne hb hg (fun e=>hT e.symm)),rest⟩
theorem OpenP.others {fit:Rec->Bool} {s:ByteArray} {m:List MO} {base g:Nat} {W W':World} {v vo:Value} {mr:List MR} {mo:List MO} {cs:Array Value} (h:OpenP fit s m base W v vo mr mo) (hg:W.heap[g]? = some (.cells cs 78 (0,0))) (hk:∀ k o,W.heap[k]? = some o->k≠g->W'.heap[k]? = some o):OpenP fit s m base W' v vo mr mo :=
 ⟨h.rs,h.row.others hg (by decide) hk,h.ps.keeps (KeepsS.others hg (by decide) hk),h.os,h.orow.others hg (by decide) hk,h.has.others hg (by decide) hk,h.ap⟩
theorem OpenP.call {fit:Rec->Bool} {s:ByteArray} {m:List MO} {base:Nat} {W W':World} {v vo:Value} {mr:List MR} {mo:List MO} (h:OpenP fit s m base W v vo mr mo) (hb:Below W.heap.size W W'):OpenP fit s m base W' v vo mr mo :=
 ⟨h.rs,h.row.below hb,h.ps.keeps (KeepsS.below hb),h.os,h.orow.below hb,h.has.below hb,h.ap⟩
theorem openPeer_impl (fit:Rec->Bool) (z b:Int) (r s:ByteArray) (y:Int) (a:Option Addr) (n cap:Nat) (m:List MO) (w:World) (hs:s.size<=1048576) (hh:HH w) (hf:FitC fit z b r w) (h:Oths w w.heap.size a m) (hm:m.length=n) (hn:n<=1048576) (hsm:Small m) :
  Calls Tryz.prog 33 #[peerV z b r s y (.slice a n cap)] w fun e w'=>OpenPOut fit z b r s y m w.heap.size (peerB fit z b r s y (oths m)) e w'/\Below w.heap.size w w':=by
 have C0:=hideK (((Cx.nil w).new (peerO z b r s y (.slice a n cap))).new workZ)
 simp only[World.size_alloc]at C0
 have HO:=hideK (fun W (h:Below w.heap.size w W)=>openKeep_any fit z b r s y W hs (hh_keep hh h) (hf.later h))
 have HR:=hideK (fun g v W h=>right_any g v (allR fit s).2 z b r s y W h)
 change Hid (∀ g v W h,Calls _ _ _ W fun e w'=>e=.returned (.bool (keepB fit z b r s y))/\_) at HR
 have HCO:=hideK (fun W=>count_impl z b r W)
 have HOT:=hideK (fun c W (hW:Below w.heap.size w W)=>others_impl a n cap m c W ((h.below hW).mono hW.size) hm hn hsm)
 have HCP:=hideK (fun W (hW:Below w.heap.size w W)=>copy_impl a n cap m W ((h.below hW).mono hW.size) hm hn hsm)
 have HPB:Hid (peerB fit z b r s y (oths m)=(keepB fit z b r s y && othsB (oths m) (countN z b r:Nat))):=rfl
 generalize peerB fit z b r s y (oths m)=P at HPB ⊢
 have hmx:=mixedK
 clear hh hf h hsm
 unfold OpenOut at HO
 unfold lV at HCO
 unfold kV at HO
 unfold peerV
 unfold peerO workZ at C0
 go_enter Tryz.func33,Tryz.ntmps33
 go_wp2_with fail
 generalize (w.alloc _).alloc _=W0 at C0 ⊢
 generalize hgk:w.heap.size=gk at C0 ⊢
 have HGK:=hideK hgk
 clear hgk
 refine(HO.out _ C0.out.low).mono ?_
 rintro e w1 ⟨⟨v,mr,rfl,h1,h2,h3⟩,hb⟩
 obtain⟨a0,cap0,hv⟩:=h2.one
 subst hv
 have C1:=hideK ((C0.out.call hb).new (wkB (.slice a0 mr.length cap0) (allR fit s).2 z b r s y))
 have OW:=hideK ((h2.mono C0.out.low.size).alloc (wkB (.slice a0 mr.length cap0) (allR fit s).2 z b r s y))
 have PS:=hideK ((h3.mono C0.out.low.size).keeps (KeepsS.below ((Below.refl _ _).alloc (Nat.le_refl _) (wkB (.slice a0 mr.length cap0) (allR fit s).2 z b r s y))))
 have RS:=hideK h1
 clear hb h1 h2 h3 HO C0
 unfold wkB at C1 OW PS
 go_upto_region 2 with fail
 generalize w1.alloc _=W1 at C1 OW PS ⊢
 generalize w1.heap.size=gw at C1 ⊢
 have HR1:=hideK (fun W' (hW:Below W1.heap.size W1 W')=>HR.out gw _ W' ((hW.block gw (lt_rowK (C1.out.get 0 rfl))).trans (C1.out.get 0 rfl)))
 clear HR
 obtain⟨p0,p1,p2,p3,p4,p5⟩:=cellsP6 (C1.out.get 2 rfl)
 have g0:=fun d os=>cell_regrown p0 d os
 have g1:=fun d os=>cell_regrown p1 d os
 have g2:=fun d os=>cell_regrown p2 d os
 have g5:=fun d os=>cell_regrown p5 d os
 cases hk:keepB fit z b r s y with
 |false =>
  rw[hk]at HR1
  have HP:Hid (P=false):=by unfold Hid;rw[HPB.out,hk];rfl
  clear hk HPB
  refine wp_region_quiet_below (by assumption) (by kernel_rfl) ?_
  repeat (go_big_quiet_step ((go_at_call 66;exact Calls.regrown_of (HR1.out _ (below_regrown _ _ _)))))
  refine wpQuiet_nil ?_
  intro _ hw'
  obtain⟨⟨dq,osq⟩,hw''⟩:=hw'
  subst hw''
  have C2:=hideK (C1.out.call (below_regrown W1 dq osq))
  generalize Go.Sort.grow (redrawn W1 dq) osq=w8 at C2 ⊢
  clear g0 g1 g2 g5 p0 p1 p2 p3 p4 p5 C1
  obtain⟨q0,q1,q2,q3,q4,q5,q6,q7,q8⟩:=cellsP9 (C2.out.get 1 rfl)
  have ff:=fun o=>frozen_of_row w8 (gk+1) o _ _ (C2.out.get 1 rfl)
  have s9:=cellsP9 (setP9 (C2.out.get 1 rfl) (.slice none 0 0) (.int .i64 0) (.int .i64 0) (.int .i64 0) (.string ⟨#[]⟩) (.string ⟨#[]⟩) (.int .i64 0) (.slice none 0 0) (.slice none 0 0))
  have E9:=hideK (setP9_low C2.out.low (g:=gk+1) (by have:=HGK.out;omega) (.slice none 0 0) (.int .i64 0) (.int .i64 0) (.int .i64 0) (.string ⟨#[]⟩) (.string ⟨#[]⟩) (.int .i64 0) (.slice none 0 0) (.slice none 0 0))
  go_wp2_with fail
  exact bodyPost_ret (v:=.tuple #[.agg #[.slice none 0 0,.int .i64 0,.int .i64 0,.int .i64 0,.string ⟨#[]⟩,.string ⟨#[]⟩,.int .i64 0,.slice none 0 0,.slice none 0 0],.bool false]) (by simp[results,Tryz.results33,go_sem,s9.1,s9.2.1,s9.2.2.1,s9.2.2.2.1,s9.2.2.2.2.1,s9.2.2.2.2.2.1,s9.2.2.2.2.2.2.1,s9.2.2.2.2.2.2.2.1,s9.2.2.2.2.2.2.2.2]) rfl ⟨.inr ⟨HP.out,rfl⟩,E9.out⟩
 |true =>
  rw[hk]at HR1
  generalize hco:countN z b r=cn at HCO HPB
  cases ho:othsB (oths m) (cn:Nat) with
  |false =>
   have HOT1:=hideK (fun W hW=>HOT.out (cn:Nat) W hW)
   rw[ho]at HOT1
   have HP:Hid (P=false):=by unfold Hid;rw[HPB.out,hk,ho];rfl
   clear hk HPB ho hco HOT HCP
   refine wp_region_quiet_below (by assumption) (by kernel_rfl) ?_
   repeat (go_big_quiet_step ((first|(go_at_call 66;exact Calls.regrown_of (HR1.out _ (below_regrown _ _ _)))|(go_at_call 68;exact Calls.regrown_of (HCO.out _))|(go_at_call 67;exact Calls.regrown_of (HOT1.out _ (lowL C1.out.low (below_regrown _ _ _)))))))
   refine wpQuiet_nil ?_
   intro _ hw'
   obtain⟨⟨dq,osq⟩,hw''⟩:=hw'
   subst hw''
   have C2:=hideK (C1.out.call (below_regrown W1 dq osq))
   generalize Go.Sort.grow (redrawn W1 dq) osq=w8 at C2 ⊢
   clear g0 g1 g2 g5 p0 p1 p2 p3 p4 p5 C1
   obtain⟨q0,q1,q2,q3,q4,q5,q6,q7,q8⟩:=cellsP9 (C2.out.get 1 rfl)
   have ff:=fun o=>frozen_of_row w8 (gk+1) o _ _ (C2.out.get 1 rfl)
   have s9:=cellsP9 (setP9 (C2.out.get 1 rfl) (.slice none 0 0) (.int .i64 0) (.int .i64 0) (.int .i64 0) (.string ⟨#[]⟩) (.string ⟨#[]⟩) (.int .i64 0) (.slice none 0 0) (.slice none 0 0))
   have E9:=hideK (setP9_low C2.out.low (g:=gk+1) (by have:=HGK.out;omega) (.slice none 0 0) (.int .i64 0) (.int .i64 0) (.int .i64 0) (.string ⟨#[]⟩) (.string ⟨#[]⟩) (.int .i64 0) (.slice none 0 0) (.slice none 0 0))
   go_wp2_with fail
   exact bodyPost_ret (v:=.tuple #[.agg #[.slice none 0 0,.int .i64 0,.int .i64 0,.int .i64 0,.string ⟨#[]⟩,.string ⟨#[]⟩,.int .i64 0,.slice none 0 0,.slice none 0 0],.bool false]) (by simp[results,Tryz.results33,go_sem,s9.1,s9.2.1,s9.2.2.1,s9.2.2.2.1,s9.2.2.2.2.1,s9.2.2.2.2.2.1,s9.2.2.2.2.2.2.1,s9.2.2.2.2.2.2.2.1,s9.2.2.2.2.2.2.2.2]) rfl ⟨.inr ⟨HP.out,rfl⟩,E9.out⟩
  |true =>
   have HOT1:=hideK (fun W hW=>HOT.out (cn:Nat) W hW)
   rw[ho]at HOT1
   have HP:Hid (P=true):=by unfold Hid;rw[HPB.out,hk,ho];rfl
   clear hk HPB ho hco HOT
   refine wp_region_quiet_below (by assumption) (by kernel_rfl) ?_
   repeat (go_big_quiet_step ((first|(go_at_call 66;exact Calls.regrown_of (HR1.out _ (below_regrown _ _ _)))|(go_at_call 68;exact Calls.regrown_of (HCO.out _))|(go_at_call 67;exact Calls.regrown_of (HOT1.out _ (lowL C1.out.low (below_regrown _ _ _)))))))
   refine wpQuiet_nil ?_
   intro _ hw'
   obtain⟨⟨dq,osq⟩,hw''⟩:=hw'
   subst hw''
   have C2:=hideK (C1.out.call (below_regrown W1 dq osq))
   have OW2:=hideK (OW.out.below (below_regrown W1 dq osq))
   have PS2:=hideK (PS.out.keeps (KeepsS.below (below_regrown W1 dq osq)))
   generalize Go.Sort.grow (redrawn W1 dq) osq=w8 at C2 OW2 PS2 ⊢
   clear g0 g1 g2 g5 p0 p1 p2 p3 p4 p5 C1 OW PS HR1 HOT1 HCO
   obtain⟨p0,p1,p2,p3,p4,p5⟩:=cellsP6 (C2.out.get 2 rfl)
   obtain⟨k0,k1,k2,k3,k4,k5,k6⟩:=cells7 (C2.out.get 0 rfl)
   have HFIN:Hid (∀ (w5:World) (ao:Option Addr) (mo:List MO) (co:Nat),Below w8.heap.size w8 w5->oths mo=oths m->OwnO w5 w8.heap.size (.slice ao mo.length co) mo->Hass w5 w8.heap.size mo->Apart mo->Cx w w5 [(gw,.cells #[.slice a0 mr.length cap0,.int .i64 ((allR fit s).2:Nat),.int .i64 z,.int .i64 b,.string r,.string s,.int .i64 y] 76),(gk+1,.cells #[.slice none 0 0,.int .i64 0,.int .i64 0,.int .i64 0,.string ⟨#[]⟩,.string ⟨#[]⟩,.int .i64 0,.slice none 0 0,.slice none 0 0] 78),(gk,.cells #[.int .i64 z,.int .i64 b,.string r,.string s,.int .i64 y,.slice a n cap] 35)]/\OpenP fit s m w.heap.size w5 (.slice a0 mr.length cap0) (.slice ao mo.length co) mr mo):=fun w5 ao mo co hb h1 h2 h3 h4 =>
    ⟨C2.out.call hb,RS.out,OW2.out.below hb,PS2.out.keeps (KeepsS.below hb),h1,h2.mono C2.out.low.size,fun x hx=>(h3 x hx).mono C2.out.low.size,h4⟩
   have HCP1:Hid (∀ W,Below w8.heap.size w8 W->Calls Tryz.prog 69 #[.slice a n cap] W fun e w'=>CopyOut m W.heap.size e w'/\Below W.heap.size W w'):=fun W hW=>HCP.out W (lowL C2.out.low hW)
   clear HCP
   go_wp2_with fail
   go_region_with ((go_at_call 69;refine(HCP1.out _ ((Below.refl _ w8).drew)).mono ?_;rintro e w5 ⟨⟨vo,mo,rfl,h1,h2,h3,h4⟩,hb⟩;obtain⟨ao,co,hvo,_,_⟩:=h2.one;subst hvo;obtain⟨C5,OP5⟩:=HFIN.out w5 ao mo co (lowL ((Below.refl _ w8).drew) hb) h1 h2 h3 h4;have CC5:=hideK C5;have OO5:=hideK OP5;clear hb h1 h2 h3 h4 C5 OP5;obtain⟨l0,l1,l2,l3,l4,l5,l6⟩:=cells7 (CC5.out.get 0 rfl);obtain⟨q0,q1,q2,q3,q4,q5,q6,q7,q8⟩:=cellsP9 (CC5.out.get 1 rfl);have ff:=fun o=>frozen_of_row w5 (gk+1) o _ _ (CC5.out.get 1 rfl)))
   all_goals (
    have s9:=cellsP9 (setP9 (CC5.out.get 1 rfl) (.slice a0 mr.length cap0) (.int .i64 ((allR fit s).2:Nat)) (.int .i64 z) (.int .i64 b) (.string r) (.string s) (.int .i64 y) (.slice ao mo.length co) (.slice none 0 0))
    have E9:=hideK (setP9_low CC5.out.low (g:=gk+1) (by have:=HGK.out;omega) (.slice a0 mr.length cap0) (.int .i64 ((allR fit s).2:Nat)) (.int .i64 z) (.int .i64 b) (.string r) (.string s) (.int .i64 y) (.slice ao mo.length co) (.slice none 0 0))
    have O9:=hideK (OO5.out.others (CC5.out.get 1 rfl) (fun k o hk hne=>setP9_keep (g:=gk+1) hk hne (.slice a0 mr.length cap0) (.int .i64 ((allR fit s).2:Nat)) (.int .i64 z) (.int .i64 b) (.string r) (.string s) (.int .i64 y) (.slice ao mo.length co) (.slice none 0 0)))
    go_wp2_with fail
    exact bodyPost_ret (v:=.tuple #[.agg #[.slice a0 mr.length cap0,.int .i64 ((allR fit s).2:Nat),.int .i64 z,.int .i64 b,.string r,.string s,.int .i64 y,.slice ao mo.length co,.slice none 0 0],.bool true]) (by simp[results,Tryz.results33,go_sem,s9.1,s9.2.1,s9.2.2.1,s9.2.2.2.1,s9.2.2.2.2.1,s9.2.2.2.2.2.1,s9.2.2.2.2.2.2.1,s9.2.2.2.2.2.2.2.1,s9.2.2.2.2.2.2.2.2]) rfl ⟨.inl ⟨HP.out,_,_,mr,mo,rfl,O9.out⟩,E9.out⟩)
end Go.Proofs.YtpddanmnlkcdpaaGreatDoor.Pe


/- Rows of the call's own, and blocks of other element types. -/
namespace Go.Proofs.YtpddanmnlkcdpaaGreatDoor.Pl
open Go.RowKit
open Kp
open In (Ints OwnI)
open Ap (KeepE keepE_own)
theorem own_ne_ty {W:World} {base n k g:Nat} {e:TypeId} {v:Value} {xs:List Value} {cs:Array Value} {T:TypeId} (h:W.ownsRow base e k v n xs) (hg:W.heap[g]? = some (.cells cs T (0,0))) (hT:T≠e):v.ownBlock≠some g:=fun hk=>by
 obtain⟨_,h⟩:=h
 rcases h with⟨rfl,_⟩|⟨k,cap,cur,rfl,_,hb,_⟩
 ·simp[Value.ownBlock]at hk
 ·simp[Value.ownBlock]at hk
  subst hk
  exact ty_ne hg hb hT rfl
theorem own_others {W W':World} {base n k g:Nat} {e:TypeId} {v:Value} {xs:List Value} {cs:Array Value} {T:TypeId} (h:W.ownsRow base e k v n xs) (hg:W.heap[g]? = some (.cells cs T (0,0))) (hT:T≠e) (hk:∀ k o,W.heap[k]? = some o->k≠g->W'.heap[k]? = some o):W'.ownsRow base e k v n xs:=by
 obtain⟨hl,h⟩:=h
 refine⟨hl,?_⟩
 rcases h with h|⟨q,cap,cur,hv,hkb,hb,rest⟩
 ·exact .inl h
 ·exact .inr ⟨q,cap,cur,hv,hkb,hk q _ hb (ty_ne hb hg (fun e=>hT e.symm)),rest⟩
end Go.Proofs.YtpddanmnlkcdpaaGreatDoor.Pl


/- A tick in plain words: who has an index, who is asked for it, the rarest. -/
namespace Go.Proofs.YtpddanmnlkcdpaaGreatDoor.Tk
open Pe
def ownN (l:List Oth) (x:Int):Nat:=(l.filter fun o=>decide (x∈o.has)).length
def askB (l:List Oth) (x:Int):Bool:=l.any fun o=>decide (o.asked=x+1)
def candB (h:List Int) (l:List Oth) (rs:List Int) (x:Int):Bool:=decide (x∈h) && !decide (x∈rs) && !askB l x
def rareS (h:List Int) (l:List Oth) (rs:List Int) (acc:Option (Int × Nat)) (x:Int):Option (Int × Nat) :=
 if candB h l rs x=true then (match acc with|none=>some (x,ownN l x)|some (y,q)=>if ownN l x<q then some (x,ownN l x) else some (y,q)) else acc
def turnL (d:Int) (c n:Nat):List Int:=(List.range n).map fun (i:Nat)=>(d+(i:Int))%(c:Int)
def rareZ (h:List Int) (l:List Oth) (rs:List Int) (d:Int) (c n:Nat):Option (Int × Nat):=(turnL d c n).foldl (rareS h l rs) none
def oldO (o:Oth):Oth:=if o.asked=0 then o else if 3<o.age+1 then { o with asked:=0,age:=0 } else { o with age:=o.age+1 }
end Go.Proofs.YtpddanmnlkcdpaaGreatDoor.Tk


/- slices.Delete of one number out of a row of the call's own. -/
namespace Go.Proofs.YtpddanmnlkcdpaaGreatDoor.Hr
open Go.RowKit Go.Shelf
open Go.Sort (grow putRow putCells)
open In (OwnI)
shelf_lay_g SlLaysN.n45 Slgn 45 at Tryz 188 as Tryz.delI
theorem delete_any (base:Nat) (v:Value) (l:List Int) (i:Nat) (w:World) (h:OwnI w base v l) (hi:i<l.length) (hn:l.length<=1048576) :
  Calls Tryz.prog 188 #[v,.int .i64 i,.int .i64 ((i:Int)+1)] w fun e w'=>∃ v',e=.returned v'/\OwnI w' base v' (l.eraseIdx i)/\w.grownBy w' v.ownBlock/\v'.ownBlock=v.ownBlock:=by
 obtain⟨hl,h⟩:=h
 rcases h with⟨rfl,h0⟩|⟨g,cap,cur,rfl,hbase,hb,h1,h2,h3,h4⟩
 ·omega
 ·refine(AnyG.slices_Delete_int Tryz.delI g 0 cap i (i+1) l w (holds_of_blockI hb (by simpa using h4)) h1 (by unfold maxLen at h2;omega) (by omega) hi).mono ?_
  rintro e w' ⟨rfl,q,rfl⟩
  have hel:(l.eraseIdx i).length=l.length-1:=by rw[List.length_eraseIdx,if_pos hi]
  have hes:l.eraseIdx i=l.take i++l.drop (i+1):=List.eraseIdx_eq_take_drop_succ ..
  rw[show l.length-(i+1-i)=(l.eraseIdx i).length by omega,<-hes]
  generalize hts:l.eraseIdx i++List.replicate (i+1-i) 0=ts
  have htl:ts.length=l.length:=by rw[<-hts,List.length_append,List.length_replicate,hel];omega
  have hbk:=heap_sortedI (w:=w) (n:=q) (os:=#[]) ts.toArray hb
  have hgr:=grownBy_sortedI (w:=w) (g:=g) (n:=q) (os:=#[]) ts.toArray
  rw[Go.Sort.grow_empty]at hbk hgr
  refine⟨_,rfl,?_,hgr,rfl⟩
  unfold OwnI
  refine⟨by simp,.inr ⟨g,cap,_,rfl,hbase,hbk,by omega,h2,by simp[putCells,h3],?_⟩⟩
  have hk:=take_putCellsI cur ts (by omega)
  have:((putCells (Value.int .i64) 0 ts.toArray cur).toList.take ts.length).take (l.eraseIdx i).length=(l.eraseIdx i).map (Value.int .i64):=by
   rw[hk,<-List.map_take,<-hts,List.take_left]
  rw[List.take_take,Nat.min_eq_left (by omega)]at this
  simpa using this
end Go.Proofs.YtpddanmnlkcdpaaGreatDoor.Hr

