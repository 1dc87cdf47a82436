/- Texts put together: KpFits, LsFitsS, KpFit, PeLaw. -/
import Derived.Test.YtikiihjabbmkcaaGreatDoorBz33
import Derived.Test.YtikiihjabbmkcaaGreatDoorBz44
import Derived.BigQuiet
import Derived.Deep.QuietTactic
import Derived.Test.YtikiihjabbmkcaaGreatDoorBz41
import Derived.Test.YtikiihjabbmkcaaGreatDoorBz43
import Derived.Test.YtikiihjabbmkcaaGreatDoorBz42
set_option maxRecDepth 100000
set_option maxHeartbeats 8000000
namespace Go.Proofs.YtikiihjabbmkcaaGreatDoor.Kp
open Go.RowKit
open Ls (cells3 fitsB fits_impl lV vars_keepF)
open Sh (Vars)
open St (Strs)
def fitR (z b:Int) (r:ByteArray) (x:Rec):Bool:=decide (x.2.2.length<=20) && fitsB z b r x.1 x.2.1 x.2.2
theorem fit_long {z b:Int} {r:ByteArray} {x:Rec} (h:¬x.2.2.length<=20):fitR z b r x=false:=by
 unfold fitR
 rw[decide_eq_false h,Bool.false_and]
theorem fit_short {z b:Int} {r:ByteArray} {x:Rec} (h:x.2.2.length<=20):fitR z b r x=fitsB z b r x.1 x.2.1 x.2.2:=by
 unfold fitR
 rw[decide_eq_true h,Bool.true_and]
theorem fits_rec (z b:Int) (r:ByteArray) (x:MR) (w:World) (ht:x.1.2.1.size<=maxLen) (hp:x.1.2.2.length<=1048576) (hs:∃ a cap,x.2=.slice a x.1.2.2.length cap/\x.1.2.2.length<=cap/\Strs w w.heap.size a x.1.2.2) (hV:Vars w) :
  Calls Tryz.prog 85 #[.agg #[.int .i64 x.1.1,.string x.1.2.1,x.2],lV z b r] w fun e w'=>e=.returned (.bool (fitR z b r x.1))/\Below w.heap.size w w':=by
 obtain⟨⟨i,t,p⟩,v⟩:=x
 obtain⟨a,cap,hv,hc,hst⟩:=hs
 dsimp only at ht hp hv hc hst ⊢
 subst hv
 obtain⟨n,hn⟩:∃ n,n=p.length:=⟨_,rfl⟩
 have C0:=hideK (((Cx.nil w).new (.cells #[.int .i64 i,.string t,.slice a p.length cap] 130)).new (.cells #[.int .i64 z,.int .i64 b,.string r] 29))
 have HF:=hideK (fun (W:World) (hW:Below w.heap.size w W)=>fits_impl z b r i t p a cap n W ht hn (by omega) (by omega) ((hst.below hW).mono hW.size) (vars_keepF hV hW))
 have HL:=hideK (fun h=>fit_long (z:=z) (b:=b) (r:=r) (x:=(i,t,p)) h)
 have HS:=hideK (fun h=>fit_short (z:=z) (b:=b) (r:=r) (x:=(i,t,p)) h)
 dsimp only at HL HS
 rw[<-hn]at C0 HL HS ⊢
 clear hst hV hn hc
 unfold lV at HF ⊢
 by_cases h20:n<=20
 ·have h20':(n:Int)<=20:=by omega
  have HQ:=hideK (HS.out h20)
  rw[HQ.out]
  generalize fitsB z b r i t p=Q at HF ⊢
  clear HQ HL HS
  go_enter Tryz.func85,Tryz.ntmps85
  go_wp2_with fail
  refine(HF.out _ C0.out.low).mono ?_
  rintro e w1 ⟨rfl,hb⟩
  have B1:=hideK (C0.out.call hb).low
  clear hb C0
  go_wp2_with fail
  go_ret
  exact⟨rfl,B1.out⟩
 ·have HQ:=hideK (HL.out h20)
  rw[HQ.out]
  have h20':decide ((n:Int)<=20)=false:=by simp;omega
  clear HF HQ HL HS
  go_enter Tryz.func85,Tryz.ntmps85
  go_wp2_with fail
  go_ret
  exact⟨rfl,C0.out.low⟩
end Go.Proofs.YtikiihjabbmkcaaGreatDoor.Kp


namespace Go.Proofs.YtikiihjabbmkcaaGreatDoor.Ls
open Go.RowKit
open Bk (cnt count_any)
open Bi (is_yes is_no)
open Tr (inclB incl_spec)
open Sh (leafR leafV leafR_yes l03Leaf_any)
open St (Strs)
theorem calls_below {P:Program} {f:FuncId} {args:Array Value} {W:World} {v:Value} (h:Calls P f args W fun e w'=>e=.returned v/\w'=W):Calls P f args W fun e w'=>e=.returned v/\Below W.heap.size W w' :=
 h.mono fun e w' q=>⟨q.1,by rw[q.2];exact Below.refl _ _⟩
theorem calls_drew {P:Program} {f:FuncId} {args:Array Value} {W:World} {v:Value} (h:Calls P f args W fun e w'=>e=.returned v/\w'=W):Calls P f args W fun e w'=>e=.returned v/\∃ n,w'=W.drewN n :=
 h.mono fun _ _ q=>⟨q.1,0,q.2⟩
theorem l07Fits_spec (q k:Nat) (r:ByteArray) (i:Int) (t:ByteArray) (p:List ByteArray) (a:Option Addr) (cap m:Nat) (w:World) (hr:rightB q k r=true) (ht:t.size<=8000) (hm:m=p.length) (hp:m<=1048576) (hs:Strs w w.heap.size a p) :
  Calls Tryz.prog 83 #[lV q k r,.int .i64 i,.string t,.slice a m cap] w fun e w'=>e=.returned (.bool (fitsB q k r i t p))/\Below w.heap.size w w':=by
 have h:=rightB_yes hr
 have HA:Hid (Below w.heap.size w (w.alloc (.cells #[.int .i64 q,.int .i64 k,.string r] 29))):=(Below.refl _ _).alloc (Nat.le_refl _) _
 have HX:Hid ((w.alloc (.cells #[.int .i64 q,.int .i64 k,.string r] 29)).heap[w.heap.size]? = some (.cells #[.int .i64 q,.int .i64 k,.string r] 29 (0,0))):=heap_alloc_new w _
 have HC:=hideL (fun W=>calls_below (count_any q k W (by omega) (by omega) (by omega)))
 have HCq:=hideL (fun W=>calls_drew (count_any q k W (by omega) (by omega) (by omega)))
 obtain⟨hcn,hcl⟩:=countN_yes hr
 have HL:=hideL (fun W=>l03Leaf_any t W ht)
 have HFE:Hid (fitsB q k r i t p=inclB (leafR t) i ((cnt q k:Nat):Int) p r):=by unfold Hid fitsB;rw[hcn]
 have HI:Hid (∀ W,Below w.heap.size w W->Calls Tryz.prog 123 #[.string (leafV t),.int .i64 i,.int .i64 (cnt q k:Nat),.slice a m cap,.string r] W fun e w'=>e=.returned (.bool (inclB (leafV t) i ((cnt q k:Nat):Int) p r))/\Below W.heap.size W w'):=fun W h=>by
  have:=incl_spec (leafV t) r i (cnt q k:Nat) p a cap W.heap.size W (by omega) (by omega) ((hs.below h).mono h.size) (Nat.le_refl _)
  rw[<-hm]at this
  exact this
 have hmx:=mixedF
 clear hs hm hr h hcn
 generalize cnt q k=cn at HC HCq HI HFE hcl
 have hsub:IntKind.i64.wrap ((cn:Int)-1)=(cn:Int)-1:=by rw[IntKind.wrap_i64];omega
 by_cases hi:0<=i/\i<=(cn:Int)-1
 ·have HIS:=hideL (fun W=>calls_below (is_yes i 0 ((cn:Int)-1) W hi.1 hi.2))
  have HISq:=hideL (fun W=>calls_drew (is_yes i 0 ((cn:Int)-1) W hi.1 hi.2))
  by_cases h1:t.size<=100
  ·have HQ:Hid (fitsB q k r i t p=inclB (leafV t) i ((cn:Nat):Int) p r):=by rw[HFE.out,leafR_yes t (by omega)];rfl
   have h1':decide ((t.size:Int)<=100)=true:=by simp;omega
   have h1i:(t.size:Int)<=100:=by omega
   rw[HQ.out]
   clear HQ HFE hi
   generalize inclB (leafV t) i ((cn:Nat):Int) p r=Q at HI ⊢
   generalize leafV t=lf at HI HL
   unfold lV
   go_enter Tryz.func83,Tryz.ntmps83
   go_wp2_with fail
   generalize hww:w.alloc (.cells #[.int .i64 q,.int .i64 k,.string r] 29)=wa at HA HX ⊢
   clear hww
   obtain⟨c0,c1,c2⟩:=cells3 HX.out
   generalize w.heap.size=gx at c0 c1 c2 ⊢
   have g0:=fun d os=>cell_regrown c0 d os
   have g1:=fun d os=>cell_regrown c1 d os
   have g2:=fun d os=>cell_regrown c2 d os
   refine wp_region_quiet_below (by assumption) (by kernel_rfl) ?_
   repeat (quiet_step (first|(go_at_call 92;exact Calls.regrown_of (HC.out _))|(go_at_call 74;exact Calls.regrown_of (HIS.out _))|(go_at_call 124;exact Calls.regrown_of (HL.out _))|(go_at_call 123;exact Calls.regrown_of (HI.out _ (lowL HA.out (below_regrown _ _ _))))))
   refine wpQuiet_nil ?_
   intro _ hw'
   obtain⟨⟨dq,osq⟩,hw''⟩:=hw'
   subst hw''
   have KQ:=hideL (below_regrown wa dq osq)
   generalize Go.Sort.grow (redrawn wa dq) osq=w8 at KQ ⊢
   clear g0 g1 g2 c0 c1 c2
   go_wp2_with fail
   go_ret
   exact⟨rfl,lowL HA.out KQ.out⟩
  ·have HQ:=hideL (fits_piece (z:=q) (b:=k) (r:=r) (i:=i) (p:=p) (t:=t) (by omega))
   have h1d:decide ((t.size:Int)<=100)=false:=by simp;omega
   have h1n:decide (t.size<=100)=false:=by simp;omega
   have h1i:¬(t.size:Int)<=100:=by omega
   rw[HQ.out]
   clear HQ HFE hi HI HL
   unfold lV
   go_enter Tryz.func83,Tryz.ntmps83
   go_wp2_with fail
   generalize hww:w.alloc (.cells #[.int .i64 q,.int .i64 k,.string r] 29)=wa at HA HX ⊢
   clear hww
   obtain⟨c0,c1,c2⟩:=cells3 HX.out
   generalize w.heap.size=gx at c0 c1 c2 ⊢
   go_quiet (first|(go_at_call 92;refine Calls.quiet_of (HCq.out _))|(go_at_call 74;refine Calls.quiet_of (HISq.out _)))
   all_goals (try go_wp2_with fail)
   all_goals go_ret
   all_goals exact⟨rfl,lowL HA.out (below_drewN (Below.refl _ _) _)⟩
 ·have HQ:Hid (fitsB q k r i t p=false):=by rw[HFE.out];exact inclB_range (by omega)
  have HISq:Hid (∀ W,_):=fun W=>calls_drew (is_no i 0 ((cn:Int)-1) W (by omega))
  rw[HQ.out]
  clear HQ HFE hi HI HL
  unfold lV
  go_enter Tryz.func83,Tryz.ntmps83
  go_wp2_with fail
  generalize hww:w.alloc (.cells #[.int .i64 q,.int .i64 k,.string r] 29)=wa at HA HX ⊢
  clear hww
  obtain⟨c0,c1,c2⟩:=cells3 HX.out
  generalize w.heap.size=gx at c0 c1 c2 ⊢
  go_quiet (first|(go_at_call 92;refine Calls.quiet_of (HCq.out _))|(go_at_call 74;refine Calls.quiet_of (HISq.out _)))
  all_goals (try go_wp2_with fail)
  all_goals go_ret
  all_goals exact⟨rfl,lowL HA.out (below_drewN (Below.refl _ _) _)⟩
end Go.Proofs.YtikiihjabbmkcaaGreatDoor.Ls


/- What fits: the contracts of both sides at every record. -/
namespace Go.Proofs.YtikiihjabbmkcaaGreatDoor.Kp
open Go.RowKit
open Ls (rightB rightB_yes lV vars_keepF l07Fits_spec fitsB fits_piece countN_le)
open Tr (inclB wide_yes)
open Sh (Vars)
theorem fitC_of (z b:Int) (r:ByteArray) (w:World) (hV:Vars w):FitC (fitR z b r) z b r w:=fun W x hW h1 h2 h3 =>
 fits_rec z b r x W (by unfold maxLen;omega) (by omega) h3 (vars_keepF hV hW)
theorem fitS_of (z b:Int) (r:ByteArray) (w:World) (hr:rightB z b r=true):FitS (fitR z b r) z b r w:=fun W x hW h1 h2 h3=>by
 have h4:=rightB_yes hr
 obtain⟨p,rfl⟩:=Int.eq_ofNat_of_zero_le h4.1
 obtain⟨k,rfl⟩:=Int.eq_ofNat_of_zero_le (show 0<=b by omega)
 obtain⟨a,cap,hv,hc,hst⟩:=h3
 rw[hv,fit_short h2]
 exact l07Fits_spec p k r x.1.1 x.1.2.1 x.1.2.2 a cap x.1.2.2.length W hr h1 rfl (by omega) hst
end Go.Proofs.YtikiihjabbmkcaaGreatDoor.Kp


/- What the laws over a Peer have in common. -/
namespace Go.Proofs.YtikiihjabbmkcaaGreatDoor.Pe
open Go.RowKit
open Kp
open Ls (HH hh_keep lV rightB vars_keepF lowL)
open Sh (Vars)
theorem small_lens {m:List MO} {K:Nat} (h:K+tot (oths m)<=1048576) (hl:Lens m):Small m:=fun x hx=>by
 have h1:=cost_le hx
 have h2:=hl x hx
 unfold cost at h1
 exact⟨by omega,h2.2⟩
end Go.Proofs.YtikiihjabbmkcaaGreatDoor.Pe

