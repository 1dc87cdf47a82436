/- Texts put together: KpFits, LsFitsS, KpFit, UnpackLaw, LfImpl, LfSpec, KpFile. -/
import Derived.Test.YtkgjfdanjmnmbaaGreatDoorOz43
import Derived.Test.YtkgjfdanjmnmbaaGreatDoorOz46
import Derived.BigQuiet
import Derived.Deep.QuietTactic
import Derived.Test.YtkgjfdanjmnmbaaGreatDoorOz44
import Derived.Test.YtkgjfdanjmnmbaaGreatDoorOz48
import Derived.Test.YtkgjfdanjmnmbaaGreatDoorOz42
import Derived.Test.YtkgjfdanjmnmbaaGreatDoorOz41
import Derived.Test.YtkgjfdanjmnmbaaGreatDoorOz18
import Derived.Lib.QuietBelow
set_option maxRecDepth 100000
set_option maxHeartbeats 8000000
namespace Go.Proofs.YtkgjfdanjmnmbaaGreatDoor.Kp
open Go.RowKit
open Ls (cells3 fitsB fits_impl lV vars_keepF)
open Sh (Vars)
open St (Strs)
def fitR (z b:Int) (r:ByteArray) (x:Rec):Bool:=decide (x.2.2.length<=20) && fitsB z b r x.1 x.2.1 x.2.2
theorem fit_long {z b:Int} {r:ByteArray} {x:Rec} (h:¬x.2.2.length<=20):fitR z b r x=false:=by
 unfold fitR
 rw[decide_eq_false h,Bool.false_and]
theorem fit_short {z b:Int} {r:ByteArray} {x:Rec} (h:x.2.2.length<=20):fitR z b r x=fitsB z b r x.1 x.2.1 x.2.2:=by
 unfold fitR
 rw[decide_eq_true h,Bool.true_and]
theorem fits_rec (z b:Int) (r:ByteArray) (x:MR) (w:World) (ht:x.1.2.1.size<=maxLen) (hp:x.1.2.2.length<=1048576) (hs:∃ a cap,x.2=.slice a x.1.2.2.length cap/\x.1.2.2.length<=cap/\Strs w w.heap.size a x.1.2.2) (hV:Vars w) :
  Calls Tryz.prog 25 #[.agg #[.int .i64 x.1.1,.string x.1.2.1,x.2],lV z b r] w fun e w'=>e=.returned (.bool (fitR z b r x.1))/\Below w.heap.size w w':=by
 obtain⟨⟨i,t,p⟩,v⟩:=x
 obtain⟨a,cap,hv,hc,hst⟩:=hs
 dsimp only at ht hp hv hc hst ⊢
 subst hv
 obtain⟨n,hn⟩:∃ n,n=p.length:=⟨_,rfl⟩
 have C0:=hideK (((Cx.nil w).new (.cells #[.int .i64 i,.string t,.slice a p.length cap] 50)).new (.cells #[.int .i64 z,.int .i64 b,.string r] 28))
 have HF:=hideK (fun (W:World) (hW:Below w.heap.size w W)=>fits_impl z b r i t p a cap n W ht hn (by omega) (by omega) ((hst.below hW).mono hW.size) (vars_keepF hV hW))
 have HL:=hideK (fun h=>fit_long (z:=z) (b:=b) (r:=r) (x:=(i,t,p)) h)
 have HS:=hideK (fun h=>fit_short (z:=z) (b:=b) (r:=r) (x:=(i,t,p)) h)
 dsimp only at HL HS
 rw[<-hn]at C0 HL HS ⊢
 clear hst hV hn hc
 unfold lV at HF ⊢
 by_cases h20:n<=20
 ·have h20':(n:Int)<=20:=by omega
  have HQ:=hideK (HS.out h20)
  rw[HQ.out]
  generalize fitsB z b r i t p=Q at HF ⊢
  clear HQ HL HS
  go_enter Tryz.func25,Tryz.ntmps25
  go_wp2_with fail
  refine(HF.out _ C0.out.low).mono ?_
  rintro e w1 ⟨rfl,hb⟩
  have B1:=hideK (C0.out.call hb).low
  clear hb C0
  go_wp2_with fail
  go_ret
  exact⟨rfl,B1.out⟩
 ·have HQ:=hideK (HL.out h20)
  rw[HQ.out]
  have h20':decide ((n:Int)<=20)=false:=by simp;omega
  clear HF HQ HL HS
  go_enter Tryz.func25,Tryz.ntmps25
  go_wp2_with fail
  go_ret
  exact⟨rfl,C0.out.low⟩
end Go.Proofs.YtkgjfdanjmnmbaaGreatDoor.Kp


namespace Go.Proofs.YtkgjfdanjmnmbaaGreatDoor.Ls
open Go.RowKit
open Bk (cnt count_any)
open Bi (is_yes is_no)
open Tr (inclB incl_spec)
open Sh (leafR leafV leafR_yes l03Leaf_any)
open St (Strs)
theorem calls_below {P:Program} {f:FuncId} {args:Array Value} {W:World} {v:Value} (h:Calls P f args W fun e w'=>e=.returned v/\w'=W):Calls P f args W fun e w'=>e=.returned v/\Below W.heap.size W w' :=
 h.mono fun e w' q=>⟨q.1,by rw[q.2];exact Below.refl _ _⟩
theorem calls_drew {P:Program} {f:FuncId} {args:Array Value} {W:World} {v:Value} (h:Calls P f args W fun e w'=>e=.returned v/\w'=W):Calls P f args W fun e w'=>e=.returned v/\∃ n,w'=W.drewN n :=
 h.mono fun _ _ q=>⟨q.1,0,q.2⟩
theorem l07Fits_spec (q k:Nat) (r:ByteArray) (i:Int) (t:ByteArray) (p:List ByteArray) (a:Option Addr) (cap m:Nat) (w:World) (hr:rightB q k r=true) (ht:t.size<=8000) (hm:m=p.length) (hp:m<=1048576) (hs:Strs w w.heap.size a p) :
  Calls Tryz.prog 21 #[lV q k r,.int .i64 i,.string t,.slice a m cap] w fun e w'=>e=.returned (.bool (fitsB q k r i t p))/\Below w.heap.size w w':=by
 have h:=rightB_yes hr
 have HA:Hid (Below w.heap.size w (w.alloc (.cells #[.int .i64 q,.int .i64 k,.string r] 28))):=(Below.refl _ _).alloc (Nat.le_refl _) _
 have HX:Hid ((w.alloc (.cells #[.int .i64 q,.int .i64 k,.string r] 28)).heap[w.heap.size]? = some (.cells #[.int .i64 q,.int .i64 k,.string r] 28 (0,0))):=heap_alloc_new w _
 have HC:=hideL (fun W=>calls_below (count_any q k W (by omega) (by omega) (by omega)))
 have HCq:=hideL (fun W=>calls_drew (count_any q k W (by omega) (by omega) (by omega)))
 obtain⟨hcn,hcl⟩:=countN_yes hr
 have HL:=hideL (fun W=>l03Leaf_any t W ht)
 have HFE:Hid (fitsB q k r i t p=inclB (leafR t) i ((cnt q k:Nat):Int) p r):=by unfold Hid fitsB;rw[hcn]
 have HI:Hid (∀ W,Below w.heap.size w W->Calls Tryz.prog 37 #[.string (leafV t),.int .i64 i,.int .i64 (cnt q k:Nat),.slice a m cap,.string r] W fun e w'=>e=.returned (.bool (inclB (leafV t) i ((cnt q k:Nat):Int) p r))/\Below W.heap.size W w'):=fun W h=>by
  have:=incl_spec (leafV t) r i (cnt q k:Nat) p a cap W.heap.size W (by omega) (by omega) ((hs.below h).mono h.size) (Nat.le_refl _)
  rw[<-hm]at this
  exact this
 have hmx:=mixedF
 clear hs hm hr h hcn
 generalize cnt q k=cn at HC HCq HI HFE hcl
 have hsub:IntKind.i64.wrap ((cn:Int)-1)=(cn:Int)-1:=by rw[IntKind.wrap_i64];omega
 by_cases hi:0<=i/\i<=(cn:Int)-1
 ·have HIS:=hideL (fun W=>calls_below (is_yes i 0 ((cn:Int)-1) W hi.1 hi.2))
  have HISq:=hideL (fun W=>calls_drew (is_yes i 0 ((cn:Int)-1) W hi.1 hi.2))
  by_cases h1:t.size<=100
  ·have HQ:Hid (fitsB q k r i t p=inclB (leafV t) i ((cn:Nat):Int) p r):=by rw[HFE.out,leafR_yes t (by omega)];rfl
   have h1':decide ((t.size:Int)<=100)=true:=by simp;omega
   have h1i:(t.size:Int)<=100:=by omega
   rw[HQ.out]
   clear HQ HFE hi
   generalize inclB (leafV t) i ((cn:Nat):Int) p r=Q at HI ⊢
   generalize leafV t=lf at HI HL
   unfold lV
   go_enter Tryz.func21,Tryz.ntmps21
   go_wp2_with fail
   generalize hww:w.alloc (.cells #[.int .i64 q,.int .i64 k,.string r] 28)=wa at HA HX ⊢
   clear hww
   obtain⟨c0,c1,c2⟩:=cells3 HX.out
   generalize w.heap.size=gx at c0 c1 c2 ⊢
   have g0:=fun d os=>cell_regrown c0 d os
   have g1:=fun d os=>cell_regrown c1 d os
   have g2:=fun d os=>cell_regrown c2 d os
   refine wp_region_quiet_below (by assumption) (by kernel_rfl) ?_
   repeat (quiet_step (first|(go_at_call 22;exact Calls.regrown_of (HC.out _))|(go_at_call 18;exact Calls.regrown_of (HIS.out _))|(go_at_call 38;exact Calls.regrown_of (HL.out _))|(go_at_call 37;exact Calls.regrown_of (HI.out _ (lowL HA.out (below_regrown _ _ _))))))
   refine wpQuiet_nil ?_
   intro _ hw'
   obtain⟨⟨dq,osq⟩,hw''⟩:=hw'
   subst hw''
   have KQ:=hideL (below_regrown wa dq osq)
   generalize Go.Sort.grow (redrawn wa dq) osq=w8 at KQ ⊢
   clear g0 g1 g2 c0 c1 c2
   go_wp2_with fail
   go_ret
   exact⟨rfl,lowL HA.out KQ.out⟩
  ·have HQ:=hideL (fits_piece (z:=q) (b:=k) (r:=r) (i:=i) (p:=p) (t:=t) (by omega))
   have h1d:decide ((t.size:Int)<=100)=false:=by simp;omega
   have h1n:decide (t.size<=100)=false:=by simp;omega
   have h1i:¬(t.size:Int)<=100:=by omega
   rw[HQ.out]
   clear HQ HFE hi HI HL
   unfold lV
   go_enter Tryz.func21,Tryz.ntmps21
   go_wp2_with fail
   generalize hww:w.alloc (.cells #[.int .i64 q,.int .i64 k,.string r] 28)=wa at HA HX ⊢
   clear hww
   obtain⟨c0,c1,c2⟩:=cells3 HX.out
   generalize w.heap.size=gx at c0 c1 c2 ⊢
   go_quiet (first|(go_at_call 22;refine Calls.quiet_of (HCq.out _))|(go_at_call 18;refine Calls.quiet_of (HISq.out _)))
   all_goals (try go_wp2_with fail)
   all_goals go_ret
   all_goals exact⟨rfl,lowL HA.out (below_drewN (Below.refl _ _) _)⟩
 ·have HQ:Hid (fitsB q k r i t p=false):=by rw[HFE.out];exact inclB_range (by omega)
  have HISq:Hid (∀ W,_):=fun W=>calls_drew (is_no i 0 ((cn:Int)-1) W (by omega))
  rw[HQ.out]
  clear HQ HFE hi HI HL
  unfold lV
  go_enter Tryz.func21,Tryz.ntmps21
  go_wp2_with fail
  generalize hww:w.alloc (.cells #[.int .i64 q,.int .i64 k,.string r] 28)=wa at HA HX ⊢
  clear hww
  obtain⟨c0,c1,c2⟩:=cells3 HX.out
  generalize w.heap.size=gx at c0 c1 c2 ⊢
  go_quiet (first|(go_at_call 22;refine Calls.quiet_of (HCq.out _))|(go_at_call 18;refine Calls.quiet_of (HISq.out _)))
  all_goals (try go_wp2_with fail)
  all_goals go_ret
  all_goals exact⟨rfl,lowL HA.out (below_drewN (Below.refl _ _) _)⟩
end Go.Proofs.YtkgjfdanjmnmbaaGreatDoor.Ls


/- What fits: the contracts of both sides at every record. -/
namespace Go.Proofs.YtkgjfdanjmnmbaaGreatDoor.Kp
open Go.RowKit
open Ls (rightB rightB_yes lV vars_keepF l07Fits_spec fitsB fits_piece countN_le)
open Tr (inclB wide_yes)
open Sh (Vars)
theorem fitC_of (z b:Int) (r:ByteArray) (w:World) (hV:Vars w):FitC (fitR z b r) z b r w:=fun W x hW h1 h2 h3 =>
 fits_rec z b r x W (by unfold maxLen;omega) (by omega) h3 (vars_keepF hV hW)
theorem fitS_of (z b:Int) (r:ByteArray) (w:World) (hr:rightB z b r=true):FitS (fitR z b r) z b r w:=fun W x hW h1 h2 h3=>by
 have h4:=rightB_yes hr
 obtain⟨p,rfl⟩:=Int.eq_ofNat_of_zero_le h4.1
 obtain⟨k,rfl⟩:=Int.eq_ofNat_of_zero_le (show 0<=b by omega)
 obtain⟨a,cap,hv,hc,hst⟩:=h3
 rw[hv,fit_short h2]
 exact l07Fits_spec p k r x.1.1 x.1.2.1 x.1.2.2 a cap x.1.2.2.length W hr h1 rfl (by omega) hst
theorem fit_facts {z b:Int} {r:ByteArray} {x:Rec} (h:fitR z b r x=true):0<=x.1/\x.1<64/\x.2.1.size<=100/\x.2.2.length<=20/\∀ q∈x.2.2,q.size=32:=by
 have h20:x.2.2.length<=20:=by
  by_cases h2:x.2.2.length<=20
  ·exact h2
  ·rw[fit_long h2]at h;cases h
 have ht:x.2.1.size<=100:=by
  by_cases h2:x.2.1.size<=100
  ·exact h2
  ·rw[fit_short h20,fits_piece (by omega)]at h;cases h
 rw[fit_short h20]at h
 have hc:=countN_le z b r
 unfold fitsB inclB at h
 simp only[Bool.and_eq_true,decide_eq_true_eq]at h
 exact⟨h.1.1.2,by omega,ht,h20,fun q hq=>by
  obtain⟨j,hj,rfl⟩:=List.getElem_of_mem hq
  exact(wide_yes x.2.2).1 h.1.1.1.2.2 j hj⟩
end Go.Proofs.YtkgjfdanjmnmbaaGreatDoor.Kp


namespace Go.Proofs.YtkgjfdanjmnmbaaGreatDoor.Up
open Go.RowKit
open Se (outV unsealV)
theorem unpack_all (a:Addr) (s:ByteArray) (w:World) (hs:s.size<=1048576) (hg:Glob w (.iface 265 (.pointer (some a)))) :
  Calls Tryz.prog 31 #[.string s] w fun e w'=>e=.returned (ansU s)/\Below w.heap.size w w' :=
 unpack_impl _ _ (fun t W h1 h2 h3=>short_any _ t W h1 h2 h3) (fun W=>is_self a W) s w hs hg
theorem ansU_form (s:ByteArray):∃ t c,ansU s=.agg #[.string t,.int .i64 0,.int .i64 c]:=by
 rcases unseal_case s with⟨t,h,_⟩|⟨c,h0,h⟩
 ·rw[ansU_yes h]
  unfold ansT outV
  split<;>exact⟨_,_,rfl⟩
 ·rw[ansU_no h0 h]
  exact⟨_,_,rfl⟩
end Go.Proofs.YtkgjfdanjmnmbaaGreatDoor.Up
namespace Go.Proofs.YtkgjfdanjmnmbaaGreatDoor.fnExactBlockUnpack
open Go.RowKit
open Up
end Go.Proofs.YtkgjfdanjmnmbaaGreatDoor.fnExactBlockUnpack


namespace Go.Proofs.YtkgjfdanjmnmbaaGreatDoor.Ls
open Go.RowKit
open Up (ansU Glob glob_keep unpack_all)
open Se (outV)
open Pk (cat join_any)
open St (Strs OwnS one_newS one_cellS app_one)
theorem mixedG:Tryz.prog.follows .mixedOrders=true:=by kernel_rfl
theorem must_impl (z b:Int) (r:ByteArray) (i:Nat) (w:World) (hz0:0<=z) (hz:z<=1000) (hb0:1<=b) (hb:b<=48) (hi:i<=64) :
  Calls Tryz.prog 32 #[lV z b r,.int .i64 i] w fun e w'=>e=.returned (.int .i64 (mustN z b i))/\Below w.heap.size w w':=by
 have hm0:(0:Int)<=i*b:=Int.mul_nonneg (by omega) (by omega)
 have hm1:(i:Int)*b<=64*48:=Int.mul_le_mul (by omega) hb (by omega) (by omega)
 have HM:Hid (mustN z b i=min b (z-i*b)):=rfl
 rw[HM.out]
 clear HM
 have hw1:IntKind.i64.wrap ((i:Int)*b)=(i:Int)*b:=by rw[IntKind.wrap_i64];omega
 have hw2:IntKind.i64.wrap (z-(i:Int)*b)=z-(i:Int)*b:=by rw[IntKind.wrap_i64];omega
 unfold lV
 go_enter Tryz.func32,Tryz.ntmps32
 go_wp2_with fail
 go_ret
 exact⟨rfl,(Below.refl _ _).alloc (Nat.le_refl _) _⟩
theorem joinAll_own {W:World} {base:Nat} {v:Value} {D:List ByteArray} (h:OwnS W base v D) (hl:D.length<=1048576) (hc:(cat D).length<=1048576) :
  Calls Tryz.prog 33 #[v] W fun e w'=>e=.returned (.string ⟨(cat D).toArray⟩)/\Below W.heap.size W w':=by
 obtain⟨a,cap,rfl,_,hs⟩:=h.strs
 exact join_any D a cap D.length W hs rfl hl hc
theorem file_impl (z b:Int) (r:ByteArray) (l:List ByteArray) (a:Option Addr) (cap m:Nat) (ga:Addr) (w:World) (hm:m=l.length) (hp:m<=1048576) (hs:Strs w w.heap.size a l) (hsz:∀ x∈l,x.size<=1048576) (hG:Glob w (.iface 265 (.pointer (some ga)))) :
  Calls Tryz.prog 16 #[lV z b r,.slice a m cap] w fun e w'=>e=.returned (.string (fileV z b r l))/\Below w.heap.size w w':=by
 obtain⟨i0,hif,hz0,hz1,hz2⟩:=info_parts St.Tryz.infoS9
 have HA:Hid (Below w.heap.size w (w.alloc (.cells #[.int .i64 z,.int .i64 b,.string r] 28))):=(Below.refl _ _).alloc (Nat.le_refl _) _
 have HX:Hid ((w.alloc (.cells #[.int .i64 z,.int .i64 b,.string r] 28)).heap[w.heap.size]? = some (.cells #[.int .i64 z,.int .i64 b,.string r] 28 (0,0))):=heap_alloc_new w _
 by_cases h4:400<m
 ·have h4i:(400:Int)<(m:Int):=by omega
  have HQ:Hid (fileV z b r l=⟨#[]⟩):=by unfold Hid fileV;rw[if_pos (by omega)]
  rw[HQ.out]
  unfold lV
  clear HQ hs hsz hG hm
  go_enter Tryz.func16,Tryz.ntmps16
  go_wp2_with fail
  go_ret
  exact⟨rfl,HA.out⟩
 ·have h4i:¬(400:Int)<(m:Int):=by omega
  have h4d:decide ((400:Int)<(m:Int))=false:=by simp;omega
  have HQ:Hid (fileV z b r l=⟨(cat (fileL z b 0 (l.take (countN z b r)))).toArray⟩):=by unfold Hid fileV;rw[if_neg (by omega)]
  rw[HQ.out]
  clear HQ
  have HC:=hideL (fun W=>count_impl z b r W)
  have HCL:=countN_le z b r
  have HCY:Hid (0<countN z b r->0<=z/\z<=1000/\1<=b/\b<=48):=fun h=>by
   cases hr:rightB z b r with
   |false=>rw[countN_no hr]at h;omega
   |true=>have:=rightB_yes hr;omega
  have HB48:Hid (∀ D:List ByteArray,(0<D.length->b<=48)->(∀ x∈D,(x.size:Int)<=b)->D.length<=64->(cat D).length<=1048576):=fun D h1 h2 h3=>by
   by_cases h0:0<D.length
   ·have hb48:=h1 h0
    have:=cat_le 48 D fun x hx=>by have:=h2 x hx;omega
    omega
   ·have:D=[]:=List.eq_nil_of_length_eq_zero (by omega)
    subst this
    decide
  have HM:=hideL (fun (i:Nat) (hi:i<=64) (W:World) (h:0<=z/\z<=1000/\1<=b/\b<=48)=>must_impl z b r i W h.1 h.2.1 h.2.2.1 h.2.2.2 hi)
  generalize countN z b r=c at HC HCL HCY ⊢
  obtain⟨q,hq⟩:∃ q,q=l.take c:=⟨_,rfl⟩
  have hql:q.length=min c m:=by rw[hq,List.length_take,hm]
  have HQS:Hid (∀ x∈q,x.size<=1048576):=fun x hx=>hsz x (by rw[hq]at hx;exact List.mem_of_mem_take hx)
  have HQG:Hid (∀ (k:Nat) (h:k<q.length) (W:World),Below w.heap.size w W->∃ bb off,a=some ⟨bb,off,none⟩/\W.cell? ⟨bb,off+k,none⟩=some (.string q[k])):=fun k h W hW=>by
   have hkl:k<l.length:=by omega
   obtain⟨bb,off,ha,_,hc⟩:=(hs.below hW).some (by omega)
   refine⟨bb,off,ha,?_⟩
   rw[hc k hkl]
   congr 2
   subst hq
   rw[List.getElem_take]
  rw[<-hq]
  have HG:=hideL hG
  have HV:=hideL (fun (x:ByteArray) (W:World) (hx:x.size<=1048576) (hW:Glob W (.iface 265 (.pointer (some ga))))=>unpack_all ga x W hx hW)
  obtain⟨n,hn⟩:∃ n,n=q.length:=⟨_,rfl⟩
  have HN:=hideL hn
  have hnc:n<=c:=by omega
  have hnm:n<=m:=by omega
  have hmin:min (c:Int) (m:Int)=(n:Int):=by omega
  have hcase:(n:Int)=c/\(c:Int)<=m∨(n:Int)=m/\(m:Int)<c:=by omega
  clear hs hsz hG hm hq hn hql
  have hmx:=mixedG
  unfold lV at HC HM ⊢
  go_enter Tryz.func16,Tryz.ntmps16
  go_wp2_with fail
  generalize hww:w.alloc (.cells #[.int .i64 z,.int .i64 b,.string r] 28)=wa at HA HX ⊢
  clear hww
  generalize hgx:w.heap.size=gx at HX ⊢
  refine(HC.out _).mono ?_
  rintro e w1 ⟨rfl,hb⟩
  have X1:=hideL (blkL HX.out hb)
  have B1:=hideL (lowL HA.out hb)
  clear hb HX HA HC
  have G1:=hideL (glob_keep HG.out B1.out)
  have LW:=hideL (show gx<w1.heap.size from (Array.getElem?_eq_some_iff.1 X1.out).1)
  clear HG
  go_wp2_with fail
  go_loopw [16,5] (fun iv bv wr=>∃ (k:Nat) (D:List ByteArray),iv=.int .i64 k/\k<=n/\OwnS wr w1.heap.size bv D/\FileF z b q k D/\Below w1.heap.size w1 wr) (fun iv _ _=>n-(intOf iv).toNat)
  case atStart=>exact⟨0,[],rfl,Nat.zero_le _,OwnS.nil _ _,file_none z b q,Below.refl _ _⟩
  case round =>
   obtain⟨k,D,rfl,hk,ho,hF,hbw⟩:=hrel
   have O:=hideL ho
   have F:=hideL hF
   have BW:=hideL hbw
   have GW:=hideL (glob_keep G1.out hbw)
   have XW:=hideL (blkL X1.out hbw)
   have BB:=hideL (lowL B1.out hbw)
   have hDL:=hF.1
   clear ho hF hbw
   by_cases hlt:k<n
   ·have hlt':(k:Int)<(n:Int):=by omega
    have hkq:k<q.length:=by rw[<-HN.out];exact hlt
    have hkm:(k:Int)<(m:Int):=by omega
    obtain⟨bb,off,rfl,ci⟩:=HQG.out k hkq wr BB.out
    have hx:=HQS.out q[k] (List.getElem_mem hkq)
    have HNXT:=hideL (fun (t:ByteArray) (h1:blkT q[k]=some t) (h2:(t.size:Int)=mustN z b k)=>file_next F.out hkq h1 h2)
    have HSTP:=hideL (fun h=>file_stop F.out hkq h)
    generalize q[k]=x at ci hx HNXT HSTP
    obtain⟨t,c0,hu⟩:=ansU_out x
    have HY:=hideL (fun (h:c0=0)=>blkT_yes (t:=t) (by rw[hu,h]))
    have HZ:=hideL (fun (h:¬c0=0)=>blkT_no hu h)
    have HVX:=hideL (fun (W:World) (hW:Glob W (.iface 265 (.pointer (some ga))))=>HV.out x W hx hW)
    rw[hu]at HVX
    unfold outV at HVX
    clear hu
    go_wp2_with fail
    refine(HVX.out _ GW.out).mono ?_
    rintro e w3 ⟨rfl,hb⟩
    have O3:=hideL (O.out.below hb)
    have X3:=hideL (blkL XW.out hb)
    have B3:=hideL (lowL BW.out hb)
    clear hb ci O XW BW GW BB
    have O4:Hid (OwnS (w3.alloc (.cells #[.string t,.int .i64 0,.int .i64 c0] 67)) w1.heap.size u5 D):=World.ownsRow.alloc O3.out _
    have X4:Hid ((w3.alloc (.cells #[.string t,.int .i64 0,.int .i64 c0] 67)).heap[gx]? = some (.cells #[.int .i64 z,.int .i64 b,.string r] 28 (0,0))):=blk_alloc X3.out _
    have Y4:Hid ((w3.alloc (.cells #[.string t,.int .i64 0,.int .i64 c0] 67)).heap[w3.heap.size]? = some (.cells #[.string t,.int .i64 0,.int .i64 c0] 67 (0,0))):=heap_alloc_new w3 _
    have B4:Hid (Below w1.heap.size w1 (w3.alloc (.cells #[.string t,.int .i64 0,.int .i64 c0] 67))):=lowB_alloc rfl B3.out _
    go_upto_region 8 with fail
    generalize hww:w3.alloc (.cells #[.string t,.int .i64 0,.int .i64 c0] 67)=u4 at O4 X4 Y4 B4 ⊢
    generalize w3.heap.size=gt at Y4 ⊢
    clear hww O3 X3 B3
    obtain⟨x0,x1,x2⟩:=cells3 X4.out
    obtain⟨y0,y1,y2⟩:=cells3 Y4.out
    by_cases hc0:c0=0
    ·have HSOME:=hideL (HY.out hc0)
     have hcpos:0<=z/\z<=1000/\1<=b/\b<=48:=HCY.out (by omega)
     have HMU:=hideL (fun (W:World)=>HM.out k (by omega) W hcpos)
     have HMN:Hid (mustN z b k=mustN z b k):=rfl
     subst hc0
     clear HZ HY
     generalize mustN z b k=mm at HMU HNXT HSTP HMN
     have gx0:=fun d os=>cell_regrown x0 d os
     have gx1:=fun d os=>cell_regrown x1 d os
     have gx2:=fun d os=>cell_regrown x2 d os
     have gy0:=fun d os=>cell_regrown y0 d os
     have gy2:=fun d os=>cell_regrown y2 d os
     by_cases hmm:(t.size:Int)=mm
     ·have FN:=hideL (HNXT.out t HSOME.out hmm)
      have hmb:((t.size:Int) != mm)=false:=by simp;exact hmm
      have hme:((t.size:Int)==mm)=true:=by simp;exact hmm
      clear hmm HNXT HSTP
      refine wp_region_quiet_below (by assumption) (by kernel_rfl) ?_
      repeat (quiet_step (first|(go_at_call 32;exact Calls.regrown_of (HMU.out _))))
      refine wpQuiet_nil ?_
      intro _ hw'
      obtain⟨⟨dq,osq⟩,hw''⟩:=hw'
      subst hw''
      have KQ:=hideL (below_regrown u4 dq osq)
      generalize Go.Sort.grow (redrawn u4 dq) osq=w8 at KQ ⊢
      clear gx0 gx1 gx2 gy0 gy2 x0 x1 x2 y0 y1 y2
      have O8:=hideL (O4.out.below KQ.out)
      have B8:=hideL (lowL B4.out KQ.out)
      have hz8:=B8.out.size
      obtain⟨y0,y1,y2⟩:=cells3 (blkL Y4.out KQ.out)
      go_wp2_with (at_builtin;refine wpList_append_own _ rfl (.tmp 36) (.tmp 39) 47 rfl w1.heap.size 9 i0 (.string ⟨#[]⟩) 1 16 Tryz.underlying47 hif hz0 hz1 hz2 rfl (by decide) _ _ _ rfl (World.ownsRow.alloc O8.out _) ⟨w8.heap.size,0,none⟩ 1 1 [.string t] rfl rfl (one_newS w8 _ _) (one_cellS _) (by rw[hDL];unfold maxLen;omega) (by rw[hDL];omega) (by simp;omega) ?_)
      intro v9 w9 hown hgrow _
      have O9:Hid (OwnS w9 w1.heap.size v9 (D++[t])):=OwnS.snoc (by rw[hDL];exact hown)
      have B9:=hideL (app_one B8.out hz8 (Nat.le_refl _) O8.out hgrow)
      clear hown hgrow O8 O4
      go_wp2_with fail
      go_roundw
      case rel=>exact⟨k+1,_,by go_num,by omega,O9.out,FN.out,B9.out⟩
      case measure=>simp[intOf];omega
     ·have HEND:=hideL (HSTP.out (.inr ⟨t,HSOME.out,hmm⟩))
      have hmb:((t.size:Int) != mm)=true:=by simp;exact hmm
      have hme:((t.size:Int)==mm)=false:=by simp;exact hmm
      clear hmm HNXT HSTP
      refine wp_region_quiet_below (by assumption) (by kernel_rfl) ?_
      repeat (quiet_step (first|(go_at_call 32;exact Calls.regrown_of (HMU.out _))))
      refine wpQuiet_nil ?_
      intro _ hw'
      obtain⟨⟨dq,osq⟩,hw''⟩:=hw'
      subst hw''
      have KQ:=hideL (below_regrown u4 dq osq)
      generalize Go.Sort.grow (redrawn u4 dq) osq=w8 at KQ ⊢
      clear gx0 gx1 gx2 gy0 gy2 x0 x1 x2 y0 y1 y2
      have O8:=hideL (O4.out.below KQ.out)
      have B8:=hideL (lowL B1.out (lowL B4.out KQ.out))
      go_wp2_with fail
      refine(joinAll_own O8.out (by omega) (HB48.out D (fun _=>hcpos.2.2.2) F.out.2.1 (by omega))).mono ?_
      rintro e w9 ⟨rfl,hb⟩
      have B9:=hideL (lowL B8.out hb)
      clear hb
      go_wp2_with fail
      go_ret
      exact⟨by rw[HEND.out];rfl,B9.out⟩
    ·have HEND:=hideL (HSTP.out (.inl (HZ.out hc0)))
     have hcpos:0<=z/\z<=1000/\1<=b/\b<=48:=HCY.out (by omega)
     have hcb:(c0 != 0)=true:=by simp;exact hc0
     have hce:(c0==0)=false:=by simp;exact hc0
     clear HZ HY HNXT HSTP
     go_quiet (fail)
     have O8:=fun (i:Nat)=>O4.out.below (below_drewN (Below.refl u4.heap.size u4) i)
     have B8:=fun (i:Nat)=>lowL B1.out (lowL B4.out (below_drewN (Below.refl u4.heap.size u4) i))
     go_wp2_with fail
     refine(joinAll_own (O8 _) (by omega) (HB48.out D (fun _=>hcpos.2.2.2) F.out.2.1 (by omega))).mono ?_
     rintro e w9 ⟨rfl,hb⟩
     have B9:=hideL (lowL (B8 _) hb)
     clear hb
     go_wp2_with fail
     go_ret
     exact⟨by rw[HEND.out];rfl,B9.out⟩
   ·have HEND:=hideL (file_end F.out (by rw[<-HN.out];omega))
    have hlt':¬(k:Int)<(n:Int):=by omega
    have B8:=hideL (lowL B1.out BW.out)
    go_wp2_with fail
    refine(joinAll_own O.out (by omega) (HB48.out D (fun h=>(HCY.out (by omega)).2.2.2) F.out.2.1 (by omega))).mono ?_
    rintro e w9 ⟨rfl,hb⟩
    have B9:=hideL (lowL B8.out hb)
    clear hb
    go_wp2_with fail
    go_ret
    exact⟨by rw[HEND.out];rfl,B9.out⟩
end Go.Proofs.YtkgjfdanjmnmbaaGreatDoor.Ls


namespace Go.Proofs.YtkgjfdanjmnmbaaGreatDoor.Ls
open Go.RowKit
open Up (ansU unpack_spec)
open Se (outV)
open Pk (cat)
open St (Strs)
open Bk (cnt count_any)
theorem min_spec (x y:Int) (w:World) :
  Calls Tryz.prog 40 #[.int .i64 x,.int .i64 y] w fun e w'=>e=.returned (.int .i64 (min x y))/\∃ n,w'=w.drewN n:=by
 by_cases h:x<y
 ·have HM:Hid (min x y=x):=by unfold Hid;omega
  rw[HM.out]
  go_enter Tryz.func40,Tryz.ntmps40
  go_wp2_with fail
  go_ret
  exact⟨rfl,0,rfl⟩
 ·have HM:Hid (min x y=y):=by unfold Hid;omega
  rw[HM.out]
  go_enter Tryz.func40,Tryz.ntmps40
  go_wp2_with fail
  go_ret
  exact⟨rfl,0,rfl⟩
theorem cat_snoc (D:List ByteArray) (t:ByteArray):(⟨(cat (D++[t])).toArray⟩:ByteArray)=⟨(cat D).toArray⟩++t:=by
 refine ByteArray.ext ?_
 show (cat (D++[t])).toArray=(⟨(cat D).toArray⟩++t:ByteArray).data
 rw[ByteArray.data_append]
 simp[cat]
theorem cat_size (D:List ByteArray):(⟨(cat D).toArray⟩:ByteArray).size=(cat D).length:=by
 show (cat D).toArray.size=_
 rw[List.size_toArray]
theorem l07File_spec (zn bn:Nat) (r:ByteArray) (l:List ByteArray) (a:Option Addr) (cap m:Nat) (w:World) (hr:rightB zn bn r=true) (hm:m=l.length) (hp:m<=400) (hs:Strs w w.heap.size a l) (hsz:∀ x∈l,x.size<=1048576) :
  Calls Tryz.prog 23 #[lV zn bn r,.slice a m cap] w fun e w'=>e=.returned (.string ⟨(cat (fileL zn bn 0 (l.take (cnt zn bn)))).toArray⟩)/\Below w.heap.size w w':=by
 have h:=rightB_yes hr
 have hcl:=(countN_yes hr).2
 have HA:Hid (Below w.heap.size w (w.alloc (.cells #[.int .i64 zn,.int .i64 bn,.string r] 28))):=(Below.refl _ _).alloc (Nat.le_refl _) _
 have HX:Hid ((w.alloc (.cells #[.int .i64 zn,.int .i64 bn,.string r] 28)).heap[w.heap.size]? = some (.cells #[.int .i64 zn,.int .i64 bn,.string r] 28 (0,0))):=heap_alloc_new w _
 have HC:=hideL (fun W=>count_any zn bn W (by omega) (by omega) (by omega))
 have HB48:Hid (∀ D:List ByteArray,(∀ x∈D,(x.size:Int)<=bn)->D.length<=64->(cat D).length<=3072):=fun D h2 h3=>by
  have:=cat_le 48 D fun x hx=>by have:=h2 x hx;omega
  omega
 generalize cnt zn bn=c at HC hcl ⊢
 obtain⟨q,hq⟩:∃ q,q=l.take c:=⟨_,rfl⟩
 have hql:q.length=min c m:=by rw[hq,List.length_take,hm]
 have HQS:Hid (∀ x∈q,x.size<=1048576):=fun x hx=>hsz x (by rw[hq]at hx;exact List.mem_of_mem_take hx)
 have HQG:Hid (∀ (k:Nat) (h:k<q.length) (W:World),Below w.heap.size w W->∃ bb off,a=some ⟨bb,off,none⟩/\W.cell? ⟨bb,off+k,none⟩=some (.string q[k])):=fun k h W hW=>by
  have hkl:k<l.length:=by omega
  obtain⟨bb,off,ha,_,hc⟩:=(hs.below hW).some (by omega)
  refine⟨bb,off,ha,?_⟩
  rw[hc k hkl]
  congr 2
  subst hq
  rw[List.getElem_take]
 rw[<-hq]
 obtain⟨n,hn⟩:∃ n,n=q.length:=⟨_,rfl⟩
 have HN:=hideL hn
 have HNE:=hideL (show n=min c m by omega)
 have hzb:zn<=1000:=by omega
 have hbb1:1<=bn:=by omega
 have hbb:bn<=48:=by omega
 clear hs hsz hm hq hn hql h hr
 unfold lV
 go_enter Tryz.func23,Tryz.ntmps23
 go_wp2_with fail
 generalize hww:w.alloc (.cells #[.int .i64 zn,.int .i64 bn,.string r] 28)=w1 at HA HX ⊢
 clear hww
 generalize w.heap.size=gx at HX ⊢
 refine(HC.out _).mono ?_
 rintro e w2 ⟨rfl,hw⟩
 subst w2
 clear HC
 go_wp2_with fail
 go_loopw [7,5] (fun iv bv wr=>∃ (k:Nat) (D:List ByteArray),iv=.int .i64 k/\bv=.string ⟨(cat D).toArray⟩/\k<=n/\FileF zn bn q k D/\Below w1.heap.size w1 wr) (fun iv _ _=>n-(intOf iv).toNat)
 case atStart=>exact⟨0,[],rfl,rfl,Nat.zero_le _,file_none zn bn q,Below.refl _ _⟩
 case round =>
  obtain⟨k,D,rfl,rfl,hk,hF,hbw⟩:=hrel
  have F:=hideL hF
  have BW:=hideL hbw
  have XW:=hideL (blkL HX.out hbw)
  have BB:=hideL (lowL HA.out hbw)
  have hDL:=hF.1
  clear hF hbw
  have hnc:n<=c:=by have:=HNE.out;omega
  have hnm:n<=m:=by have:=HNE.out;omega
  by_cases hlt:k<n
  ·have hlc:(k:Int)<(c:Int):=by omega
   have hlm:(k:Int)<(m:Int):=by omega
   have hkq:k<q.length:=by rw[<-HN.out];exact hlt
   obtain⟨bb,off,rfl,ci⟩:=HQG.out k hkq wr BB.out
   have hx:=HQS.out q[k] (List.getElem_mem hkq)
   have HNXT:=hideL (fun (t:ByteArray) (h1:blkT q[k]=some t) (h2:(t.size:Int)=mustN zn bn k)=>file_next F.out hkq h1 h2)
   have HSTP:=hideL (fun h=>file_stop F.out hkq h)
   generalize q[k]=x at ci hx HNXT HSTP
   obtain⟨t,c0,hu⟩:=ansU_out x
   have HY:=hideL (fun (h:c0=0)=>blkT_yes (t:=t) (by rw[hu,h]))
   have HZ:=hideL (fun (h:¬c0=0)=>blkT_no hu h)
   have HVX:=hideL (fun (W:World)=>unpack_spec x W hx)
   rw[hu]at HVX
   unfold outV at HVX
   clear hu
   have hcs:=HB48.out D F.out.2.1 (by omega)
   have hcz:=cat_size D
   go_wp2_with fail
   refine(HVX.out _).mono ?_
   rintro e w3 ⟨rfl,hb⟩
   have X3:=hideL (blkL XW.out hb)
   have B3:=hideL (lowL BW.out hb)
   clear hb ci XW BW BB
   have X4:Hid ((w3.alloc (.cells #[.string t,.int .i64 0,.int .i64 c0] 67)).heap[gx]? = some (.cells #[.int .i64 zn,.int .i64 bn,.string r] 28 (0,0))):=blk_alloc X3.out _
   have Y4:Hid ((w3.alloc (.cells #[.string t,.int .i64 0,.int .i64 c0] 67)).heap[w3.heap.size]? = some (.cells #[.string t,.int .i64 0,.int .i64 c0] 67 (0,0))):=heap_alloc_new w3 _
   have B4:Hid (Below w1.heap.size w1 (w3.alloc (.cells #[.string t,.int .i64 0,.int .i64 c0] 67))):=lowB_alloc rfl B3.out _
   go_upto_region 7 with fail
   generalize hww:w3.alloc (.cells #[.string t,.int .i64 0,.int .i64 c0] 67)=u4 at X4 Y4 B4 ⊢
   generalize w3.heap.size=gt at Y4 ⊢
   clear hww X3 B3
   obtain⟨x0,x1,x2⟩:=cells3 X4.out
   obtain⟨y0,y1,y2⟩:=cells3 Y4.out
   by_cases hc0:c0=0
   ·have HSOME:=hideL (HY.out hc0)
    have hm0:(0:Int)<=(k:Int)*bn:=Int.mul_nonneg (by omega) (by omega)
    have hm1:(k:Int)*bn<=64*48:=Int.mul_le_mul (by omega) (by omega) (by omega) (by omega)
    have hw1:IntKind.i64.wrap ((k:Int)*bn)=(k:Int)*bn:=by rw[IntKind.wrap_i64];omega
    have hw2:IntKind.i64.wrap ((zn:Int)-(k:Int)*bn)=(zn:Int)-(k:Int)*bn:=by rw[IntKind.wrap_i64];omega
    have HMU:Hid (∀ W,Calls Tryz.prog 40 #[.int .i64 (bn:Nat),.int .i64 ((zn:Int)-(k:Int)*bn)] W fun e w'=>e=.returned (.int .i64 (mustN zn bn k))/\∃ n,w'=W.drewN n):=fun W=>min_spec _ _ W
    subst hc0
    clear HZ HY
    generalize mustN zn bn k=mm at HMU HNXT HSTP
    by_cases hmm:(t.size:Int)=mm
    ·have FN:=hideL (HNXT.out t HSOME.out hmm)
     have hts:=FN.out.2.1 t (by simp)
     have hmb:((t.size:Int) != mm)=false:=by simp;exact hmm
     have hme:((t.size:Int)==mm)=true:=by simp;exact hmm
     have n1:¬9223372036854775807<(⟨(cat D).toArray⟩:ByteArray).size+t.size:=by omega
     have HSN:=hideL (cat_snoc D t)
     clear hmm HNXT HSTP
     go_quiet (first|(go_at_call 40;refine Calls.quiet_of (HMU.out _)))
     generalize (⟨(cat D).toArray⟩:ByteArray)=CD at n1 HSN ⊢
     have B8:=fun (i:Nat)=>lowL B4.out (below_drewN (Below.refl u4.heap.size u4) i)
     go_wp2_with fail
     go_roundw
     case rel=>exact⟨k+1,_,by go_num,by rw[HSN.out],by omega,FN.out,B8 _⟩
     case measure=>simp[intOf];omega
    ·have HEND:=hideL (HSTP.out (.inr ⟨t,HSOME.out,hmm⟩))
     have hmb:((t.size:Int) != mm)=true:=by simp;exact hmm
     have hme:((t.size:Int)==mm)=false:=by simp;exact hmm
     clear hmm HNXT HSTP
     go_quiet (first|(go_at_call 40;refine Calls.quiet_of (HMU.out _)))
     have B8:=fun (i:Nat)=>lowL HA.out (lowL B4.out (below_drewN (Below.refl u4.heap.size u4) i))
     go_wp2_with fail
     go_ret
     exact⟨by rw[HEND.out];rfl,B8 _⟩
   ·have HEND:=hideL (HSTP.out (.inl (HZ.out hc0)))
    have hcb:(c0 != 0)=true:=by simp;exact hc0
    have hce:(c0==0)=false:=by simp;exact hc0
    clear HZ HY HNXT HSTP
    go_quiet (fail)
    have B8:=fun (i:Nat)=>lowL HA.out (lowL B4.out (below_drewN (Below.refl u4.heap.size u4) i))
    go_wp2_with fail
    go_ret
    exact⟨by rw[HEND.out];rfl,B8 _⟩
  ·have HEND:=hideL (file_end F.out (by rw[<-HN.out];omega))
   have B8:=hideL (lowL HA.out BW.out)
   by_cases hkc:k<c
   ·have hkc':(k:Int)<(c:Int):=by omega
    have hkm':¬(k:Int)<(m:Int):=by have:=HNE.out;omega
    have hkmd:decide ((k:Int)<(m:Int))=false:=by simp;have:=HNE.out;omega
    go_wp2_with fail
    go_ret
    exact⟨by rw[HEND.out];rfl,B8.out⟩
   ·have hkc':¬(k:Int)<(c:Int):=by omega
    have hkcd:decide ((k:Int)<(c:Int))=false:=by simp;omega
    go_wp2_with fail
    go_ret
    exact⟨by rw[HEND.out];rfl,B8.out⟩
end Go.Proofs.YtkgjfdanjmnmbaaGreatDoor.Ls


/- The file of the pieces: the contracts of both sides at every row of pieces. -/
namespace Go.Proofs.YtkgjfdanjmnmbaaGreatDoor.Kp
open Go.RowKit
open Ls (rightB rightB_yes lV fileV file_impl l07File_spec countN countN_yes fitsB)
open Tr (inclB)
open Up (Glob glob_keep)
theorem fileC_of (z b:Int) (r:ByteArray) (ga:Addr) (w:World) (hG:Glob w (.iface 265 (.pointer (some ga)))):FileC (fileV z b r) z b r w:=fun W l a n cap hn hW hc hs hz =>
 file_impl z b r l a cap n ga W hn (by omega) hs (fun x hx=>Nat.le_trans (hz x hx) (by decide)) (glob_keep hG hW)
theorem fileS_of (z b:Int) (r:ByteArray) (w:World) (hr:rightB z b r=true):FileS (fileV z b r) z b r w:=fun W l a n cap hn hW hc hs hz=>by
 have h4:=rightB_yes hr
 obtain⟨p,rfl⟩:=Int.eq_ofNat_of_zero_le h4.1
 obtain⟨k,rfl⟩:=Int.eq_ofNat_of_zero_le (show 0<=b by omega)
 have h5:=l07File_spec p k r l a cap n W hr hn (by omega) hs (fun x hx=>Nat.le_trans (hz x hx) (by decide))
 rw[<-(countN_yes hr).1]at h5
 unfold fileV
 rw[if_neg (by omega)]
 exact h5
theorem fit_out {z b:Int} {r:ByteArray} (x:Rec) (h:fitR z b r x=true):0<=x.1/\x.1<countN z b r/\x.2.1.size<=8000:=by
 have hf:=fit_facts h
 refine⟨hf.1,?_,by omega⟩
 rw[fit_short hf.2.2.2.1]at h
 unfold fitsB inclB at h
 simp only[Bool.and_eq_true,decide_eq_true_eq]at h
 omega
end Go.Proofs.YtkgjfdanjmnmbaaGreatDoor.Kp

