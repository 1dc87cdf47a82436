/- Texts put together: LsRight, LsArg, InclSpec, LsFits, WyMath, DrawBase, DrawN, DrawSource, DrawMore. -/
import Derived.Test.YtjfdllgodijibaaGreatDoorWz25
import Derived.Test.YtjfdllgodijibaaGreatDoorWz12
import Derived.Lib.QuietBelow
import Derived.Test.YtjfdllgodijibaaGreatDoorWz19
import Derived.Test.YtjfdllgodijibaaGreatDoorWz9
import Derived.Test.YtjfdllgodijibaaGreatDoorChecked
import Derived.WalkKit
import Derived.WalkSpells
import Derived.WalkLawsBesides
import Derived.BigRegion
import Derived.Deep.QuietTactic
import Derived.BigQuiet
import Derived.Laws.BitsAllLaws
import Derived.Test.YtjfdllgodijibaaGreatDoorWz4
set_option maxRecDepth 100000
set_option maxHeartbeats 8000000
namespace Go.Proofs.YtjfdllgodijibaaGreatDoor.Ls
open Go.RowKit
open Bk (cnt cnt_le count_any)
open Bi (is_yes is_no)
theorem hideL {p:Prop} (h:p):Hid p:=h
def rightB (z b:Int) (r:ByteArray):Bool:=decide (0<=z/\z<=1000/\1<=b/\b<=48/\r.size=32/\z<=b*64)
def lV (z b:Int) (r:ByteArray):Value:=.agg #[.int .i64 z,.int .i64 b,.string r]
def countN (z b:Int) (r:ByteArray):Nat:=if rightB z b r=true then cnt z.toNat b.toNat else 0
theorem rightB_yes {z b:Int} {r:ByteArray} (h:rightB z b r=true):0<=z/\z<=1000/\1<=b/\b<=48/\r.size=32/\z<=b*64:=of_decide_eq_true h
theorem countN_yes {p k:Nat} {r:ByteArray} (h:rightB p k r=true):countN p k r=cnt p k/\cnt p k<=64:=by
 have h1:=rightB_yes h
 unfold countN
 rw[if_pos h]
 refine⟨rfl,(cnt_le (by omega)).2 (by omega)⟩
theorem countN_no {z b:Int} {r:ByteArray} (h:rightB z b r=false):countN z b r=0:=by
 unfold countN
 rw[h]
 rfl
theorem countN_le (z b:Int) (r:ByteArray):countN z b r<=64:=by
 cases h:rightB z b r with
 |false=>rw[countN_no h];omega
 |true =>
  have h1:=rightB_yes h
  obtain⟨p,rfl⟩:=Int.eq_ofNat_of_zero_le h1.1
  obtain⟨k,rfl⟩:=Int.eq_ofNat_of_zero_le (show 0<=b by omega)
  have:=countN_yes h
  omega
theorem right_impl (z b:Int) (r:ByteArray) (w:World) :
  Calls Tryz.prog 44 #[lV z b r] w fun e w'=>e=.returned (.bool (rightB z b r))/\Below w.heap.size w w':=by
 unfold lV
 by_cases h1:z<0
 ·have HF:Hid (rightB z b r=false):=by unfold Hid rightB;simp;omega
  rw[HF.out]
  go_enter Tryz.func44,Tryz.ntmps44
  go_wp2_with fail
  go_ret
  exact⟨rfl,(Below.refl _ _).alloc (Nat.le_refl _) _⟩
 ·by_cases h2:1000<z
  ·have HF:Hid (rightB z b r=false):=by unfold Hid rightB;simp;omega
   rw[HF.out]
   go_enter Tryz.func44,Tryz.ntmps44
   go_wp2_with fail
   go_ret
   exact⟨rfl,(Below.refl _ _).alloc (Nat.le_refl _) _⟩
  ·by_cases h3:b<1
   ·have HF:Hid (rightB z b r=false):=by unfold Hid rightB;simp;omega
    rw[HF.out]
    go_enter Tryz.func44,Tryz.ntmps44
    go_wp2_with fail
    go_ret
    exact⟨rfl,(Below.refl _ _).alloc (Nat.le_refl _) _⟩
   ·by_cases h4:48<b
    ·have HF:Hid (rightB z b r=false):=by unfold Hid rightB;simp;omega
     rw[HF.out]
     go_enter Tryz.func44,Tryz.ntmps44
     go_wp2_with fail
     go_ret
     exact⟨rfl,(Below.refl _ _).alloc (Nat.le_refl _) _⟩
    ·by_cases h5:r.size=32
     ·have HF:Hid (rightB z b r=decide (z<=b*64)):=by unfold Hid rightB;rw[decide_eq_decide];omega
      rw[HF.out]
      have h5':((r.size:Int)==32)=true:=by rw[h5];rfl
      have H5:=hideL h5
      clear h5
      have hw:IntKind.i64.wrap (b*64)=b*64:=by rw[IntKind.wrap_i64];omega
      go_enter Tryz.func44,Tryz.ntmps44
      go_wp2_with fail
      go_ret
      exact⟨rfl,(Below.refl _ _).alloc (Nat.le_refl _) _⟩
     ·have HF:Hid (rightB z b r=false):=by unfold Hid rightB;simp;omega
      rw[HF.out]
      have h5':((r.size:Int)==32)=false:=beq_eq_false_iff_ne.2 (by omega)
      go_enter Tryz.func44,Tryz.ntmps44
      go_wp2_with fail
      go_ret
      exact⟨rfl,(Below.refl _ _).alloc (Nat.le_refl _) _⟩
theorem right_spec (z b:Int) (r:ByteArray) (w:World) :
  Calls Tryz.prog 11 #[lV z b r] w fun e w'=>e=.returned (.bool (rightB z b r))/\Below w.heap.size w w':=by
 unfold lV
 have hbl:∀ o,Below w.heap.size w (w.alloc o):=fun o=>(Below.refl _ _).alloc (Nat.le_refl _) _
 by_cases h1:0<=z/\z<=1000
 ·have H1:=hideL (fun W=>is_yes z 0 1000 W h1.1 h1.2)
  obtain⟨p,rfl⟩:=Int.eq_ofNat_of_zero_le h1.1
  by_cases h2:1<=b/\b<=48
  ·have H2:=hideL (fun W=>is_yes b 1 48 W h2.1 h2.2)
   obtain⟨k,rfl⟩:=Int.eq_ofNat_of_zero_le (show 0<=b by omega)
   by_cases h5:r.size=32
   ·have h5':((r.size:Int)==32)=true:=by rw[h5];rfl
    have HC:=hideL (fun W=>count_any p k W (by omega) (by omega) (by omega))
    have HE:=hideL (cnt_le (p:=p) (k:=k) (by omega))
    have H12:=hideL (And.intro h1 h2)
    have H5:=hideL h5
    clear h1 h2 h5
    by_cases h6:cnt p k<=64
    ·have HF:Hid (rightB p k r=true):=by unfold Hid rightB;have:=HE.out.1 h6;have:=H12.out;have:=H5.out;simp;omega
     have h6':((cnt p k:Nat):Int)<=64:=by omega
     rw[HF.out]
     generalize cnt p k=c at HC h6'
     clear h6 HE HF H12 H5
     go_enter Tryz.func11,Tryz.ntmps11
     go_wp2_with fail
     refine(H1.out _).mono ?_
     rintro e w1 ⟨rfl,hw⟩
     subst w1
     go_wp2_with fail
     refine(H2.out _).mono ?_
     rintro e w1 ⟨rfl,hw⟩
     subst w1
     go_wp2_with fail
     refine(HC.out _).mono ?_
     rintro e w1 ⟨rfl,hw⟩
     subst w1
     go_wp2_with fail
     go_ret
     exact⟨rfl,hbl _⟩
    ·have HF:Hid (rightB p k r=false):=by unfold Hid rightB;have:=HE.out.2;have:=H12.out;have:=H5.out;simp;omega
     have h6':decide (((cnt p k:Nat):Int)<=64)=false:=by simp;omega
     rw[HF.out]
     generalize cnt p k=c at HC h6'
     clear h6 HE HF H12 H5
     go_enter Tryz.func11,Tryz.ntmps11
     go_wp2_with fail
     refine(H1.out _).mono ?_
     rintro e w1 ⟨rfl,hw⟩
     subst w1
     go_wp2_with fail
     refine(H2.out _).mono ?_
     rintro e w1 ⟨rfl,hw⟩
     subst w1
     go_wp2_with fail
     refine(HC.out _).mono ?_
     rintro e w1 ⟨rfl,hw⟩
     subst w1
     go_wp2_with fail
     go_ret
     exact⟨rfl,hbl _⟩
   ·have HF:Hid (rightB p k r=false):=by unfold Hid rightB;simp;omega
    rw[HF.out]
    have h5':((r.size:Int)==32)=false:=beq_eq_false_iff_ne.2 (by omega)
    clear HF
    go_enter Tryz.func11,Tryz.ntmps11
    go_wp2_with fail
    refine(H1.out _).mono ?_
    rintro e w1 ⟨rfl,hw⟩
    subst w1
    go_wp2_with fail
    refine(H2.out _).mono ?_
    rintro e w1 ⟨rfl,hw⟩
    subst w1
    go_wp2_with fail
    go_ret
    exact⟨rfl,hbl _⟩
  ·have H2:=hideL (fun W=>is_no b 1 48 W (by omega))
   have HF:Hid (rightB p b r=false):=by unfold Hid rightB;simp;omega
   rw[HF.out]
   clear HF h2
   go_enter Tryz.func11,Tryz.ntmps11
   go_wp2_with fail
   refine(H1.out _).mono ?_
   rintro e w1 ⟨rfl,hw⟩
   subst w1
   go_wp2_with fail
   refine(H2.out _).mono ?_
   rintro e w1 ⟨rfl,hw⟩
   subst w1
   go_wp2_with fail
   go_ret
   exact⟨rfl,hbl _⟩
 ·have H1:=hideL (fun W=>is_no z 0 1000 W (by omega))
  have HF:Hid (rightB z b r=false):=by unfold Hid rightB;simp;omega
  rw[HF.out]
  clear HF h1
  go_enter Tryz.func11,Tryz.ntmps11
  go_wp2_with fail
  refine(H1.out _).mono ?_
  rintro e w1 ⟨rfl,hw⟩
  subst w1
  go_wp2_with fail
  go_ret
  exact⟨rfl,hbl _⟩
theorem count_impl (z b:Int) (r:ByteArray) (w:World) :
  Calls Tryz.prog 28 #[lV z b r] w fun e w'=>e=.returned (.int .i64 (countN z b r:Nat))/\Below w.heap.size w w':=by
 have HR:=hideL (fun W=>right_impl z b r W)
 cases hc:rightB z b r with
 |false =>
  have HF:=hideL (countN_no hc)
  rw[hc]at HR
  rw[HF.out]
  clear HF hc
  unfold lV at HR ⊢
  go_enter Tryz.func28,Tryz.ntmps28
  go_wp2_with fail
  refine(HR.out _).mono ?_
  rintro e w1 ⟨rfl,hb1⟩
  have HB1:=hideL (((Below.refl w.heap.size w).alloc (Nat.le_refl _) _).trans (hb1.mono (by simp)))
  clear hb1
  go_wp2_with fail
  go_ret
  exact⟨rfl,HB1.out⟩
 |true =>
  have h1:=rightB_yes hc
  obtain⟨p,rfl⟩:=Int.eq_ofNat_of_zero_le h1.1
  obtain⟨k,rfl⟩:=Int.eq_ofNat_of_zero_le (show 0<=b by omega)
  obtain⟨HF,hcb⟩:=countN_yes hc
  have HF:=hideL HF
  rw[HF.out]
  have hq:((p:Int)+k-1).tdiv k=((cnt p k:Nat):Int):=by
   unfold cnt
   rw[Int.tdiv_eq_ediv_of_nonneg (by omega),Int.natCast_ediv]
   congr 1
   omega
  have hk0:((k:Int)==0)=false:=by simp;omega
  rw[hc]at HR
  clear HF hc
  generalize cnt p k=c at hq hcb ⊢
  obtain⟨v,hv⟩:∃ v,v=lV p k r:=⟨_,rfl⟩
  unfold lV at HR ⊢
  go_enter Tryz.func28,Tryz.ntmps28
  go_wp2_with fail
  have HX:Hid ((w.alloc (.cells #[.int .i64 p,.int .i64 k,.string r] 30)).heap[w.heap.size]? = some (.cells #[.int .i64 p,.int .i64 k,.string r] 30 (0,0))):=heap_alloc_new w _
  refine(HR.out _).mono ?_
  rintro e w1 ⟨rfl,hb1⟩
  have HB1:=hideL (((Below.refl w.heap.size w).alloc (Nat.le_refl _) _).trans (hb1.mono (by simp)))
  have HX1:=hideL ((hb1.block _ (by simp)).trans HX.out)
  clear hb1 HX
  have c0:w1.cell? ⟨w.heap.size,0,none⟩=some (.int .i64 p):=cell_of_row w1 _ 0 _ _ _ HX1.out
  have c1:w1.cell? ⟨w.heap.size,1,none⟩=some (.int .i64 k):=cell_of_row w1 _ 1 _ _ _ HX1.out
  go_wp2_with fail
  go_ret
  exact⟨rfl,HB1.out⟩
theorem count_spec (z b:Int) (r:ByteArray) (w:World) :
  Calls Tryz.prog 10 #[lV z b r] w fun e w'=>e=.returned (.int .i64 (countN z b r:Nat))/\Below w.heap.size w w':=by
 have HR:=hideL (fun W=>right_spec z b r W)
 cases hc:rightB z b r with
 |false =>
  have HF:=hideL (countN_no hc)
  rw[hc]at HR
  rw[HF.out]
  clear HF hc
  unfold lV at HR ⊢
  go_enter Tryz.func10,Tryz.ntmps10
  go_wp2_with fail
  refine(HR.out _).mono ?_
  rintro e w1 ⟨rfl,hb1⟩
  have HB1:=hideL (((Below.refl w.heap.size w).alloc (Nat.le_refl _) _).trans (hb1.mono (by simp)))
  clear hb1
  go_wp2_with fail
  go_ret
  exact⟨rfl,HB1.out⟩
 |true =>
  have h1:=rightB_yes hc
  obtain⟨p,rfl⟩:=Int.eq_ofNat_of_zero_le h1.1
  obtain⟨k,rfl⟩:=Int.eq_ofNat_of_zero_le (show 0<=b by omega)
  obtain⟨HF,hcb⟩:=countN_yes hc
  have HF:=hideL HF
  rw[HF.out]
  have HC:=hideL (fun W=>count_any p k W (by omega) (by omega) (by omega))
  rw[hc]at HR
  clear HF hc
  generalize cnt p k=c at hcb HC ⊢
  unfold lV at HR ⊢
  go_enter Tryz.func10,Tryz.ntmps10
  go_wp2_with fail
  have HX:Hid ((w.alloc (.cells #[.int .i64 p,.int .i64 k,.string r] 30)).heap[w.heap.size]? = some (.cells #[.int .i64 p,.int .i64 k,.string r] 30 (0,0))):=heap_alloc_new w _
  refine(HR.out _).mono ?_
  rintro e w1 ⟨rfl,hb1⟩
  have HB1:=hideL (((Below.refl w.heap.size w).alloc (Nat.le_refl _) _).trans (hb1.mono (by simp)))
  have HX1:=hideL ((hb1.block _ (by simp)).trans HX.out)
  clear hb1 HX
  have c0:w1.cell? ⟨w.heap.size,0,none⟩=some (.int .i64 p):=cell_of_row w1 _ 0 _ _ _ HX1.out
  have c1:w1.cell? ⟨w.heap.size,1,none⟩=some (.int .i64 k):=cell_of_row w1 _ 1 _ _ _ HX1.out
  go_wp2_with fail
  refine(HC.out _).mono ?_
  rintro e w2 ⟨rfl,hw⟩
  subst w2
  go_wp2_with fail
  go_ret
  exact⟨rfl,HB1.out⟩
end Go.Proofs.YtjfdllgodijibaaGreatDoor.Ls


/- A List handed to a law: its bytes counted, and the List of impl made of it. -/
namespace Go.Proofs.YtjfdllgodijibaaGreatDoor.Ls
open Go.RowKit
theorem blkL {w w':World} {g:Nat} {x:Obj} (h:w.heap[g]? = some x) (hb:Below w.heap.size w w'):w'.heap[g]? = some x:=(hb.block g (Array.getElem?_eq_some_iff.1 h).1).trans h
theorem lowL {w0 w w':World} (h:Below w0.heap.size w0 w) (hb:Below w.heap.size w w'):Below w0.heap.size w0 w':=h.trans (hb.mono h.size)
theorem cells3 {W:World} {g:Nat} {x y z:Value} {t:TypeId} (h:W.heap[g]? = some (.cells #[x,y,z] t (0,0))):W.cell? ⟨g,0,none⟩=some x/\W.cell? ⟨g,1,none⟩=some y/\W.cell? ⟨g,2,none⟩=some z :=
 ⟨cell_of_row W g 0 _ _ _ h,cell_of_row W g 1 _ _ _ h,cell_of_row W g 2 _ _ _ h⟩
end Go.Proofs.YtjfdllgodijibaaGreatDoor.Ls


/- The walk of spec.Included. -/
namespace Go.Proofs.YtjfdllgodijibaaGreatDoor.Tr
open Go.RowKit
open St
open Sh (nodeV nodeV_size l03Node_any)
theorem od_pos (a:Nat) (h:0<a):od a%2=1/\0<od a/\od a<=a:=by
 induction a using Nat.strongRecOn with
 |ind a ih =>
  by_cases he:a%2=0
  ·rw[od_even a he h]
   have:=ih (a/2) (by omega) (by omega)
   omega
  ·rw[od_odd a (by omega)]
   omega
end Go.Proofs.YtjfdllgodijibaaGreatDoor.Tr


namespace Go.Proofs.YtjfdllgodijibaaGreatDoor.Ls
open Go.RowKit
open Bk (cnt count_any)
open Bi (is_yes is_no)
open Tr (inclB incl_impl inclB_leaf)
open Sh (Vars leafR leafV leafR_no leafR_yes leaf_impl l03Leaf_any)
open St (Strs)
def fitsB (z b:Int) (r:ByteArray) (i:Int) (t:ByteArray) (p:List ByteArray):Bool:=inclB (leafR t) i ((countN z b r:Nat):Int) p r
theorem mixedF:Tryz.prog.follows .mixedOrders=true:=by kernel_rfl
theorem vars_keepF {w w':World} (h:Vars w) (hb:Below w.heap.size w w'):Vars w':=h.below hb h.two
theorem fits_impl (z b:Int) (r:ByteArray) (i:Int) (t:ByteArray) (p:List ByteArray) (a:Option Addr) (cap m:Nat) (w:World) (ht:t.size<=maxLen) (hm:m=p.length) (hp:m<=1048576) (hcap:m<=cap) (hs:Strs w w.heap.size a p) (hV:Vars w) :
  Calls Tryz.prog 12 #[lV z b r,.int .i64 i,.string t,.slice a m cap] w fun e w'=>e=.returned (.bool (fitsB z b r i t p))/\Below w.heap.size w w':=by
 have HA:Hid (Below w.heap.size w (w.alloc (.cells #[.int .i64 z,.int .i64 b,.string r] 30))):=(Below.refl _ _).alloc (Nat.le_refl _) _
 have HX:Hid ((w.alloc (.cells #[.int .i64 z,.int .i64 b,.string r] 30)).heap[w.heap.size]? = some (.cells #[.int .i64 z,.int .i64 b,.string r] 30 (0,0))):=heap_alloc_new w _
 have HC:=hideL (fun W=>count_impl z b r W)
 have HL:=hideL (fun W h=>leaf_impl t W ht h)
 have HCL:=countN_le z b r
 have HI:Hid (∀ W,Below w.heap.size w W->Calls Tryz.prog 26 #[.string (leafR t),.int .i64 i,.int .i64 (countN z b r:Nat),.slice a m cap,.string r] W fun e w'=>e=.returned (.bool (fitsB z b r i t p))/\Below W.heap.size W w'):=fun W h=>by
  have:=incl_impl (leafR t) r i (countN z b r:Nat) p a cap W.heap.size W (by omega) (by omega) (by omega) ((hs.below h).mono h.size) (Nat.le_refl _) (vars_keepF hV h)
  rw[<-hm]at this
  exact this
 have HV:Hid (∀ W,Below w.heap.size w W->Vars W):=fun W h=>vars_keepF hV h
 have hmx:=mixedF
 clear hs hV hm
 unfold lV at HC ⊢
 generalize fitsB z b r i t p=Q at HI ⊢
 generalize leafR t=lf at HI HL
 generalize countN z b r=cn at HI HC
 go_enter Tryz.func12,Tryz.ntmps12
 go_wp2_with fail
 generalize hww:w.alloc (.cells #[.int .i64 z,.int .i64 b,.string r] 30)=wa at HA HX ⊢
 clear hww
 obtain⟨c0,c1,c2⟩:=cells3 HX.out
 generalize w.heap.size=gx at c0 c1 c2 ⊢
 have g0:=fun d os=>cell_regrown c0 d os
 have g1:=fun d os=>cell_regrown c1 d os
 have g2:=fun d os=>cell_regrown c2 d os
 refine wp_region_quiet_below (by assumption) (by kernel_rfl) ?_
 repeat (quiet_step (first|(go_at_call 27;exact Calls.regrown_of (HL.out _ (HV.out _ (lowL HA.out (below_regrown _ _ _)))))|(go_at_call 28;exact Calls.regrown_of (HC.out _))|(go_at_call 26;exact Calls.regrown_of (HI.out _ (lowL HA.out (below_regrown _ _ _))))))
 refine wpQuiet_nil ?_
 intro _ hw'
 obtain⟨⟨dq,osq⟩,hw''⟩:=hw'
 subst hw''
 have KQ:=hideL (below_regrown wa dq osq)
 generalize Go.Sort.grow (redrawn wa dq) osq=w8 at KQ ⊢
 clear g0 g1 g2 c0 c1 c2
 go_wp2_with fail
 go_ret
 exact⟨rfl,lowL HA.out KQ.out⟩
end Go.Proofs.YtjfdllgodijibaaGreatDoor.Ls


/- What holds of a way: each digest stands in the next text; a piece fits just if the last digest is the root. -/
namespace Go.Proofs.YtjfdllgodijibaaGreatDoor.Tr
open Sh (nodeV leafV digestV sha_size leafV_size nodeV_size leafR leafR_yes leafR_no)
open Ls (fitsB rightB countN)
theorem gS_inv {P:WS->Prop} (hL:∀ s x,s.size=32->P x->P (wL s x)) (hR:∀ s x,s.size=32->P x->P (wR x s)):∀ (p:List ByteArray) (a last:Nat) (x y:WS),(∀ s∈p,s.size=32)->P x->gS wL wR a last p x=some y->P y
 |[],a,last,x,y,_,hx,h=>by
  rw[gS_nil]at h
  split at h
  ·cases h
   exact hx
  ·cases h
 |s :: p,a,last,x,y,hp,hx,h=>by
  have h1:=hp s List.mem_cons_self
  have h2:∀ q∈p,q.size=32:=fun q hq=>hp q (List.mem_cons_of_mem _ hq)
  rw[gS]at h
  split at h
  ·cases h
  ·split at h
   ·exact gS_inv hL hR p _ _ _ _ h2 (hL s x h1 hx) h
   ·split at h
    ·exact gS_inv hL hR p _ _ _ _ h2 (hL s x h1 hx) h
    ·exact gS_inv hL hR p _ _ _ _ h2 (hR s x h1 hx) h
def Chn (x:WS):Prop:=x.1.size=32/\Top x/\∀ j (h:j+1<x.2.length),∃ a b,x.2[j+1]=.node a b/\a.size=32/\b.size=32/\(a=(x.2[j]'(by omega)).dig∨b=(x.2[j]'(by omega)).dig)
theorem chn_w0 (t:ByteArray):Chn (w0 t):=⟨leafV_size t,top_w0 t,fun j h=>by simp[w0]at h⟩
theorem chn_snoc {x:WS} {l r d:ByteArray} (hx:Chn x) (hl:l.size=32) (hr:r.size=32) (hd:l=x.1∨r=x.1) (hs:d.size=32) (he:(Stp.node l r).dig=d):Chn (d,x.2++[.node l r]):=by
 obtain⟨h1,⟨q,s,hq,hsd⟩,h3⟩:=hx
 refine⟨hs,⟨x.2,.node l r,rfl,he⟩,fun j hj=>?_⟩
 have hj':j+1<(x.2++[Stp.node l r]).length:=hj
 rw[List.length_append]at hj'
 simp at hj'
 by_cases hlt:j+1<x.2.length
 ·obtain⟨a,b,e1,e2,e3,e4⟩:=h3 j hlt
  refine⟨a,b,?_,e2,e3,?_⟩
  ·show (x.2++[Stp.node l r])[j+1]=_
   rw[List.getElem_append_left hlt]
   exact e1
  ·show a=((x.2++[Stp.node l r])[j]'(by rw[List.length_append];simp;omega)).dig∨b=_
   rw[List.getElem_append_left (by omega)]
   exact e4
 ·have hje:j+1=x.2.length:=by omega
  refine⟨l,r,?_,hl,hr,?_⟩
  ·show (x.2++[Stp.node l r])[j+1]=_
   rw[List.getElem_append_right (by omega)]
   simp[hje]
  ·show l=((x.2++[Stp.node l r])[j]'(by rw[List.length_append];simp;omega)).dig∨r=_
   rw[List.getElem_append_left (by omega)]
   have hlast:x.2[j]'(by omega)=s:=by
    have:(q++[s])[j]'(by rw[<-hq];omega)=s:=by
     rw[List.getElem_append_right (by have:=congrArg List.length hq;rw[List.length_append]at this;simp at this;omega)]
     simp
    rw[<-this]
    congr 1
   rw[hlast,hsd]
   exact hd
theorem chn_wL (s:ByteArray) (x:WS) (hs:s.size=32) (hx:Chn x):Chn (wL s x):=chn_snoc hx hs hx.1 (.inr rfl) (nodeV_size _ _) rfl
theorem chn_wR (s:ByteArray) (x:WS) (hs:s.size=32) (hx:Chn x):Chn (wR x s):=chn_snoc hx hx.1 hs (.inl rfl) (nodeV_size _ _) rfl
theorem way_chn {n i:Nat} {p:List ByteArray} {t:ByteArray} {x:WS} (hi:i<n) (hw:wide p=true) (h:wayR n i p t=some x):Chn x:=by
 rw[way_same n i p t hi]at h
 refine gS_inv chn_wL chn_wR p _ _ _ _ (fun s hs=>?_) (chn_w0 t) h
 obtain⟨j,hj,rfl⟩:=List.getElem_of_mem hs
 exact(wide_yes p).1 hw j hj
theorem node_parts (a b:ByteArray) (ha:a.size=32) (hb:b.size=32):(Stp.node a b).text.size=65/\(Stp.node a b).text.extract 1 33=a/\(Stp.node a b).text.extract 33 65=b:=by
 have h1:(Stp.node a b).text=⟨#[1]⟩++a++b:=rfl
 rw[h1]
 refine⟨by rw[ByteArray.size_append,ByteArray.size_append,ha,hb];rfl,?_,?_⟩
 ·apply ByteArray.ext
  apply Array.ext'
  rw[ByteArray.data_extract,ByteArray.data_append,ByteArray.data_append,Array.toList_extract]
  rw[show ((⟨#[1]⟩:ByteArray).data++a.data++b.data).toList=[1]++(a.data.toList++b.data.toList) by simp]
  have hl:a.data.toList.length=32:=by rw[Array.length_toList];exact ha
  rw[List.extract_eq_take_drop]
  show List.take 32 (a.data.toList++b.data.toList)=_
  rw[List.take_append_of_le_length (by omega),List.take_of_length_le (by omega)]
 ·apply ByteArray.ext
  apply Array.ext'
  rw[ByteArray.data_extract,ByteArray.data_append,ByteArray.data_append,Array.toList_extract]
  rw[show ((⟨#[1]⟩:ByteArray).data++a.data++b.data).toList=([1]++a.data.toList)++b.data.toList by simp]
  have hl:([1]++a.data.toList).length=33:=by rw[List.length_append,Array.length_toList];exact congrArg (1 + ·) ha
  have hl2:b.data.toList.length=32:=by rw[Array.length_toList];exact hb
  rw[List.extract_eq_take_drop,List.drop_append_of_le_length (by omega),List.drop_of_length_le (by omega)]
  show List.take 32 b.data.toList=_
  rw[List.take_of_length_le (by omega)]
theorem way_next {i n:Int} {t:ByteArray} {p:List ByteArray} (j:Nat) (h:j+1<(wayL i n t p).length):(wayL i n t p)[j+1].size=65/\((wayL i n t p)[j+1].extract 1 33=digestV ((wayL i n t p)[j]'(by omega))∨(wayL i n t p)[j+1].extract 33 65=digestV ((wayL i n t p)[j]'(by omega))):=by
 cases hx:wayX i n t p with
 |none=>rw[wayL_none hx]at h;cases h
 |some x =>
  have hok:okW i n t p:=by
   by_cases hk:okW i n t p
   ·exact hk
   ·rw[wayX_no hk]at hx;cases hx
  obtain⟨i',rfl⟩:=Int.eq_ofNat_of_zero_le hok.1
  obtain⟨n',rfl⟩:=Int.eq_ofNat_of_zero_le (show 0<=n by have:=hok.2.1;omega)
  rw[wayX_yes hok]at hx
  have hin:i' < n':=by have:=hok.2.1;omega
  have hc:=way_chn hin hok.2.2.2.2.2 hx
  have hg:=(gR_good hok.2.2.2.1 n' n' i' p x ((wide_yes p).1 hok.2.2.2.2.2) hx).1
  have hL:wayL (i':Int) (n':Int) t p=x.2.map Stp.text:=wayL_some (by rw[wayX_yes hok];exact hx)
  have hlen:j+1<x.2.length:=by rw[hL,List.length_map]at h;exact h
  obtain⟨a,b,e1,e2,e3,e4⟩:=hc.2.2 j hlen
  have g1:(wayL (i':Int) (n':Int) t p)[j+1]=(x.2[j+1]).text:=by simp only[hL,List.getElem_map]
  have g0:(wayL (i':Int) (n':Int) t p)[j]'(by omega)=(x.2[j]'(by omega)).text:=by simp only[hL,List.getElem_map]
  have hsz:(x.2[j]'(by omega)).text.size<=101:=by
   have hf:=hg.2.1 (x.2[j]'(by omega)) (List.getElem_mem _)
   generalize x.2[j]'(by omega)=s at hf
   cases s with
   |leaf q =>
    have h1:q.size<=100:=hf
    show ((⟨#[0]⟩:ByteArray)++q).size<=101
    rw[ByteArray.size_append]
    show 1+q.size<=101
    omega
   |node l r =>
    have h1:l.size=32/\r.size=32:=hf
    have:=(node_parts l r h1.1 h1.2).1
    omega
  have hd:digestV ((wayL (i':Int) (n':Int) t p)[j]'(by omega))=(x.2[j]'(by omega)).dig:=by
   rw[g0,Stp.sha]
   exact if_pos (by omega)
  rw[hd,g1,e1]
  obtain⟨p1,p2,p3⟩:=node_parts a b e2 e3
  rw[p2,p3]
  exact⟨p1,e4⟩
theorem fits_way {z b:Int} {r:ByteArray} {i:Int} {t:ByteArray} {p:List ByteArray} (hr:rightB z b r=true) (h:0<(wayL i (countN z b r:Nat) t p).length):fitsB z b r i t p=decide (digestV ((wayL i (countN z b r:Nat) t p)[(wayL i (countN z b r:Nat) t p).length-1]'(by omega))=r):=by
 cases hx:wayX i (countN z b r:Nat) t p with
 |none=>rw[wayL_none hx]at h;cases h
 |some x =>
  have hok:okW i (countN z b r:Nat) t p:=by
   by_cases hk:okW i (countN z b r:Nat) t p
   ·exact hk
   ·rw[wayX_no hk]at hx;cases hx
  obtain⟨i',rfl⟩:=Int.eq_ofNat_of_zero_le hok.1
  rw[wayX_yes hok]at hx
  have hin:i' < countN z b r:=by have:=hok.2.1;omega
  have hc:=way_chn hin hok.2.2.2.2.2 hx
  have hg:=(gR_good hok.2.2.2.1 _ _ i' p x ((wide_yes p).1 hok.2.2.2.2.2) hx).1
  have hL:wayL (i':Int) (countN z b r:Nat) t p=x.2.map Stp.text:=wayL_some (by rw[wayX_yes hok];exact hx)
  obtain⟨q,s,hq,hsd⟩:=hc.2.1
  have hfs:Fit s:=hg.2.1 s (by rw[hq];exact List.mem_append_right _ List.mem_cons_self)
  have hsz:s.text.size<=101:=by
   cases s with
   |leaf q =>
    have h1:q.size<=100:=hfs
    show ((⟨#[0]⟩:ByteArray)++q).size<=101
    rw[ByteArray.size_append]
    show 1+q.size<=101
    omega
   |node l r =>
    have h1:l.size=32/\r.size=32:=hfs
    have:=(node_parts l r h1.1 h1.2).1
    omega
  have hlast:(wayL (i':Int) (countN z b r:Nat) t p)[(wayL (i':Int) (countN z b r:Nat) t p).length-1]'(by omega)=s.text:=by
   simp only[hL,hq,List.map_append,List.map_cons,List.map_nil]
   simp
  have hdl:digestV s.text=x.1:=by
   rw[<-hsd,Stp.sha]
   exact if_pos (by omega)
  rw[hlast,hdl]
  have hi:=way_incl (countN z b r) i' p t hin
  rw[hx]at hi
  unfold fitsB inclB
  have hr32:=(Ls.rightB_yes hr).2.2.2.2.1
  rw[leafR_yes t (by have:=hok.2.2.2.1;omega),decide_eq_true (leafV_size t),decide_eq_true hr32,decide_eq_true hok.2.2.2.2.1,hok.2.2.2.2.2,decide_eq_true (show (0:Int)<=(i':Int) by omega),decide_eq_true (show (i':Int)<((countN z b r:Nat):Int) by omega)]
  simp only[Int.toNat_natCast,<-hi,Option.map_some,Bool.and_self,Bool.true_and,Option.some.injEq]
theorem fits_noway {z b:Int} {r:ByteArray} {i:Int} {t:ByteArray} {p:List ByteArray} (h:wayL i (countN z b r:Nat) t p=[]):fitsB z b r i t p=false:=by
 by_cases hok:okW i (countN z b r:Nat) t p
 ·obtain⟨i',rfl⟩:=Int.eq_ofNat_of_zero_le hok.1
  have hin:i' < countN z b r:=by have:=hok.2.1;omega
  have hi:=way_incl (countN z b r) i' p t hin
  cases hx:wayR (countN z b r) i' p t with
  |none =>
   rw[hx]at hi
   unfold fitsB inclB
   rw[leafR_yes t (by have:=hok.2.2.2.1;omega)]
   simp only[Int.toNat_natCast,<-hi,Option.map_none]
   simp
  |some x =>
   have hL:wayL (i':Int) (countN z b r:Nat) t p=x.2.map Stp.text:=wayL_some (by rw[wayX_yes hok];exact hx)
   obtain⟨q,s,hq,_⟩:=(way_chn hin hok.2.2.2.2.2 hx).2.1
   rw[hL,hq]at h
   simp at h
 ·unfold okW at hok
  unfold fitsB
  by_cases h1:100<t.size
  ·exact inclB_leaf _ _ _ _ _ (by rw[leafR_no t h1];decide)
  ·by_cases h2:i<0
   ·exact inclB_low _ _ _ _ _ h2
   ·by_cases h3:i<((countN z b r:Nat):Int)
    ·have h4:=Ls.countN_le z b r
     refine inclB_path _ _ _ _ _ ?_
     rw[<-Bool.not_eq_true]
     intro hq
     simp only[Bool.and_eq_true,decide_eq_true_eq]at hq
     exact hok ⟨by omega,h3,by omega,by omega,hq.1,hq.2⟩
    ·exact inclB_high _ _ _ _ _ h3
end Go.Proofs.YtjfdllgodijibaaGreatDoor.Tr


namespace Go.Proofs.YtjfdllgodijibaaGreatDoor.Dr
open Go.RowKit
theorem hideD {p:Prop} (h:p):Hid p:=h
def Row (w:World) (B:Nat) (a:Option Addr) (len:Nat):Prop :=
 len=0∨∃ b off,a=some ⟨b,off,none⟩/\b<B/\∀ i,i<len->∃ z:Int,w.cell? ⟨b,off+i,none⟩=some (.int .u8 z)/\0<=z/\z<=255
def Src (w:World) (B:Nat) (a:Option Addr) (len cap:Nat):Prop :=
 Row w B a len/\∃ at_ mix size:Int,w.heap[B]? = some (.cells #[.slice a len cap,.int .i64 at_,.int .u64 mix,.int .i64 size] 60 (0,0)) /\
  0<=at_/\at_<=len/\0<=mix/\mix<=18446744073709551615/\0<=size/\size<=12
theorem wrap64_bd (x:Int):0<=IntKind.u64.wrap x/\IntKind.u64.wrap x<=18446744073709551615:=by rw[IntKind.wrap_u64];omega
theorem xor_bd (x y:Int) (h0:0<=x) (h1:x<=18446744073709551615) (h2:0<=y) (h3:y<=18446744073709551615) :
  0<=bits BinOp.xor IntKind.u64 x y/\bits BinOp.xor IntKind.u64 x y<=18446744073709551615:=by
 obtain⟨m,rfl⟩:=Int.eq_ofNat_of_zero_le h0
 obtain⟨n,rfl⟩:=Int.eq_ofNat_of_zero_le h2
 rw[u64_xor_nat m n (by omega) (by omega)]
 have:=Nat.xor_lt_two_pow (n:=64) (x:=m) (y:=n) (by omega) (by omega)
 omega
theorem sc1 {W:World} {p:Addr} {x:Value} (h:W.cell? p=some x) (v:Value):(W.setCell p v).cell? p=some v:=by
 exact World.cell?_setCell_same W p v h
theorem sc2 {W:World} {p:Addr} {x:Value} (h:W.cell? p=some x) (v v2:Value):((W.setCell p v).setCell p v2).cell? p=some v2:=sc1 (sc1 h v) v2
theorem sc3 {W:World} {p:Addr} {x:Value} (h:W.cell? p=some x) (v v2 v3:Value):(((W.setCell p v).setCell p v2).setCell p v3).cell? p=some v3:=sc1 (sc2 h v v2) v3
def Only (B:Nat) (w w':World):Prop:=w'.os=w.os/\w'.tape=w.tape/\w'.output=w.output/\w'.heap.size=w.heap.size/\∀ k,k≠B->w'.heap[k]? = w.heap[k]?
theorem Only.refl (B:Nat) (w:World):Only B w w:=⟨rfl,rfl,rfl,rfl,fun _ _=>rfl⟩
theorem Only.drew {B:Nat} {w w':World} (h:Only B w w'):Only B w w'.drew:=h
theorem Only.drewN {B:Nat} (w:World) (n:Nat):Only B w (w.drewN n):=⟨rfl,rfl,rfl,rfl,fun _ _=>rfl⟩
theorem Only.set {B:Nat} {w w':World} (h:Only B w w') (o:Nat) (v:Value):Only B w (w'.setCell ⟨B,o,none⟩ v) :=
 ⟨h.1,h.2.1,h.2.2.1,by simpa [World.setCell] using h.2.2.2.1,fun k hk=>(heap_setCell_other w' ⟨B,o,none⟩ k v hk).trans (h.2.2.2.2 k hk)⟩
theorem Only.trans {B:Nat} {a b c:World} (h:Only B a b) (k:Only B b c):Only B a c :=
 ⟨k.1.trans h.1,k.2.1.trans h.2.1,k.2.2.1.trans h.2.2.1,k.2.2.2.1.trans h.2.2.2.1,fun i hi=>(k.2.2.2.2 i hi).trans (h.2.2.2.2 i hi)⟩
theorem Only.below {B C:Nat} {w0 w w':World} (hb:Below C w0 w) (h:Only B w w') (hC:C<=B):Below C w0 w' :=
 hb.trans ⟨h.1,h.2.1,h.2.2.1,by rw[h.2.2.2.1];exact Nat.le_refl _,fun k hk=>h.2.2.2.2 k (by omega)⟩
theorem Only.row {B:Nat} {w w':World} {a:Option Addr} {len:Nat} (h:Only B w w') (hr:Row w B a len):Row w' B a len:=by
 rcases hr with h0|⟨b,off,rfl,hb,hc⟩
 ·exact .inl h0
 ·refine .inr ⟨b,off,rfl,hb,fun i hi=>?_⟩
  obtain⟨z,hz,h1,h2⟩:=hc i hi
  exact⟨z,(World.cell?_of_block (w:=w) (a:=⟨b,off+i,none⟩) (h.2.2.2.2 b (Nat.ne_of_lt hb))).trans hz,h1,h2⟩
theorem rem_bd (y most:Int) (h0:0<=y) (h1:1<most) (h2:most<=9223372036854775807):0<=wrap64 (y.tmod most)/\wrap64 (y.tmod most)<most:=by
 rw[Int.tmod_eq_emod_of_nonneg h0]
 have a1:=Int.emod_nonneg y (show most≠0 by omega)
 have a2:=Int.emod_lt_of_pos y (show 0<most by omega)
 simp only[wrap64]
 omega
theorem src_set {w w':World} {B:Nat} {a:Option Addr} {len cap:Nat} {at_ mix size:Int} (hr:Row w B a len) (ho:Only B w w')
  (hb:w'.heap[B]? = some (.cells #[.slice a len cap,.int .i64 at_,.int .u64 mix,.int .i64 size] 60 (0,0)))
  (h1:0<=at_) (h2:at_<=len) (h3:0<=mix/\mix<=18446744073709551615) (h4:0<=size) (h5:size<=12):Src w' B a len cap :=
 ⟨ho.row hr,at_,mix,size,hb,h1,h2,h3.1,h3.2,h4,h5⟩
theorem blk_set {W:World} {B:Nat} {x0 x1 x2 x3:Value} {T:TypeId} (h:W.heap[B]? = some (.cells #[x0,x1,x2,x3] T (0,0))) (v:Value) :
  (W.setCell ⟨B,2,none⟩ v).heap[B]? = some (.cells #[x0,x1,v,x3] T (0,0)):=by
 rw[heap_setCell_same W B 2 _ T v h];rfl
theorem blk_set1 {W:World} {B:Nat} {x0 x1 x2 x3:Value} {T:TypeId} (h:W.heap[B]? = some (.cells #[x0,x1,x2,x3] T (0,0))) (v:Value) :
  (W.setCell ⟨B,1,none⟩ v).heap[B]? = some (.cells #[x0,v,x2,x3] T (0,0)):=by
 rw[heap_setCell_same W B 1 _ T v h];rfl
theorem step1 (m:Int) (h:0<=m/\m<=18446744073709551615) (y:Int):0<=bits BinOp.xor IntKind.u64 m (IntKind.u64.wrap y)/\bits BinOp.xor IntKind.u64 m (IntKind.u64.wrap y)<=18446744073709551615 :=
 xor_bd m _ h.1 h.2 (wrap64_bd y).1 (wrap64_bd y).2
theorem step2 (m:Int) (h:0<=m/\m<=18446744073709551615):0<=bits BinOp.xor IntKind.u64 m (m/128)/\bits BinOp.xor IntKind.u64 m (m/128)<=18446744073709551615 :=
 xor_bd m _ h.1 h.2 (by omega) (by omega)
theorem n_past (B:Nat) (a:Option Addr) (len cap:Nat) (most at_ mix size:Int) (w:World) (hm:1<most) (hm2:most<=9223372036854775807) (hr:Row w B a len)
  (hb:w.heap[B]? = some (.cells #[.slice a len cap,.int .i64 at_,.int .u64 mix,.int .i64 size] 60 (0,0)))
  (h0:0<=at_) (h1:¬at_<len) (h1':at_<=len) (h2:0<=mix) (h3:mix<=18446744073709551615) (h4:0<=size) (h5:size<=12) :
  Calls Tryz.prog 17 #[.pointer (some ⟨B,0,none⟩),.int .i64 most] w fun e w'=>∃ r,e=.returned (.int .i64 r)/\0<=r/\r<most/\Src w' B a len cap/\Only B w w':=by
 have c0:w.cell? ⟨B,0,none⟩=some (.slice a len cap):=by rw[cell_of_row w B 0 _ _ _ hb];rfl
 have c1:w.cell? ⟨B,1,none⟩=some (.int .i64 at_):=by rw[cell_of_row w B 1 _ _ _ hb];rfl
 have c2:w.cell? ⟨B,2,none⟩=some (.int .u64 mix):=by rw[cell_of_row w B 2 _ _ _ hb];rfl
 have f:=fun o=>frozen_of_row w B o _ _ hb
 have HB:=hideD hb
 have HR:=hideD hr
 clear hb hr
 have s1:=fun n=>sc1 (W:=w.drewN n) (p:=⟨B,2,none⟩) (x:=.int .u64 mix) (by simpa using c2)
 have s2:=fun n=>sc2 (W:=w.drewN n) (p:=⟨B,2,none⟩) (x:=.int .u64 mix) (by simpa using c2)
 have s3:=fun n=>sc3 (W:=w.drewN n) (p:=⟨B,2,none⟩) (x:=.int .u64 mix) (by simpa using c2)
 go_enter Tryz.func17,Tryz.ntmps17
 go_wp2
 go_quiet (fail)
 go_wp2
 go_region
 go_wp2
 go_region
 go_wp2
 go_region
 go_wp2
 go_ret
 have k1:=step1 mix ⟨h2,h3⟩ (mix*8192)
 have k2:=step2 _ k1
 have k3:=step1 _ k2 (bits BinOp.xor IntKind.u64 (bits BinOp.xor IntKind.u64 mix (IntKind.u64.wrap (mix*8192))) (bits BinOp.xor IntKind.u64 mix (IntKind.u64.wrap (mix*8192))/128)*131072)
 exact⟨_,rfl,(rem_bd _ most (wrap64_bd _).1 hm hm2).1,(rem_bd _ most (wrap64_bd _).1 hm hm2).2,
  src_set HR.out ((((Only.drewN w _).set 2 _).set 2 _).set 2 _).drew.drew (blk_set (blk_set (blk_set (W:=w.drewN _) HB.out _) _) _) h0 h1' k3 h4 h5,((((Only.drewN w _).set 2 _).set 2 _).set 2 _).drew.drew⟩
end Go.Proofs.YtjfdllgodijibaaGreatDoor.Dr


namespace Go.Proofs.YtjfdllgodijibaaGreatDoor.Dr
open Go.RowKit
theorem c1_other {W:World} {B:Nat} {x:Value} (h:W.cell? ⟨B,2,none⟩=some x) (v:Value):(W.setCell ⟨B,1,none⟩ v).cell? ⟨B,2,none⟩=some x :=
 (World.cell?_setCell_other W _ _ _ (by simp)).trans h
theorem n_within (B b off i:Nat) (len cap:Nat) (most z mix size:Int) (w:World) (hl:len<=1048576) (hm:1<most) (hm2:most<=9223372036854775807) (hr:Row w B (some ⟨b,off,none⟩) len)
  (hb:w.heap[B]? = some (.cells #[.slice (some ⟨b,off,none⟩) len cap,.int .i64 (i:Int),.int .u64 mix,.int .i64 size] 60 (0,0)))
  (h1:i<len) (h2:0<=mix) (h3:mix<=18446744073709551615) (h4:0<=size) (h5:size<=12) (hc:w.cell? ⟨b,off+i,none⟩=some (.int .u8 z)) (hz1:0<=z) (hz2:z<=255) :
  Calls Tryz.prog 17 #[.pointer (some ⟨B,0,none⟩),.int .i64 most] w fun e w'=>∃ r,e=.returned (.int .i64 r)/\0<=r/\r<most/\Src w' B (some ⟨b,off,none⟩) len cap/\Only B w w':=by
 have c0:w.cell? ⟨B,0,none⟩=some (.slice (some ⟨b,off,none⟩) len cap):=by rw[cell_of_row w B 0 _ _ _ hb];rfl
 have c1:w.cell? ⟨B,1,none⟩=some (.int .i64 (i:Int)):=by rw[cell_of_row w B 1 _ _ _ hb];rfl
 have c2:w.cell? ⟨B,2,none⟩=some (.int .u64 mix):=by rw[cell_of_row w B 2 _ _ _ hb];rfl
 have f:=fun o=>frozen_of_row w B o _ _ hb
 have HB:=hideD hb
 have HR:=hideD hr
 clear hb hr
 have g1:(i:Int)<(len:Int):=by omega
 go_enter Tryz.func17,Tryz.ntmps17
 go_wp2
 go_quiet (fail)
 obtain⟨q1,rfl⟩:∃ q,q=nq:=⟨_,rfl⟩
 go_wp2
 go_quiet (fail)
 go_wp2
 have e2:((w.drewN (q1+nq)).setCell ⟨B,1,none⟩ (.int .i64 ((i:Int)+1))).cell? ⟨B,2,none⟩=some (.int .u64 mix):=c1_other (by simpa using c2) _
 have ef:∀ o,((w.drewN (q1+nq)).setCell ⟨B,1,none⟩ (.int .i64 ((i:Int)+1))).frozen? ⟨B,o,none⟩=false:=fun o=>frozen_of_row _ B o _ _ (blk_set1 (W:=w.drewN _) HB.out _)
 have EB:=hideD (blk_set1 (W:=w.drewN (q1+nq)) HB.out (.int .i64 ((i:Int)+1)))
 have EO:=hideD ((Only.drewN (B:=B) w (q1+nq)).set 1 (.int .i64 ((i:Int)+1)))
 generalize (w.drewN (q1+nq)).setCell ⟨B,1,none⟩ (.int .i64 ((i:Int)+1))=W1 at e2 ef EB EO ⊢
 clear c0 c1 c2 f hc
 have s1:=sc1 (W:=W1) (p:=⟨B,2,none⟩) (x:=.int .u64 mix) e2
 have s2:=sc2 (W:=W1) (p:=⟨B,2,none⟩) (x:=.int .u64 mix) e2
 have s3:=sc3 (W:=W1) (p:=⟨B,2,none⟩) (x:=.int .u64 mix) e2
 go_region
 go_wp2
 go_region
 go_wp2
 go_region
 go_wp2
 go_ret
 have k1:=step1 mix ⟨h2,h3⟩ (mix*8192)
 have k2:=step2 _ k1
 have k3:=step1 _ k2 (bits BinOp.xor IntKind.u64 (bits BinOp.xor IntKind.u64 mix (IntKind.u64.wrap (mix*8192))) (bits BinOp.xor IntKind.u64 mix (IntKind.u64.wrap (mix*8192))/128)*131072)
 exact⟨_,rfl,(rem_bd _ most (wrap64_bd _).1 hm hm2).1,(rem_bd _ most (wrap64_bd _).1 hm hm2).2,
  src_set HR.out (((EO.out.set 2 _).set 2 _).set 2 _).drew.drew.drew (blk_set (blk_set (blk_set EB.out _) _) _) (by omega) (by omega) k3 h4 h5,(((EO.out.set 2 _).set 2 _).set 2 _).drew.drew.drew⟩
theorem n_any (B:Nat) (a:Option Addr) (len cap:Nat) (most:Int) (w:World) (hl:len<=1048576) (hm2:most<=9223372036854775807) (hs:Src w B a len cap) :
  Calls Tryz.prog 17 #[.pointer (some ⟨B,0,none⟩),.int .i64 most] w fun e w'=>∃ r,e=.returned (.int .i64 r)/\0<=r/\(r<most∨r=0)/\Src w' B a len cap/\Only B w w':=by
 by_cases hm:1<most
 ·obtain⟨hr,at_,mix,size,hb,h0,h1,h2,h3,h4,h5⟩:=hs
  by_cases hlt:at_<len
  ·obtain⟨i,rfl⟩:=Int.eq_ofNat_of_zero_le h0
   rcases hr with h|⟨b,off,rfl,hne,hc⟩
   ·exfalso;omega
   ·obtain⟨z,hz,z1,z2⟩:=hc i (by omega)
    exact(n_within B b off i len cap most z mix size w hl hm hm2 (.inr ⟨b,off,rfl,hne,hc⟩) hb (by omega) h2 h3 h4 h5 hz z1 z2).mono fun e w' ⟨r,e1,e2,e3,e4,e5⟩=>⟨r,e1,e2,.inl e3,e4,e5⟩
  ·exact(n_past B a len cap most at_ mix size w hm hm2 hr hb h0 hlt h1 h2 h3 h4 h5).mono fun e w' ⟨r,e1,e2,e3,e4,e5⟩=>⟨r,e1,e2,.inl e3,e4,e5⟩
 ·have HS:=hideD hs
  clear hs
  go_enter Tryz.func17,Tryz.ntmps17
  go_wp2
  go_ret
  exact⟨0,rfl,Int.le_refl _,.inr rfl,HS.out,Only.refl _ _⟩
end Go.Proofs.YtjfdllgodijibaaGreatDoor.Dr


namespace Go.Proofs.YtjfdllgodijibaaGreatDoor.Dr
open Go.RowKit
theorem blk_set3 {W:World} {B:Nat} {x0 x1 x2 x3:Value} {T:TypeId} (h:W.heap[B]? = some (.cells #[x0,x1,x2,x3] T (0,0))) (v:Value) :
  (W.setCell ⟨B,3,none⟩ v).heap[B]? = some (.cells #[x0,x1,x2,v] T (0,0)):=by
 rw[heap_setCell_same W B 3 _ T v h];rfl
def sobj (a:Option Addr) (len cap:Nat) (mix size:Int):Obj:=.cells #[.slice a len cap,.int .i64 0,.int .u64 mix,.int .i64 size] 60 (0,0)
theorem src_of {w wr:World} {a:Option Addr} {len cap:Nat} {mix size:Int} (hr:Row w w.heap.size a len) (ho:Only w.heap.size (w.alloc (sobj a len cap 88172645463325252 0)) wr)
  (hb:wr.heap[w.heap.size]? = some (sobj a len cap mix size)) (h1:0<=mix) (h2:mix<=18446744073709551615) (h3:0<=size) (h4:size<=12):Src wr w.heap.size a len cap:=by
 refine⟨ho.row ?_,0,mix,size,hb,Int.le_refl _,by omega,h1,h2,h3,h4⟩
 rcases hr with h0|⟨b,off,rfl,hne,hc⟩
 ·exact .inl h0
 ·refine .inr ⟨b,off,rfl,hne,fun i hi=>?_⟩
  obtain⟨z,hz,z1,z2⟩:=hc i hi
  exact⟨z,(World.cell?_alloc_lt _ _ ⟨b,off+i,none⟩ (World.block_lt_of_cell? w _ hz)).trans hz,z1,z2⟩
theorem source_any (a:Option Addr) (len cap:Nat) (w:World) (hl:len<=1048576) (hr:Row w w.heap.size a len) :
  Calls Tryz.prog 13 #[.slice a len cap] w fun e w'=>e=.returned (.pointer (some ⟨w.heap.size,0,none⟩))/\Src w' w.heap.size a len cap/\Below w.heap.size w w'/\w'.heap.size=w.heap.size+1:=by
 have HR:=hideD hr
 clear hr
 go_enter Tryz.func13,Tryz.ntmps13
 go_wp2
 go_loopw [4] (fun i wr=>∃ (k:Nat) (mix:Int),i=.int .i64 k/\k<=len/\0<=mix/\mix<=18446744073709551615/\wr.heap[w.heap.size]? = some (sobj a len cap mix 0)/\Only w.heap.size (w.alloc (sobj a len cap 88172645463325252 0)) wr) (fun i _=>len-(intOf i).toNat)
 case atStart=>exact⟨0,88172645463325252,rfl,Nat.zero_le _,by decide,by decide,heap_alloc_new _ _,Only.refl _ _⟩
 case round =>
  obtain⟨k,mix,rfl,hk,h2,h3,hb,ho⟩:=hrel
  have c2:wr.cell? ⟨w.heap.size,2,none⟩=some (.int .u64 mix):=by rw[cell_of_row wr _ 2 _ _ _ hb];rfl
  have c3:wr.cell? ⟨w.heap.size,3,none⟩=some (.int .i64 0):=by rw[cell_of_row wr _ 3 _ _ _ hb];rfl
  have f:=fun o=>frozen_of_row wr w.heap.size o _ _ hb
  have HB:=hideD hb
  have HO:=hideD ho
  clear hb ho
  by_cases hlt:k<len
  ·by_cases h64:k<64
   ·rcases HR.out with h0|⟨b,off,rfl,hne,hc⟩
    ·exfalso;omega
    ·obtain⟨z,hz,z1,z2⟩:=hc k hlt
     have hzr:wr.cell? ⟨b,off+k,none⟩=some (.int .u8 z):=(World.cell?_of_block (w:=w.alloc _) (a:=⟨b,off+k,none⟩) (HO.out.2.2.2.2 b (Nat.ne_of_lt hne))).trans ((World.cell?_alloc_lt _ _ ⟨b,off+k,none⟩ hne).trans hz)
     clear hc hz
     have g1:(k:Int)<(len:Int):=by omega
     go_wp2
     go_region
     go_wp2
     go_roundw
     case rel=>exact⟨k+1,_,by go_num,by omega,(wrap64_bd _).1,(wrap64_bd _).2,blk_set HB.out _,(HO.out.set 2 _).drew⟩
     case measure=>simp[intOf];omega
   ·have hd:decide ((k:Int)<64)=false:=decide_eq_false (by omega)
    have g1:(k:Int)<(len:Int):=by omega
    have s3:=fun v=>sc1 (W:=wr) (p:=⟨w.heap.size,3,none⟩) (x:=.int .i64 0) c3 v
    by_cases hbig:(12:Int)<(len:Int)/20
    ·go_wp2
     go_ret
     refine⟨rfl,src_of HR.out ((HO.out.set 3 _).set 3 _) (blk_set3 (blk_set3 HB.out _) _) h2 h3 (by omega) (by omega),?_,?_⟩
     ·exact((HO.out.set 3 _).set 3 _).below ((Below.refl _ _).alloc (Nat.le_refl _) _) (Nat.le_refl _)
     ·have:=((HO.out.set 3 (.int .i64 0)).set 3 (.int .i64 0)).2.2.2.1
      simpa [World.setCell] using this
    ·go_wp2
     go_ret
     refine⟨rfl,src_of HR.out (HO.out.set 3 _) (blk_set3 HB.out _) h2 h3 (by omega) (by omega),?_,?_⟩
     ·exact(HO.out.set 3 _).below ((Below.refl _ _).alloc (Nat.le_refl _) _) (Nat.le_refl _)
     ·have:=(HO.out.set 3 (.int .i64 0)).2.2.2.1
      simpa [World.setCell] using this
  ·have hd:decide ((k:Int)<(len:Int))=false:=decide_eq_false (by omega)
   have s3:=fun v=>sc1 (W:=wr) (p:=⟨w.heap.size,3,none⟩) (x:=.int .i64 0) c3 v
   by_cases hbig:(12:Int)<(len:Int)/20
   ·go_wp2
    go_ret
    refine⟨rfl,src_of HR.out ((HO.out.set 3 _).set 3 _) (blk_set3 (blk_set3 HB.out _) _) h2 h3 (by omega) (by omega),?_,?_⟩
    ·exact((HO.out.set 3 _).set 3 _).below ((Below.refl _ _).alloc (Nat.le_refl _) _) (Nat.le_refl _)
    ·have:=((HO.out.set 3 (.int .i64 0)).set 3 (.int .i64 0)).2.2.2.1
     simpa [World.setCell] using this
   ·go_wp2
    go_ret
    refine⟨rfl,src_of HR.out (HO.out.set 3 _) (blk_set3 HB.out _) h2 h3 (by omega) (by omega),?_,?_⟩
    ·exact(HO.out.set 3 _).below ((Below.refl _ _).alloc (Nat.le_refl _) _) (Nat.le_refl _)
    ·have:=(HO.out.set 3 (.int .i64 0)).2.2.2.1
     simpa [World.setCell] using this
end Go.Proofs.YtjfdllgodijibaaGreatDoor.Dr


namespace Go.Proofs.YtjfdllgodijibaaGreatDoor.Dr
open Go.RowKit
open Nu (bv own_string)
structure Aft (B:Nat) (w w':World):Prop where
 os:w'.os=w.os
 tape:w'.tape=w.tape
 output:w'.output=w.output
 size:w.heap.size<=w'.heap.size
 block:∀ k,k<w.heap.size->k≠B->w'.heap[k]? = w.heap[k]?
theorem Aft.refl (B:Nat) (w:World):Aft B w w:=⟨rfl,rfl,rfl,Nat.le_refl _,fun _ _ _=>rfl⟩
theorem Aft.trans {B:Nat} {a b c:World} (h:Aft B a b) (k:Aft B b c):Aft B a c :=
 ⟨k.os.trans h.os,k.tape.trans h.tape,k.output.trans h.output,Nat.le_trans h.size k.size,fun i hi hn=>(k.block i (Nat.lt_of_lt_of_le hi h.size) hn).trans (h.block i hi hn)⟩
theorem Only.aft {B:Nat} {w w':World} (h:Only B w w'):Aft B w w':=⟨h.1,h.2.1,h.2.2.1,by rw[h.2.2.2.1];exact Nat.le_refl _,fun k _ hk=>h.2.2.2.2 k hk⟩
theorem aft_below {B:Nat} {w w':World} (h:Below w.heap.size w w'):Aft B w w':=⟨h.os,h.tape,h.output,h.size,fun k hk _=>h.block k hk⟩
theorem Aft.below {B C:Nat} {w0 w w':World} (hb:Below C w0 w) (h:Aft B w w') (hC:C<=B) (hS:C<=w.heap.size):Below C w0 w' :=
 hb.trans ⟨h.os,h.tape,h.output,h.size,fun k hk=>h.block k (by omega) (by omega)⟩
theorem Src.stays {B:Nat} {w w':World} {a:Option Addr} {len cap:Nat} (hs:Src w B a len cap) (h:∀ k,k<=B->w'.heap[k]? = w.heap[k]?):Src w' B a len cap:=by
 obtain⟨hr,at_,mix,size,hb,h0⟩:=hs
 refine⟨?_,at_,mix,size,(h B (Nat.le_refl _)).trans hb,h0⟩
 rcases hr with h0|⟨b,off,rfl,hlt,hc⟩
 ·exact .inl h0
 ·refine .inr ⟨b,off,rfl,hlt,fun i hi=>?_⟩
  obtain⟨z,hz,z1,z2⟩:=hc i hi
  exact⟨z,(World.cell?_of_block (w:=w) (a:=⟨b,off+i,none⟩) (h b (Nat.le_of_lt hlt))).trans hz,z1,z2⟩
theorem Src.lt {B:Nat} {w:World} {a:Option Addr} {len cap:Nat} (hs:Src w B a len cap):B<w.heap.size:=by
 obtain⟨_,at_,mix,size,hb,_⟩:=hs
 rcases Nat.lt_or_ge B w.heap.size with h|h
 ·exact h
 ·rw[Array.getElem?_eq_none h]at hb
  exact absurd hb (by simp)
theorem Src.below {B:Nat} {w w':World} {a:Option Addr} {len cap:Nat} (hs:Src w B a len cap) (h:Below w.heap.size w w'):Src w' B a len cap :=
 hs.stays fun k hk=>h.block k (Nat.lt_of_le_of_lt hk hs.lt)
theorem one_any (B:Nat) (a:Option Addr) (len cap:Nat) (most:Int) (w:World) (hl:len<=1048576) (hm2:most<=9223372036854775807) (hs:Src w B a len cap) :
  Calls Tryz.prog 16 #[.pointer (some ⟨B,0,none⟩),.int .i64 most] w fun e w'=>∃ r:Bool,e=.returned (.bool r)/\Src w' B a len cap/\Only B w w':=by
 go_enter Tryz.func16,Tryz.ntmps16
 go_wp2_with fail
 refine(n_any B a len cap most _ hl hm2 hs).mono ?_
 rintro e w1 ⟨r,rfl,h0,h1,h2,h3⟩
 go_wp2
 go_ret
 exact⟨_,rfl,h2,h3⟩
theorem owns_only {B base:Nat} {w w':World} {e:TypeId} {v:Value} {n size:Nat} {xs:List Value} (h:w.ownsRow base e size v n xs) (ho:Only B w w') (hB:B<base):w'.ownsRow base e size v n xs:=by
 obtain⟨h1,h2⟩:=h
 refine⟨h1,?_⟩
 rcases h2 with h2|⟨g,cap,cur,e1,e2,e3,e4⟩
 ·exact .inl h2
 ·exact .inr ⟨g,cap,cur,e1,e2,(ho.2.2.2.2 g (by omega)).trans e3,e4⟩
theorem aft_more {B:Nat} {w w1 w2:World} (h:Aft B w w1) (hb:Below w.heap.size w1 w2):Aft B w w2 :=
 ⟨hb.os.trans h.os,hb.tape.trans h.tape,hb.output.trans h.output,Nat.le_trans h.size hb.size,fun k hk hn=>(hb.block k hk).trans (h.block k hk hn)⟩
theorem bv_int (r:Int) (h0:0<=r) (h1:r<=255):bv (UInt8.ofNat r.toNat)=.int .u8 r:=by
 unfold bv
 rw[UInt8.toNat_ofNat',Nat.mod_eq_of_lt (by omega)]
 congr 1
 omega
theorem Tryz.infoD5:(Tryz.prog.info? 5).map (fun i=>(i.zero,i.size,i.bytes))=some (some (.int .u8 0),1,1):=by kernel_rfl
/-- s.bytes(n): a text of n bytes -/
theorem bytes_any (B:Nat) (a:Option Addr) (len cap m:Nat) (w:World) (hl:len<=1048576) (hm:m<=1048576) (hs:Src w B a len cap) :
  Calls Tryz.prog 61 #[.pointer (some ⟨B,0,none⟩),.int .i64 m] w fun e w'=>∃ l:List UInt8,l.length=m/\e=.returned (.string ⟨l.toArray⟩)/\Src w' B a len cap/\Aft B w w':=by
 have hB:=hs.lt
 have HS:=hideD hs
 clear hs
 obtain⟨i0,hi,hz0,hz1,hz2⟩:=info_parts Tryz.infoD5
 go_enter Tryz.func61,Tryz.ntmps61
 go_wp2
 go_loopw [5,6] (fun v i wr=>∃ (k:Nat) (l:List UInt8),i=.int .i64 k/\k<=m/\l.length=k/\wr.ownsRow w.heap.size 5 1 v k (l.map bv)/\Src wr B a len cap/\Aft B w wr) (fun _ i _=>m-(intOf i).toNat)
 case atStart =>
  exact⟨0,[],rfl,Nat.zero_le _,rfl,World.ownsRow_made _ _ _ (Nat.le_refl _) (by decide) rfl,HS.out.below ((Below.refl _ _).alloc (Nat.le_refl _) _),aft_below ((Below.refl _ _).alloc (Nat.le_refl _) _)⟩
 case round =>
  obtain⟨k,l,rfl,hk,hlen,hown,hsr,haft⟩:=hrel
  have HL:=hideD hlen
  have HSR:=hideD hsr
  have HA:=hideD haft
  have HO:=hideD hown
  clear hlen hsr haft hown
  by_cases hlt:k<m
  ·go_wp2_with fail
   refine(n_any B a len cap 256 _ hl (by omega) HSR.out).mono ?_
   rintro e w1 ⟨r,rfl,r0,r1,hs1,ho1⟩
   have r2:r<=255:=by omega
   have hown1:=owns_only HO.out ho1 hB
   have HS1:=hideD hs1
   have HA1:=hideD (HA.out.trans ho1.aft)
   clear hs1
   go_wp2_with (at_builtin;refine wpList_append_own _ rfl (.tmp 13) (.tmp 17) 22 rfl w.heap.size 5 i0 (.int .u8 0) 1 1 Tryz.underlying22 hi hz0 hz1 hz2 rfl (by decide) _ _ _ rfl (hown1.alloc _) ⟨w1.heap.size,0,none⟩ 1 1 [.int .u8 r] rfl rfl ?c1 ?c2 ?c3 ?c4 ?c5 ?_)
   case c1 =>
    intro j u hj
    match j,hj with
    |0,hj=>simp at hj;subst hj;simp[Addr.add]
   case c2=>intro u hu;simp at hu;subst hu;rfl
   case c3=>unfold maxLen;omega
   case c4=>omega
   case c5=>have:=HA1.out.size;simp;omega
   intro v' w2 hown2 hgrow _
   have hb2:=Go.Proofs.YtjfdllgodijibaaGreatDoor.Nu.app_below (w:=w1) (Below.refl w.heap.size w1) HA1.out.size hown1 hgrow
   have HS2:=hideD (HS1.out.stays fun j hj=>hb2.block j (by omega))
   have HA2:=hideD (aft_more HA1.out hb2)
   have HO2:Hid (w2.ownsRow w.heap.size 5 1 v' (k+1) ((l++[UInt8.ofNat r.toNat]).map bv)):=by
    unfold Hid
    rw[List.map_append,List.map_singleton,bv_int r r0 r2]
    exact hown2
   clear hown2 hgrow hown1 hb2 ho1
   go_wp2
   go_roundw
   case rel=>exact⟨k+1,l++[UInt8.ofNat r.toNat],by go_num,by omega,by rw[List.length_append,HL.out];rfl,HO2.out,HS2.out,HA2.out⟩
   case measure=>simp[intOf];omega
  ·have hkm:k=m:=by omega
   have HKM:=hideD hkm
   have hconv:=own_string (P:=Tryz.prog) (src:=22) (dst:=9) l (by rw[HL.out];exact HO.out) Tryz.underlying22 Tryz.underlying5 Tryz.underlying9
   clear hkm
   go_wp2
   go_ret
   exact⟨l,by rw[HL.out,HKM.out],rfl,HSR.out,HA.out⟩
end Go.Proofs.YtjfdllgodijibaaGreatDoor.Dr

