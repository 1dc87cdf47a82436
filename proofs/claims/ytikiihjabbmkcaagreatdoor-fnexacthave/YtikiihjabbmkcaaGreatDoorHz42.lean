/- Texts put together: LsFitsS, KpFit, KhPlain, KhSort. -/
import Derived.Test.YtikiihjabbmkcaaGreatDoorHz38
import Derived.BigQuiet
import Derived.Deep.QuietTactic
import Derived.Test.YtikiihjabbmkcaaGreatDoorHz40
import Derived.Test.YtikiihjabbmkcaaGreatDoorHz41
import Derived.Test.YtikiihjabbmkcaaGreatDoorChecked
import Derived.Test.YtikiihjabbmkcaaGreatDoorHz25
import Derived.Shelf.SortG.Plain
import Derived.Shelf.SortG.SortNone
import Derived.Shelf.SlGeneric
import Derived.Ground.SlgnProg
import Derived.Sort.OwnSortedInts
set_option maxRecDepth 100000
set_option maxHeartbeats 8000000
namespace Go.Proofs.YtikiihjabbmkcaaGreatDoor.Ls
open Go.RowKit
open Bk (cnt count_any)
open Bi (is_yes is_no)
open Tr (inclB incl_spec)
open Sh (leafR leafV leafR_yes l03Leaf_any)
open St (Strs)
theorem calls_below {P:Program} {f:FuncId} {args:Array Value} {W:World} {v:Value} (h:Calls P f args W fun e w'=>e=.returned v/\w'=W):Calls P f args W fun e w'=>e=.returned v/\Below W.heap.size W w' :=
 h.mono fun e w' q=>⟨q.1,by rw[q.2];exact Below.refl _ _⟩
theorem calls_drew {P:Program} {f:FuncId} {args:Array Value} {W:World} {v:Value} (h:Calls P f args W fun e w'=>e=.returned v/\w'=W):Calls P f args W fun e w'=>e=.returned v/\∃ n,w'=W.drewN n :=
 h.mono fun _ _ q=>⟨q.1,0,q.2⟩
theorem l07Fits_spec (q k:Nat) (r:ByteArray) (i:Int) (t:ByteArray) (p:List ByteArray) (a:Option Addr) (cap m:Nat) (w:World) (hr:rightB q k r=true) (ht:t.size<=8000) (hm:m=p.length) (hp:m<=1048576) (hs:Strs w w.heap.size a p) :
  Calls Tryz.prog 83 #[lV q k r,.int .i64 i,.string t,.slice a m cap] w fun e w'=>e=.returned (.bool (fitsB q k r i t p))/\Below w.heap.size w w':=by
 have h:=rightB_yes hr
 have HA:Hid (Below w.heap.size w (w.alloc (.cells #[.int .i64 q,.int .i64 k,.string r] 29))):=(Below.refl _ _).alloc (Nat.le_refl _) _
 have HX:Hid ((w.alloc (.cells #[.int .i64 q,.int .i64 k,.string r] 29)).heap[w.heap.size]? = some (.cells #[.int .i64 q,.int .i64 k,.string r] 29 (0,0))):=heap_alloc_new w _
 have HC:=hideL (fun W=>calls_below (count_any q k W (by omega) (by omega) (by omega)))
 have HCq:=hideL (fun W=>calls_drew (count_any q k W (by omega) (by omega) (by omega)))
 obtain⟨hcn,hcl⟩:=countN_yes hr
 have HL:=hideL (fun W=>l03Leaf_any t W ht)
 have HFE:Hid (fitsB q k r i t p=inclB (leafR t) i ((cnt q k:Nat):Int) p r):=by unfold Hid fitsB;rw[hcn]
 have HI:Hid (∀ W,Below w.heap.size w W->Calls Tryz.prog 123 #[.string (leafV t),.int .i64 i,.int .i64 (cnt q k:Nat),.slice a m cap,.string r] W fun e w'=>e=.returned (.bool (inclB (leafV t) i ((cnt q k:Nat):Int) p r))/\Below W.heap.size W w'):=fun W h=>by
  have:=incl_spec (leafV t) r i (cnt q k:Nat) p a cap W.heap.size W (by omega) (by omega) ((hs.below h).mono h.size) (Nat.le_refl _)
  rw[<-hm]at this
  exact this
 have hmx:=mixedF
 clear hs hm hr h hcn
 generalize cnt q k=cn at HC HCq HI HFE hcl
 have hsub:IntKind.i64.wrap ((cn:Int)-1)=(cn:Int)-1:=by rw[IntKind.wrap_i64];omega
 by_cases hi:0<=i/\i<=(cn:Int)-1
 ·have HIS:=hideL (fun W=>calls_below (is_yes i 0 ((cn:Int)-1) W hi.1 hi.2))
  have HISq:=hideL (fun W=>calls_drew (is_yes i 0 ((cn:Int)-1) W hi.1 hi.2))
  by_cases h1:t.size<=100
  ·have HQ:Hid (fitsB q k r i t p=inclB (leafV t) i ((cn:Nat):Int) p r):=by rw[HFE.out,leafR_yes t (by omega)];rfl
   have h1':decide ((t.size:Int)<=100)=true:=by simp;omega
   have h1i:(t.size:Int)<=100:=by omega
   rw[HQ.out]
   clear HQ HFE hi
   generalize inclB (leafV t) i ((cn:Nat):Int) p r=Q at HI ⊢
   generalize leafV t=lf at HI HL
   unfold lV
   go_enter Tryz.func83,Tryz.ntmps83
   go_wp2_with fail
   generalize hww:w.alloc (.cells #[.int .i64 q,.int .i64 k,.string r] 29)=wa at HA HX ⊢
   clear hww
   obtain⟨c0,c1,c2⟩:=cells3 HX.out
   generalize w.heap.size=gx at c0 c1 c2 ⊢
   have g0:=fun d os=>cell_regrown c0 d os
   have g1:=fun d os=>cell_regrown c1 d os
   have g2:=fun d os=>cell_regrown c2 d os
   refine wp_region_quiet_below (by assumption) (by kernel_rfl) ?_
   repeat (quiet_step (first|(go_at_call 92;exact Calls.regrown_of (HC.out _))|(go_at_call 74;exact Calls.regrown_of (HIS.out _))|(go_at_call 124;exact Calls.regrown_of (HL.out _))|(go_at_call 123;exact Calls.regrown_of (HI.out _ (lowL HA.out (below_regrown _ _ _))))))
   refine wpQuiet_nil ?_
   intro _ hw'
   obtain⟨⟨dq,osq⟩,hw''⟩:=hw'
   subst hw''
   have KQ:=hideL (below_regrown wa dq osq)
   generalize Go.Sort.grow (redrawn wa dq) osq=w8 at KQ ⊢
   clear g0 g1 g2 c0 c1 c2
   go_wp2_with fail
   go_ret
   exact⟨rfl,lowL HA.out KQ.out⟩
  ·have HQ:=hideL (fits_piece (z:=q) (b:=k) (r:=r) (i:=i) (p:=p) (t:=t) (by omega))
   have h1d:decide ((t.size:Int)<=100)=false:=by simp;omega
   have h1n:decide (t.size<=100)=false:=by simp;omega
   have h1i:¬(t.size:Int)<=100:=by omega
   rw[HQ.out]
   clear HQ HFE hi HI HL
   unfold lV
   go_enter Tryz.func83,Tryz.ntmps83
   go_wp2_with fail
   generalize hww:w.alloc (.cells #[.int .i64 q,.int .i64 k,.string r] 29)=wa at HA HX ⊢
   clear hww
   obtain⟨c0,c1,c2⟩:=cells3 HX.out
   generalize w.heap.size=gx at c0 c1 c2 ⊢
   go_quiet (first|(go_at_call 92;refine Calls.quiet_of (HCq.out _))|(go_at_call 74;refine Calls.quiet_of (HISq.out _)))
   all_goals (try go_wp2_with fail)
   all_goals go_ret
   all_goals exact⟨rfl,lowL HA.out (below_drewN (Below.refl _ _) _)⟩
 ·have HQ:Hid (fitsB q k r i t p=false):=by rw[HFE.out];exact inclB_range (by omega)
  have HISq:Hid (∀ W,_):=fun W=>calls_drew (is_no i 0 ((cn:Int)-1) W (by omega))
  rw[HQ.out]
  clear HQ HFE hi HI HL
  unfold lV
  go_enter Tryz.func83,Tryz.ntmps83
  go_wp2_with fail
  generalize hww:w.alloc (.cells #[.int .i64 q,.int .i64 k,.string r] 29)=wa at HA HX ⊢
  clear hww
  obtain⟨c0,c1,c2⟩:=cells3 HX.out
  generalize w.heap.size=gx at c0 c1 c2 ⊢
  go_quiet (first|(go_at_call 92;refine Calls.quiet_of (HCq.out _))|(go_at_call 74;refine Calls.quiet_of (HISq.out _)))
  all_goals (try go_wp2_with fail)
  all_goals go_ret
  all_goals exact⟨rfl,lowL HA.out (below_drewN (Below.refl _ _) _)⟩
end Go.Proofs.YtikiihjabbmkcaaGreatDoor.Ls


/- What fits: the contracts of both sides at every record. -/
namespace Go.Proofs.YtikiihjabbmkcaaGreatDoor.Kp
open Go.RowKit
open Ls (rightB rightB_yes lV vars_keepF l07Fits_spec fitsB fits_piece countN_le)
open Tr (inclB wide_yes)
open Sh (Vars)
theorem fitC_of (z b:Int) (r:ByteArray) (w:World) (hV:Vars w):FitC (fitR z b r) z b r w:=fun W x hW h1 h2 h3 =>
 fits_rec z b r x W (by unfold maxLen;omega) (by omega) h3 (vars_keepF hV hW)
theorem fitS_of (z b:Int) (r:ByteArray) (w:World) (hr:rightB z b r=true):FitS (fitR z b r) z b r w:=fun W x hW h1 h2 h3=>by
 have h4:=rightB_yes hr
 obtain⟨p,rfl⟩:=Int.eq_ofNat_of_zero_le h4.1
 obtain⟨k,rfl⟩:=Int.eq_ofNat_of_zero_le (show 0<=b by omega)
 obtain⟨a,cap,hv,hc,hst⟩:=h3
 rw[hv,fit_short h2]
 exact l07Fits_spec p k r x.1.1 x.1.2.1 x.1.2.2 a cap x.1.2.2.length W hr h1 rfl (by omega) hst
end Go.Proofs.YtikiihjabbmkcaaGreatDoor.Kp


/- Numbers in order: the one rising row of them; a number put in its place. -/
namespace Go.Proofs.YtikiihjabbmkcaaGreatDoor.Kh
def sortZ (l:List Int):List Int:=l.mergeSort fun x y=>decide (x<=y)
theorem sortZ_length (l:List Int):(sortZ l).length=l.length:=List.length_mergeSort ..
theorem sortZ_nil:sortZ []=[]:=List.mergeSort_nil
theorem sortZ_rises (l:List Int):(sortZ l).Pairwise (·<=·):=by
 have h:=List.pairwise_mergeSort (le:=fun x y:Int=>decide (x<=y)) (fun a b c h1 h2=>by simp at h1 h2 ⊢;omega) (fun a b=>by simp;omega) l
 exact h.imp (fun h=>by simpa using h)
theorem sortZ_perm (l:List Int):(sortZ l).Perm l:=List.mergeSort_perm ..
theorem sortZ_of {s l:List Int} (hp:s.Perm l) (hs:s.Pairwise (·<=·)):s=sortZ l :=
 List.Perm.eq_of_pairwise (le:=fun x y:Int=>x<=y) (fun _ _ _ _ h1 h2=>Int.le_antisymm h1 h2) hs (sortZ_rises l) (hp.trans (sortZ_perm l).symm)
def insZ (s:List Int) (x:Int) (k:Nat):List Int:=s.take k++[x]++s.drop k
theorem insZ_length {s:List Int} {x:Int} {k:Nat}:(insZ s x k).length=s.length+1:=by
 unfold insZ
 simp
 omega
theorem insZ_ok {s l:List Int} {x:Int} {k:Nat} (h:s=sortZ l) (hk:k<=s.length) (hlow:∀ (h:0<k),s[k-1]<=x) (hup:∀ j (hj:j<s.length),k<=j->x<s[j]):insZ s x k=sortZ (l++[x]):=by
 have hs:s.Pairwise (·<=·):=by rw[h];exact sortZ_rises l
 have hp:s.Perm l:=by rw[h];exact sortZ_perm l
 have hm:=List.pairwise_iff_getElem.1 hs
 apply sortZ_of
 ·unfold insZ
  rw[List.append_assoc]
  refine(List.perm_append_comm_assoc _ _ _).trans ?_
  rw[List.take_append_drop]
  exact(List.perm_append_comm).trans (hp.append_right _)
 ·unfold insZ
  rw[List.pairwise_append,List.pairwise_append]
  refine⟨⟨hs.sublist (List.take_sublist _ _),List.pairwise_singleton _ _,?_⟩,hs.sublist (List.drop_sublist _ _),?_⟩
  ·intro a ha b hb
   rw[List.mem_singleton.1 hb]
   obtain⟨j,hj,rfl⟩:=List.getElem_of_mem ha
   rw[List.length_take]at hj
   rw[List.getElem_take]
   have h1:=hlow (by omega)
   by_cases e:j=k-1
   ·subst e;exact h1
   ·have:=hm j (k-1) (by omega) (by omega) (by omega)
    omega
  ·intro a ha b hb
   obtain⟨j,hj,rfl⟩:=List.getElem_of_mem hb
   rw[List.length_drop]at hj
   rw[List.getElem_drop]
   have h1:=hup (k+j) (by omega) (by omega)
   rcases List.mem_append.1 ha with ha|ha
   ·obtain⟨i,hi,rfl⟩:=List.getElem_of_mem ha
    rw[List.length_take]at hi
    rw[List.getElem_take]
    exact hm i (k+j) (by omega) (by omega) (by omega)
   ·rw[List.mem_singleton.1 ha]
    omega
end Go.Proofs.YtikiihjabbmkcaaGreatDoor.Kh


/- slices.Sort at int64: a row of numbers of the call's own is put in order. -/
namespace Go.Proofs.YtikiihjabbmkcaaGreatDoor.Kh
open Go.RowKit Go.Shelf
open Go.Sort (grow putRow)
open In (OwnI)
shelf_lay_g SlLaysN.n53 Slgn 53 at Tryz 90 as Tryz.sortI
theorem sort_any (base:Nat) (v:Value) (l:List Int) (w:World) (h:OwnI w base v l) (hn:l.length<=1048576) :
  Calls Tryz.prog 90 #[v] w fun e w'=>e=.returned (.tuple #[])/\OwnI w' base v (sortZ l)/\∀ B,B<=base->B<=w.heap.size->RowKit.Below B w w':=by
 obtain⟨hl,h⟩:=h
 rcases h with⟨rfl,h0⟩|⟨g,cap,cur,rfl,hbase,hb,h1,h2,h3,h4⟩
 ·obtain rfl:=List.eq_nil_of_length_eq_zero h0
  refine(AnyG.slices_Sort_int_none Tryz.sortI none 0 w).mono ?_
  rintro e w' ⟨rfl,rfl⟩
  exact⟨rfl,by rw[sortZ_nil];exact OwnI.nil _ _,fun _ _ _=>RowKit.Below.refl _ _⟩
 ·refine(AnyG.slices_Sort_int Tryz.sortI g 0 cap l w (holds_of_blockI hb (by simpa using h4)) (Array.getElem?_eq_some_iff.1 hb).1 (by omega)).mono ?_
  rintro e w' ⟨rfl,n,os,rfl⟩
  refine⟨rfl,?_,fun B hB hBw=>(RowKit.Below.refl B w).grown (grownBy_sortedI _) hBw (fun k hk=>by cases hk;omega)⟩
  have:=ownsRow_sortedI (n:=n) (os:=os) (ss:=l) (ts:=sortZ l) (sortZ_length l) hbase hb h1 h2 h3
  unfold OwnI
  rw[sortZ_length]
  exact this
end Go.Proofs.YtikiihjabbmkcaaGreatDoor.Kh

