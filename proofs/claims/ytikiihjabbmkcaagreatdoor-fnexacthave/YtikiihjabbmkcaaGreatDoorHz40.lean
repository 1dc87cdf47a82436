/- Texts put together: KpSync, KpMay, KpTop, UnsealSpec. -/
import Derived.Test.YtikiihjabbmkcaaGreatDoorHz20
import Derived.Test.YtikiihjabbmkcaaGreatDoorHz12
import Derived.Test.YtikiihjabbmkcaaGreatDoorHz39
import Derived.Lib.QuietBelow
import Derived.BigQuiet
import Derived.Deep.RegionHeld3
import Derived.Test.YtikiihjabbmkcaaGreatDoorHz31
set_option maxRecDepth 100000
set_option maxHeartbeats 8000000
namespace Go.Proofs.YtikiihjabbmkcaaGreatDoor.Kp
open Go.RowKit
open Ls (blkL lowL)
def spanB (s:ByteArray) (y:Int):Bool:=decide (0<=y) && decide (y<=s.size)
theorem synced_any (z b:Int) (r s:ByteArray) (y:Int) (w:World) :
  Calls Tryz.prog 89 #[kV z b r s y] w fun e w'=>e=.returned (.bool (spanB s y))/\Below w.heap.size w w':=by
 have HB:Hid (Below w.heap.size w (w.alloc (kB z b r s y))):=(Below.refl _ _).alloc (Nat.le_refl _) _
 unfold kV
 unfold kB at HB
 by_cases h0:0<=y
 ·have HM:Hid (spanB s y=decide (y<=((s.size:Nat):Int))):=by unfold Hid spanB;rw[decide_eq_true h0,Bool.true_and]
  rw[HM.out]
  go_enter Tryz.func89,Tryz.ntmps89
  go_wp2_with fail
  go_ret
  exact⟨rfl,HB.out⟩
 ·have HM:Hid (spanB s y=false):=by unfold Hid spanB;rw[decide_eq_false h0,Bool.false_and]
  rw[HM.out]
  have h0':decide (0<=y)=false:=decide_eq_false h0
  go_enter Tryz.func89,Tryz.ntmps89
  go_wp2_with fail
  go_ret
  exact⟨rfl,HB.out⟩
end Go.Proofs.YtikiihjabbmkcaaGreatDoor.Kp


namespace Go.Proofs.YtikiihjabbmkcaaGreatDoor.Kp
open Go.RowKit
open Ls (rightB right_impl lV lowL blkL)
def mayB (z b:Int) (r s:ByteArray):Bool:=rightB z b r && decide (s.size<=8000)
def atB (z b:Int) (r s:ByteArray) (y:Int) (e:Nat):Bool:=mayB z b r s && decide (e=s.size) && spanB s y
def keepB (fit:Rec->Bool) (z b:Int) (r s:ByteArray) (y:Int):Bool:=atB z b r s y (allR fit s).2
theorem mayOpen_any (z b:Int) (r s:ByteArray) (y:Int) (w:World) :
  Calls Tryz.prog 88 #[kV z b r s y] w fun e w'=>e=.returned (.bool (mayB z b r s))/\Below w.heap.size w w':=by
 have HR:=hideK (fun W=>right_impl z b r W)
 have C0:=hideK ((Cx.nil w).new (kB z b r s y))
 unfold kV
 unfold kB at C0
 unfold lV at HR
 cases hr:rightB z b r with
 |false =>
  have HM:Hid (mayB z b r s=false):=by unfold Hid mayB;rw[hr];rfl
  rw[HM.out]
  rw[hr]at HR
  clear hr HM
  go_enter Tryz.func88,Tryz.ntmps88
  go_wp2_with fail
  refine(HR.out _).mono ?_
  rintro e w1 ⟨rfl,hb⟩
  have C1:=hideK (C0.out.call hb)
  obtain⟨l0,l1,l2,l3,l4⟩:=k_cells (C1.out.get 0 rfl)
  clear hb C0
  go_wp2_with fail
  go_ret
  exact⟨rfl,C1.out.low⟩
 |true =>
  have HM:Hid (mayB z b r s=decide (((s.size:Nat):Int)<=8000)):=by unfold Hid mayB;rw[hr,Bool.true_and,decide_eq_decide];omega
  rw[HM.out]
  rw[hr]at HR
  clear hr HM
  go_enter Tryz.func88,Tryz.ntmps88
  go_wp2_with fail
  refine(HR.out _).mono ?_
  rintro e w1 ⟨rfl,hb⟩
  have C1:=hideK (C0.out.call hb)
  obtain⟨l0,l1,l2,l3,l4⟩:=k_cells (C1.out.get 0 rfl)
  clear hb C0
  go_wp2_with fail
  go_ret
  exact⟨rfl,C1.out.low⟩
theorem mixedK:Tryz.prog.follows .mixedOrders=true:=by kernel_rfl
theorem right_run (g:Nat) (v:Value) (e:Nat) (z b:Int) (r s:ByteArray) (y:Int) (w:World) (A B Q:Bool) (hg:w.heap[g]? = some (wkB v e z b r s y)) (hA:mayB z b r s=A) (hB:((e:Int)==(s.size:Int))=B) (hQ:(A && B && spanB s y)=Q) :
  Calls Tryz.prog 46 #[.pointer (some ⟨g,0,none⟩)] w fun q w'=>q=.returned (.bool Q)/\Below w.heap.size w w':=by
 have HM:=hideK (fun W=>mayOpen_any z b r s y W)
 have HS:=hideK (fun W=>synced_any z b r s y W)
 obtain⟨c0,c1,c2,c3,c4,c5,c6⟩:=wk_cells hg
 unfold kV at HM HS
 rw[hA]at HM
 clear hA hg
 have g1:=fun d os=>cell_regrown c1 d os
 have g2:=fun d os=>cell_regrown c2 d os
 have g3:=fun d os=>cell_regrown c3 d os
 have g4:=fun d os=>cell_regrown c4 d os
 have g5:=fun d os=>cell_regrown c5 d os
 have g6:=fun d os=>cell_regrown c6 d os
 have hmx:=mixedK
 cases A with
 |false =>
  have HQ:Hid (Q=false):=by unfold Hid;rw[<-hQ];rfl
  clear hQ hB
  go_enter Tryz.func46,Tryz.ntmps46
  go_upto_region 1 with fail
  refine wp_region_quiet_below (by assumption) (by kernel_rfl) ?_
  repeat (go_big_quiet_step ((go_at_call 88;exact Calls.regrown_of (HM.out _))))
  refine wpQuiet_nil ?_
  intro _ hw'
  obtain⟨⟨dq,osq⟩,hw''⟩:=hw'
  subst hw''
  have K1:=hideK (below_regrown w dq osq)
  generalize Go.Sort.grow (redrawn w dq) osq=w8 at K1 ⊢
  clear g1 g2 g3 g4 g5 g6 c1 c2 c3 c4 c5 c6
  go_wp2_with fail
  go_ret
  exact⟨by rw[HQ.out];rfl,K1.out⟩
 |true =>
  cases B with
  |false =>
   have HQ:Hid (Q=false):=by unfold Hid;rw[<-hQ];rfl
   have hB2:¬(e:Int)=(s.size:Int):=by simpa using hB
   clear hQ
   go_enter Tryz.func46,Tryz.ntmps46
   go_upto_region 1 with fail
   refine wp_region_quiet_below (by assumption) (by kernel_rfl) ?_
   repeat (go_big_quiet_step ((go_at_call 88;exact Calls.regrown_of (HM.out _))))
   refine wpQuiet_nil ?_
   intro _ hw'
   obtain⟨⟨dq,osq⟩,hw''⟩:=hw'
   subst hw''
   have K1:=hideK (below_regrown w dq osq)
   generalize Go.Sort.grow (redrawn w dq) osq=w8 at K1 ⊢
   clear g1 g2 g3 g4 g5 g6 c1 c2 c3 c4 c5 c6
   go_wp2_with fail
   go_ret
   exact⟨by rw[HQ.out];rfl,K1.out⟩
  |true =>
   have HQ:Hid (Q=spanB s y):=by unfold Hid;rw[<-hQ];rfl
   clear hQ
   generalize spanB s y=S at HS HQ
   go_enter Tryz.func46,Tryz.ntmps46
   go_upto_region 1 with fail
   refine wp_region_quiet_below (by assumption) (by kernel_rfl) ?_
   repeat (go_big_quiet_step ((first|(go_at_call 88;exact Calls.regrown_of (HM.out _))|(go_at_call 89;exact Calls.regrown_of (HS.out _)))))
   refine wpQuiet_nil ?_
   intro _ hw'
   obtain⟨⟨dq,osq⟩,hw''⟩:=hw'
   subst hw''
   have K1:=hideK (below_regrown w dq osq)
   generalize Go.Sort.grow (redrawn w dq) osq=w8 at K1 ⊢
   clear g1 g2 g3 g4 g5 g6 c1 c2 c3 c4 c5 c6
   go_wp2_with fail
   go_ret
   exact⟨by rw[HQ.out];rfl,K1.out⟩
theorem right_any (g:Nat) (v:Value) (e:Nat) (z b:Int) (r s:ByteArray) (y:Int) (w:World) (hg:w.heap[g]? = some (wkB v e z b r s y)) :
  Calls Tryz.prog 46 #[.pointer (some ⟨g,0,none⟩)] w fun q w'=>q=.returned (.bool (atB z b r s y e))/\Below w.heap.size w w' :=
 right_run g v e z b r s y w _ _ _ hg rfl rfl (by
  unfold atB
  congr 2
  by_cases h:e=s.size
  ·rw[decide_eq_true h,h];simp
  ·rw[decide_eq_false h];simp;omega)
end Go.Proofs.YtikiihjabbmkcaaGreatDoor.Kp


/- KeepRight, KeepSync, KeepRecover of the program. -/
namespace Go.Proofs.YtikiihjabbmkcaaGreatDoor.Kp
open Go.RowKit
open Ls (HH hh_keep lV lowL blkL)
open St (Strs)
def FitC (fit:Rec->Bool) (z b:Int) (r:ByteArray) (w:World):Prop :=
 ∀ (W:World) (x:MR),Below w.heap.size w W->x.1.2.1.size<=8000->x.1.2.2.length<=400->(∃ a cap,x.2=.slice a x.1.2.2.length cap/\x.1.2.2.length<=cap/\Strs W W.heap.size a x.1.2.2)->Calls Tryz.prog 85 #[.agg #[.int .i64 x.1.1,.string x.1.2.1,x.2],lV z b r] W fun e w'=>e=.returned (.bool (fit x.1))/\Below W.heap.size W w'
theorem FitC.later {fit:Rec->Bool} {z b:Int} {r:ByteArray} {w w':World} (h:FitC fit z b r w) (hb:Below w.heap.size w w'):FitC fit z b r w':=fun W x hW=>h W x (lowL hb hW)
structure Opn (fit:Rec->Bool) (z b:Int) (r s:ByteArray) (y:Int) (w W:World) (g gw:Nat) (v:Value) (m:List MR):Prop where
 cx:Cx w W [(gw,wkB v (allR fit s).2 z b r s y),(g,kB z b r s y)]
 rs:recs m=(allR fit s).1
 row:OwnR W w.heap.size v m
 ps:Paths W m
theorem Opn.call {fit:Rec->Bool} {z b:Int} {r s:ByteArray} {y:Int} {w W W':World} {g gw:Nat} {v:Value} {m:List MR} (h:Opn fit z b r s y w W g gw v m) (hb:Below W.heap.size W W'):Opn fit z b r s y w W' g gw v m :=
 ⟨h.cx.call hb,h.rs,h.row.below hb,h.ps.keeps (KeepsS.below hb)⟩
end Go.Proofs.YtikiihjabbmkcaaGreatDoor.Kp


namespace Go.Proofs.YtikiihjabbmkcaaGreatDoor.Se
open Go.RowKit
open Nu (bv arr_string ret_strJ hideJ)
theorem seal_split (s t:ByteArray) (ht:t=s.extract 0 (s.size-4)) (hts:t.size<=7996):sealV t=s↔fourS (crcOf t)=s.extract (s.size-4) s.size:=by
 have e:t++s.extract (s.size-4) s.size=s:=by
  rw[ht,ByteArray.extract_append_extract];simp[Nat.max_eq_right]
 unfold sealV
 rw[if_pos hts]
 constructor
 ·intro h
  rw[<-e]at h
  generalize s.extract (s.size-4) s.size=r at h e ⊢
  have h':t++fourS (crcOf t)=t++r:=by
   rw[e]at h
   rw[e]
   exact h
  exact(ByteArray.append_right_inj t).1 h'
 ·intro h
  rw[h]
  exact e
theorem unseal_spec (s:ByteArray) (w:World) (hs:s.size<=maxLen) :
  Calls Tryz.prog 121 #[.string s] w fun e w'=>e=.returned (unsealV s)/\Below w.heap.size w w':=by
 unfold maxLen at hs
 by_cases h1:8000<s.size
 ·have HV:=hideJ (show unsealV s=outV ⟨#[]⟩ 0 2 by unfold unsealV;rw[if_pos h1])
  go_enter Tryz.func121,Tryz.ntmps121
  go_wp2
  refine bodyPost_ret (v:=outV ⟨#[]⟩ 0 2) (by simp[results,outV,Tryz.results121,go_sem]) rfl ⟨by rw[HV.out],?_⟩
  exact(Below.refl _ _).alloc (Nat.le_refl _) _
 ·by_cases h2:s.size<4
  ·have HV:=hideJ (show unsealV s=outV ⟨#[]⟩ 0 4 by unfold unsealV;rw[if_neg h1,if_pos h2])
   go_enter Tryz.func121,Tryz.ntmps121
   go_wp2
   refine bodyPost_ret (v:=outV ⟨#[]⟩ 0 4) (by simp[results,outV,Tryz.results121,go_sem]) rfl ⟨by rw[HV.out],?_⟩
   exact(Below.refl _ _).alloc (Nat.le_refl _) _
  ·obtain⟨t,ht⟩:∃ t,t=s.extract 0 (s.size-4):=⟨_,rfl⟩
   have hts:t.size<=7996:=by rw[ht];simp;omega
   by_cases hq:sealV t=s
   ·have HV:=hideJ (unsealV_yes s t h1 h2 ht hq)
    have hB:((fourS (crcOf t)).toList==(s.extract (s.size-4) s.size).toList)=true:=by rw[list_eq_iff];exact decide_eq_true ((seal_split s t ht hts).1 hq)
    have hB2:((fourS (crcOf t)).toList==(s.extract ((s.size:Int)-4).toNat s.size).toList)=true:=by rw[show ((s.size:Int)-4).toNat=s.size-4 from by omega];exact hB
    have HT:=hideJ ht
    clear ht hq
    have g1:(0:Int)<=(s.size:Int)-4:=by omega
    have g2:(s.size:Int)-4<=(s.size:Int):=by omega
    have hwr:IntKind.i64.wrap ((s.size:Int)-4)=(s.size:Int)-4:=by rw[IntKind.wrap_i64];omega
    go_enter Tryz.func121,Tryz.ntmps121
    go_wp2
    rw[<-HT.out]
    go_region_with (first|(go_at_call 149;refine(Cr.crc_spec 0 t _ (by omega) (by omega)).mono ?_;rintro e w' ⟨rfl,hw⟩;subst w')|(go_at_call 148;refine(four_any (crcOf t) _ (crcOf_lt t)).mono ?_;rintro e wa ⟨rfl,hb1⟩))
    obtain⟨hc1,hf1⟩:=bcell hb1
    have hz1:w.heap.size+1<=wa.heap.size:=by have:=hb1.size;simpa using this
    go_wp2
    refine bodyPost_ret (v:=outV t 0 0) (by simp[results,outV,Tryz.results121,go_sem,hc1]) rfl ⟨by rw[HV.out],?_⟩
    exact((below2d hb1).setCell (Nat.le_refl _) _ |>.setCell (Nat.le_refl _) _).setCell (Nat.le_refl _) _
   ·have HV:=hideJ (unsealV_no s t h1 h2 ht hq)
    have hB:((fourS (crcOf t)).toList==(s.extract (s.size-4) s.size).toList)=false:=by rw[list_eq_iff];exact decide_eq_false (fun h=>hq ((seal_split s t ht hts).2 h))
    have hB2:((fourS (crcOf t)).toList==(s.extract ((s.size:Int)-4).toNat s.size).toList)=false:=by rw[show ((s.size:Int)-4).toNat=s.size-4 from by omega];exact hB
    have HT:=hideJ ht
    clear ht hq
    have g1:(0:Int)<=(s.size:Int)-4:=by omega
    have g2:(s.size:Int)-4<=(s.size:Int):=by omega
    have hwr:IntKind.i64.wrap ((s.size:Int)-4)=(s.size:Int)-4:=by rw[IntKind.wrap_i64];omega
    go_enter Tryz.func121,Tryz.ntmps121
    go_wp2
    rw[<-HT.out]
    go_region_with (first|(go_at_call 149;refine(Cr.crc_spec 0 t _ (by omega) (by omega)).mono ?_;rintro e w' ⟨rfl,hw⟩;subst w')|(go_at_call 148;refine(four_any (crcOf t) _ (crcOf_lt t)).mono ?_;rintro e wa ⟨rfl,hb1⟩))
    obtain⟨hc1,hf1⟩:=bcell hb1
    have hz1:w.heap.size+1<=wa.heap.size:=by have:=hb1.size;simpa using this
    go_wp2
    refine bodyPost_ret (v:=outV ⟨#[]⟩ 0 5) (by simp[results,outV,Tryz.results121,go_sem,hc1]) rfl ⟨by rw[HV.out],?_⟩
    exact((below2d hb1).setCell (Nat.le_refl _) _ |>.setCell (Nat.le_refl _) _).setCell (Nat.le_refl _) _
end Go.Proofs.YtikiihjabbmkcaaGreatDoor.Se

