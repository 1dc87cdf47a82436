/- Texts put together: HaveLaw. -/
import Derived.Test.YtikiihjabbmkcaaGreatDoorHz21
import Derived.Test.YtikiihjabbmkcaaGreatDoorHz42
import Derived.Test.YtikiihjabbmkcaaGreatDoorHz45
import Derived.Test.YtikiihjabbmkcaaGreatDoorHz46
set_option maxRecDepth 100000
set_option maxHeartbeats 8000000
namespace Go.Proofs.YtikiihjabbmkcaaGreatDoor.fnExactHave
open Go.RowKit
open Kp
open Ls (HH hh_keep lV rightB vars_keepF lowL)
open Sh (Vars)
open St (Aft)
open In (OwnI OwnIn)
theorem cx_aft {w W W':World} {l:List (Nat × Obj)} {g:Nat} (h:Cx w W l) (ha:Aft g W W') (hg:w.heap.size<=g) (hne:∀ x∈l,x.1≠g):Cx w W' l :=
 ⟨Aft.below h.low ha hg h.low.size,fun x hx=>(ha.2.2.2.2 x.1 (lt_rowK (h.blk x hx)) (hne x hx)).trans (h.blk x hx)⟩
theorem walk (z b:Int) (r s:ByteArray) (y:Int) (_:(Lit.int .i64 z).wf=true) (_:(Lit.int .i64 b).wf=true) (hr:r.size<=maxLen) (hs:s.size<=maxLen) (_:(Lit.int .i64 y).wf=true) (w:World) (hh:HH w) (hV:Vars w) :
  Calls Tryz.prog 3 #[kV z b r s y] w fun e w'=>e=.returned (.bool true)/\Below w.heap.size w w':=by
 unfold maxLen at hr hs
 have C0:=hideK ((Cx.nil w).new (lkB z b r s y))
 unfold lkB at C0
 by_cases h:r.size+s.size<=1048576
 ·have HZ:=hideK (fun W=>szK_yes z b r s y W h)
  have HT:=hideK (fun W=>toK_any z b r s y W)
  have HI:=hideK (fun W (hW:Below w.heap.size w W)=>have_impl (fitR z b r) z b r s y W (by omega) (hh_keep hh hW) (fitC_of z b r W (vars_keepF hV hW)))
  have HS:=hideK (fun W=>have_spec (fitR z b r) z b r s y W (by omega) (fun hq=>fitS_of z b r W hq))
  have h1:¬(1048576-(r.size:Int)-(s.size:Int))<0:=by omega
  have h2:decide ((1048576-(r.size:Int)-(s.size:Int))<0)=false:=by simp;omega
  have HQN:=hideK (haveL_length (fitR z b r) z b r s y (by omega))
  generalize haveL (fitR z b r) z b r s y=q at HI HS HQN
  unfold kV at HZ HT HI HS ⊢
  go_enter Tryz.func3,Tryz.ntmps3
  go_wp2_with fail
  generalize w.alloc _=wa at C0 ⊢
  refine(HZ.out _).mono ?_
  rintro e w1 ⟨rfl,hb⟩
  have C1:=hideK (C0.out.call hb)
  clear hb C0 HZ
  obtain⟨c0,c1,c2,c3,c4⟩:=lk_cells (C1.out.get 0 rfl)
  go_wp2_with fail
  refine(HT.out _).mono ?_
  rintro e w2 ⟨rfl,hb⟩
  have C2:=hideK (C1.out.call hb)
  clear hb C1 c0 c1 c2 c3 c4
  go_wp2_with fail
  refine(HS.out _).mono ?_
  rintro e w3 ⟨v6,rfl,ho,hb⟩
  have V6:=hideK ho.inn
  have z2:=lt_rowK (C2.out.get 0 rfl)
  have z3:=hb.size
  have C3:=hideK (C2.out.call hb)
  clear hb C2 HS ho
  obtain⟨c0,c1,c2,c3,c4⟩:=lk_cells (C3.out.get 0 rfl)
  go_wp2_with fail
  refine(HT.out _).mono ?_
  rintro e w4 ⟨rfl,hb⟩
  have C4:=hideK (C3.out.call hb)
  have V6b:=hideK (V6.out.below hb (Nat.le_refl _))
  have z4:=hb.size
  clear hb C3 c0 c1 c2 c3 c4 V6
  go_wp2_with fail
  refine(HI.out _ C4.out.low).mono ?_
  rintro e w5 ⟨v8,rfl,ho,hb⟩
  have V8:=hideK ho.inn
  have C5:=hideK (C4.out.call hb)
  have V6c:=hideK (V6b.out.below hb (by omega))
  have z5:=hb.size
  clear hb C4 ho V6b
  go_wp2_with fail
  refine(In.eq_in V8.out V6c.out HQN.out).mono ?_
  rintro e w6 ⟨rfl,hb⟩
  have C6:=hideK (C5.out.call hb)
  have V8b:=hideK (V8.out.below hb (Nat.le_refl _))
  have V6d:=hideK (V6c.out.below hb (by omega))
  have z6:=hb.size
  clear hb C5 V8 V6c
  go_wp2_with fail
  refine(In.mark_in V8b.out HQN.out).mono ?_
  rintro e w7 ⟨rfl,hm7,g7,hg7,ha7⟩
  have M7:=hideK hm7
  have V6e:=hideK (V6d.out.aft ha7 (by omega) (by omega))
  have C7:=hideK (cx_aft C6.out ha7 (by omega) (fun x hx=>by rw[List.mem_singleton.1 hx];show w.heap.size≠g7;omega))
  have z7:=ha7.2.2.2.1
  clear ha7 hm7 V8b V6d C6
  generalize hql:q.length=ql at HQN M7 ⊢
  have hpos2:¬(1+(ql:Int))<0:=by have:=HQN.out;omega
  go_wp2_with fail
  refine(In.held_in M7.out HQN.out).mono ?_
  rintro e w8 ⟨rfl,hb⟩
  have C8:=hideK (C7.out.call hb)
  have M8:=hideK (M7.out.below hb (by omega))
  have V6f:=hideK (V6e.out.below hb (by omega))
  have z8:=hb.size
  clear hb C7 M7 V6e
  obtain⟨c0,c1,c2,c3,c4⟩:=lk_cells (C8.out.get 0 rfl)
  go_wp2_with fail
  refine(HT.out _).mono ?_
  rintro e w9 ⟨rfl,hb⟩
  have C9:=hideK (C8.out.call hb)
  have M9:=hideK (M8.out.below hb (by omega))
  have V6g:=hideK (V6f.out.below hb (by omega))
  have z9:=hb.size
  clear hb C8 c0 c1 c2 c3 c4 M8 V6f
  go_wp2_with fail
  refine(HI.out _ C9.out.low).mono ?_
  rintro e w10 ⟨v12,rfl,ho,hb⟩
  have V12:=hideK ho.inn
  have C10:=hideK (C9.out.call hb)
  have M10:=hideK (M9.out.below hb (by omega))
  have V6h:=hideK (V6g.out.below hb (by omega))
  have z10:=hb.size
  clear hb C9 ho M9 V6g
  go_wp2_with fail
  refine(In.eq_in V12.out V6h.out (by rw[hql];exact HQN.out)).mono ?_
  rintro e w11 ⟨rfl,hb⟩
  have C11:=hideK (C10.out.call hb)
  have M11:=hideK (M10.out.below hb (by omega))
  clear hb C10 M10 V12 V6h
  go_wp2_with fail
  refine(In.held_in M11.out HQN.out).mono ?_
  rintro e w12 ⟨rfl,hb⟩
  have C12:=hideK (C11.out.call hb)
  clear hb C11
  go_wp2_with fail
  go_ret
  exact⟨rfl,C12.out.low⟩
 ·have HZ:=hideK (fun W=>szK_no z b r s y W (by omega) (by omega) h)
  unfold kV at HZ ⊢
  go_enter Tryz.func3,Tryz.ntmps3
  go_wp2_with fail
  generalize w.alloc _=wa at C0 ⊢
  refine(HZ.out _).mono ?_
  rintro e w1 ⟨rfl,hb⟩
  have C1:=hideK (C0.out.call hb)
  clear hb C0
  go_wp2_with fail
  go_ret
  exact⟨rfl,C1.out.low⟩
end Go.Proofs.YtikiihjabbmkcaaGreatDoor.fnExactHave

