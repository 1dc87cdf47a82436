/- Texts put together: OutputLaw. -/
import Derived.Test.YtkgjfdanjmnmbaaGreatDoorOz19
import Derived.Test.YtkgjfdanjmnmbaaGreatDoorOz49
set_option maxRecDepth 100000
set_option maxHeartbeats 8000000
namespace Go.Proofs.YtkgjfdanjmnmbaaGreatDoor.fnExactOutput
open Go.RowKit
open Kp
open Up (Glob glob_keep)
open Ls (fileV HH hh_keep lV rightB vars_keepF lowL)
open Sh (Vars)
theorem walk (z b:Int) (r s:ByteArray) (y:Int) (_:(Lit.int .i64 z).wf=true) (_:(Lit.int .i64 b).wf=true) (hr:r.size<=maxLen) (hs:s.size<=maxLen) (_:(Lit.int .i64 y).wf=true) (w:World) (hh:HH w) (hV:Vars w) (ga:Addr) (hG:Glob w (.iface 265 (.pointer (some ga)))) :
  Calls Tryz.prog 3 #[kV z b r s y] w fun e w'=>e=.returned (.bool true)/\Below w.heap.size w w':=by
 unfold maxLen at hr hs
 have C0:=hideK ((Cx.nil w).new (lkB z b r s y))
 unfold lkB at C0
 by_cases h:r.size+s.size<=1048576
 ·have HZ:=hideK (fun W=>szK_yes z b r s y W h)
  have HT:=hideK (fun W=>toK_any z b r s y W)
  have HI:=hideK (fun W (hW:Below w.heap.size w W)=>output_impl (fitR z b r) (fileV z b r) z b r s y W (by omega) (hh_keep hh hW) (fitC_of z b r W (vars_keepF hV hW)) (fileC_of z b r ga W (glob_keep hG hW)) fit_out)
  have HS:=hideK (fun W=>output_spec (fitR z b r) (fileV z b r) z b r s y W (by omega) (fun hq=>fitS_of z b r W hq) (fun hq=>fileS_of z b r W hq) fit_out)
  have h1:¬(1048576-(r.size:Int)-(s.size:Int))<0:=by omega
  have h2:decide ((1048576-(r.size:Int)-(s.size:Int))<0)=false:=by simp;omega
  generalize outT (fitR z b r) (fileV z b r) z b r s y=x at HI HS
  have hcmp:(x.toList==x.toList)=true:=by simp
  unfold kV at HZ HT HI HS ⊢
  go_enter Tryz.func3,Tryz.ntmps3
  go_wp2_with fail
  generalize w.alloc _=wa at C0 ⊢
  refine(HZ.out _).mono ?_
  rintro e w1 ⟨rfl,hb⟩
  have C1:=hideK (C0.out.call hb)
  clear hb C0 HZ
  obtain⟨c0,c1,c2,c3,c4⟩:=lk_cells (C1.out.get 0 rfl)
  go_wp2_with fail
  refine(HT.out _).mono ?_
  rintro e w2 ⟨rfl,hb⟩
  have C2:=hideK (C1.out.call hb)
  clear hb C1 c0 c1 c2 c3 c4
  go_wp2_with fail
  refine(HS.out _).mono ?_
  rintro e w3 ⟨rfl,hb⟩
  have C3:=hideK ((C2.out.call hb))
  clear hb C2 HS
  obtain⟨c0,c1,c2,c3,c4⟩:=lk_cells (C3.out.get 0 rfl)
  go_wp2_with fail
  refine(HT.out _).mono ?_
  rintro e w4 ⟨rfl,hb⟩
  have C4:=hideK (C3.out.call hb)
  clear hb C3 c0 c1 c2 c3 c4
  go_wp2_with fail
  refine(HI.out _ C4.out.low).mono ?_
  rintro e w5 ⟨rfl,hb⟩
  have C5:=hideK (C4.out.call hb)
  clear hb C4
  go_wp2_with fail
  go_ret
  exact⟨rfl,C5.out.low⟩
 ·have HZ:=hideK (fun W=>szK_no z b r s y W (by omega) (by omega) h)
  unfold kV at HZ ⊢
  go_enter Tryz.func3,Tryz.ntmps3
  go_wp2_with fail
  generalize w.alloc _=wa at C0 ⊢
  refine(HZ.out _).mono ?_
  rintro e w1 ⟨rfl,hb⟩
  have C1:=hideK (C0.out.call hb)
  clear hb C0
  go_wp2_with fail
  go_ret
  exact⟨rfl,C1.out.low⟩
end Go.Proofs.YtkgjfdanjmnmbaaGreatDoor.fnExactOutput

