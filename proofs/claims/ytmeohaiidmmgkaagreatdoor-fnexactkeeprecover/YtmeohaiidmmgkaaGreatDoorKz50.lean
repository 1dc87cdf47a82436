/- Texts put together: KeepRecoverLaw. -/
import Derived.Test.YtmeohaiidmmgkaaGreatDoorKz21
import Derived.Test.YtmeohaiidmmgkaaGreatDoorKz42
import Derived.Test.YtmeohaiidmmgkaaGreatDoorKz43
/- The walk of the law FnExactKeepRecover out of the contracts. -/
namespace Go.Proofs.YtmeohaiidmmgkaaGreatDoor.fnExactKeepRecover
open Go.RowKit
open Go.Proofs.YtmeohaiidmmgkaaGreatDoor.Kp
open Go.Proofs.YtmeohaiidmmgkaaGreatDoor.Ls (HH hh_keep lV rightB vars_keepF lowL)
open Go.Proofs.YtmeohaiidmmgkaaGreatDoor.Sh (Vars)
theorem fnExactKeepRecover_form (fit : Rec → Bool) (z b : Int) (r s : ByteArray) (y : Int) : ∃ z2 b2 r2 s2 y2, recoverV fit z b r s y = kV z2 b2 r2 s2 y2 := by
 unfold recoverV
 split
 ·exact ⟨_, _, _, _, _, rfl⟩
 ·exact ⟨_, _, _, _, _, rfl⟩
set_option maxRecDepth 100000 in
set_option maxHeartbeats 2000000 in
theorem walk (z b : Int) (r s : ByteArray) (y : Int) (_ : (Lit.int .i64 z).wf = true) (_ : (Lit.int .i64 b).wf = true) (hr : r.size ≤ maxLen) (hs : s.size ≤ maxLen) (_ : (Lit.int .i64 y).wf = true) (w : World) (hh : HH w) (hV : Vars w) :
  Calls Tryz.prog 6 #[kV z b r s y] w fun e w' => e = .returned (.bool true) ∧ Below w.heap.size w w' := by
 unfold maxLen at hr hs
 have C0 := hideK ((Cx.nil w).new (lkB z b r s y))
 unfold lkB at C0
 by_cases h : r.size + s.size ≤ 1048576
 ·have HZ := hideK (fun W => szK_yes z b r s y W h)
  have HT := hideK (fun W => toK_any z b r s y W)
  have HI := hideK (fun W (hW : Below w.heap.size w W) => keepRecover_impl (fitR z b r) z b r s y W (by omega) (hh_keep hh hW) (fitC_of z b r W (vars_keepF hV hW)))
  have HS := hideK (fun W => keepRecover_spec (fitR z b r) z b r s y W (by omega) (fun hq => fitS_of z b r W hq))
  have h1 : ¬ (1048576 - (r.size : Int) - (s.size : Int)) < 0 := by omega
  have h2 : decide ((1048576 - (r.size : Int) - (s.size : Int)) < 0) = false := by simp; omega
  obtain ⟨z2, b2, r2, s2, y2, hx⟩ : ∃ z2 b2 r2 s2 y2, recoverV (fitR z b r) z b r s y = kV z2 b2 r2 s2 y2 := fnExactKeepRecover_form (fitR z b r) z b r s y
  rw [hx] at HI HS
  have HE := hideK (fun W => eqK_same z2 b2 r2 s2 y2 W)
  clear hx
  unfold kV at HZ HT HI HS HE ⊢
  go_enter Tryz.func6, Tryz.ntmps6
  go_wp2_with fail
  generalize w.alloc _ = wa at C0 ⊢
  refine (HZ.out _).mono ?_
  rintro e w1 ⟨rfl, hb⟩
  have C1 := hideK (C0.out.call hb)
  clear hb C0 HZ
  obtain ⟨c0, c1, c2, c3, c4⟩ := lk_cells (C1.out.get 0 rfl)
  go_wp2_with fail
  refine (HT.out _).mono ?_
  rintro e w2 ⟨rfl, hb⟩
  have C2 := hideK (C1.out.call hb)
  clear hb C1 c0 c1 c2 c3 c4
  go_wp2_with fail
  refine (HS.out _).mono ?_
  rintro e w3 ⟨rfl, hb⟩
  have C3 := hideK ((C2.out.call hb))
  clear hb C2 HS
  obtain ⟨c0, c1, c2, c3, c4⟩ := lk_cells (C3.out.get 0 rfl)
  have D3 := hideK (C3.out.new (.cells #[.int .i64 z2, .int .i64 b2, .string r2, .string s2, .int .i64 y2] 30))
  clear C3 c0 c1 c2 c3 c4
  go_upto_region 6 with fail
  generalize w3.alloc _ = W3 at D3 ⊢
  generalize w3.heap.size = g3 at D3 ⊢
  obtain ⟨c0, c1, c2, c3, c4⟩ := lk_cells (D3.out.get 1 rfl)
  go_wp2_with fail
  refine (HT.out _).mono ?_
  rintro e w4 ⟨rfl, hb⟩
  have C4 := hideK (D3.out.call hb)
  clear hb D3 c0 c1 c2 c3 c4
  go_wp2_with fail
  refine (HI.out _ C4.out.low).mono ?_
  rintro e w5 ⟨rfl, hb⟩
  have D5 := hideK ((C4.out.call hb).new (.cells #[.int .i64 z2, .int .i64 b2, .string r2, .string s2, .int .i64 y2] 30))
  clear hb C4
  go_upto_region 7 with fail
  generalize w5.alloc _ = W5 at D5 ⊢
  generalize w5.heap.size = g5 at D5 ⊢
  obtain ⟨a0, a1, a2', a3, a4⟩ := cells5 (D5.out.get 0 rfl)
  obtain ⟨d0, d1, d2, d3, d4⟩ := cells5 (D5.out.get 1 rfl)
  go_wp2_with fail
  refine (HE.out _).mono ?_
  rintro e w6 ⟨rfl, hb⟩
  have C6 := hideK (D5.out.call hb)
  clear hb D5
  go_wp2_with fail
  go_ret
  exact ⟨rfl, C6.out.low⟩
 ·have HZ := hideK (fun W => szK_no z b r s y W (by omega) (by omega) h)
  unfold kV at HZ ⊢
  go_enter Tryz.func6, Tryz.ntmps6
  go_wp2_with fail
  generalize w.alloc _ = wa at C0 ⊢
  refine (HZ.out _).mono ?_
  rintro e w1 ⟨rfl, hb⟩
  have C1 := hideK (C0.out.call hb)
  clear hb C0
  go_wp2_with fail
  go_ret
  exact ⟨rfl, C1.out.low⟩
end Go.Proofs.YtmeohaiidmmgkaaGreatDoor.fnExactKeepRecover

