/- The walk of the law FnExactPeerNew out of the contracts. -/
import Derived.Test.YtikiihjabbmkcaaPnNew
namespace Go.Proofs.Ytikiihjabbmkcaa.fnExactPeerNew
open Go.RowKit
open Go.Proofs.Ytikiihjabbmkcaa.Kp
open Go.Proofs.Ytikiihjabbmkcaa.Pn
open Go.Proofs.Ytikiihjabbmkcaa.Ls (lV sz_yes sz_no to_any cells3)

theorem form (z b : Int) (r : ByteArray) : ∃ z2 b2 r2 s2 y2 c2, pnewV z b r = poV z2 b2 r2 s2 y2 c2 := by
  unfold pnewV
  split
  · exact ⟨_, _, _, _, _, _, rfl⟩
  · exact ⟨_, _, _, _, _, _, rfl⟩

set_option maxRecDepth 100000 in
set_option maxHeartbeats 2000000 in
theorem walk (z b : Int) (r : ByteArray) (_ : (Lit.int .i64 z).wf = true) (_ : (Lit.int .i64 b).wf = true) (hr : r.size ≤ maxLen) (w : World) :
    Calls Try.prog 3 #[lV z b r] w fun e w' => e = .returned (.bool true) ∧ Below w.heap.size w w' := by
  unfold maxLen at hr
  have C0 := hideK ((Cx.nil w).new (.cells #[.int .i64 z, .int .i64 b, .string r] 23))
  by_cases h : r.size ≤ 1048576
  · have HZ := hideK (fun W => sz_yes z b r W h)
    have HT := hideK (fun W => to_any z b r W)
    have HI := hideK (fun W => peerNew_impl z b r W)
    have HS := hideK (fun W => peerNew_spec z b r W)
    have h1 : ¬ (1048576 - (r.size : Int)) < 0 := by omega
    have h2 : decide ((1048576 - (r.size : Int)) < 0) = false := by simp; omega
    obtain ⟨z2, b2, r2, s2, y2, c2, hx⟩ := form z b r
    rw [hx] at HI HS
    have HE := hideK (fun W => eqPO_none z2 b2 r2 s2 y2 c2 W)
    have HM := hideK (fun W => markPO_none z2 b2 r2 s2 y2 c2 W)
    have HH := hideK (fun W => heldPO_none z2 b2 r2 s2 y2 c2 W)
    clear hx
    unfold lV at HZ HT HI HS ⊢
    unfold poV at HI HS HE HM HH
    go_enter Try.func3, Try.ntmps3
    go_wp2_with fail
    generalize w.alloc _ = wa at C0 ⊢
    refine (HZ.out _).mono ?_
    rintro e w1 ⟨rfl, hb⟩
    have C1 := hideK (C0.out.call hb)
    clear hb C0 HZ
    obtain ⟨c0, c1, c2'⟩ := cells3 (C1.out.get 0 rfl)
    go_wp2_with fail
    refine (HT.out _).mono ?_
    rintro e w2 ⟨rfl, hb⟩
    have C2 := hideK (C1.out.call hb)
    clear hb C1 c0 c1 c2'
    go_wp2_with fail
    refine (HS.out _).mono ?_
    rintro e w3 ⟨rfl, hb⟩
    have D3 := hideK ((C2.out.call hb).new (poB z2 b2 r2 s2 y2 c2))
    clear hb C2 HS
    unfold poB at D3
    go_upto_region 6 with fail
    generalize w3.alloc _ = W3 at D3 ⊢
    generalize w3.heap.size = g3 at D3 ⊢
    obtain ⟨c0, c1, c2'⟩ := cells3 (D3.out.get 1 rfl)
    go_wp2_with fail
    refine (HT.out _).mono ?_
    rintro e w4 ⟨rfl, hb⟩
    have C4 := hideK (D3.out.call hb)
    clear hb D3 c0 c1 c2'
    go_wp2_with fail
    refine (HI.out _).mono ?_
    rintro e w5 ⟨rfl, hb⟩
    have D5 := hideK ((C4.out.call hb).new (poB z2 b2 r2 s2 y2 c2))
    clear hb C4
    unfold poB at D5
    go_upto_region 7 with fail
    generalize w5.alloc _ = W5 at D5 ⊢
    generalize w5.heap.size = g5 at D5 ⊢
    obtain ⟨a0, a1, a2, a3, a4, a5, a6, a7⟩ := cells8 (D5.out.get 0 rfl)
    obtain ⟨d0, d1, d2, d3, d4, d5, d6, d7⟩ := cells8 (D5.out.get 1 rfl)
    go_wp2_with fail
    refine (HE.out _).mono ?_
    rintro e w6 ⟨rfl, hb⟩
    have C6 := hideK (D5.out.call hb)
    clear hb D5 a0 a1 a2 a3 a4 a5 a6 a7 d0 d1 d2 d3 d4 d5 d6 d7
    obtain ⟨a0, a1, a2, a3, a4, a5, a6, a7⟩ := cells8 (C6.out.get 0 rfl)
    go_wp2_with fail
    refine (HM.out _).mono ?_
    rintro e w7 ⟨rfl, hb⟩
    have C7 := hideK (C6.out.call hb)
    clear hb C6 a0 a1 a2 a3 a4 a5 a6 a7
    obtain ⟨a0, a1, a2, a3, a4, a5, a6, a7⟩ := cells8 (C7.out.get 0 rfl)
    go_wp2_with fail
    refine (HH.out _).mono ?_
    rintro e w8 ⟨rfl, hb⟩
    have C8 := hideK (C7.out.call hb)
    clear hb C7 a0 a1 a2 a3 a4 a5 a6 a7
    obtain ⟨c0, c1, c2'⟩ := cells3 (C8.out.get 2 rfl)
    go_wp2_with fail
    refine (HT.out _).mono ?_
    rintro e w9 ⟨rfl, hb⟩
    have C9 := hideK (C8.out.call hb)
    clear hb C8 c0 c1 c2'
    go_wp2_with fail
    refine (HI.out _).mono ?_
    rintro e w10 ⟨rfl, hb⟩
    have D10 := hideK ((C9.out.call hb).new (poB z2 b2 r2 s2 y2 c2))
    clear hb C9
    unfold poB at D10
    go_upto_region 18 with fail
    generalize w10.alloc _ = W10 at D10 ⊢
    generalize w10.heap.size = g10 at D10 ⊢
    obtain ⟨a0, a1, a2, a3, a4, a5, a6, a7⟩ := cells8 (D10.out.get 0 rfl)
    obtain ⟨d0, d1, d2, d3, d4, d5, d6, d7⟩ := cells8 (D10.out.get 2 rfl)
    go_wp2_with fail
    refine (HE.out _).mono ?_
    rintro e w11 ⟨rfl, hb⟩
    have C11 := hideK (D10.out.call hb)
    clear hb D10 a0 a1 a2 a3 a4 a5 a6 a7 d0 d1 d2 d3 d4 d5 d6 d7
    obtain ⟨a0, a1, a2, a3, a4, a5, a6, a7⟩ := cells8 (C11.out.get 1 rfl)
    go_wp2_with fail
    refine (HH.out _).mono ?_
    rintro e w12 ⟨rfl, hb⟩
    have C12 := hideK (C11.out.call hb)
    clear hb C11
    go_wp2_with fail
    go_ret
    exact ⟨rfl, C12.out.low⟩
  · have HZ := hideK (fun W => sz_no z b r W (by omega) (by omega))
    unfold lV at HZ ⊢
    go_enter Try.func3, Try.ntmps3
    go_wp2_with fail
    generalize w.alloc _ = wa at C0 ⊢
    refine (HZ.out _).mono ?_
    rintro e w1 ⟨rfl, hb⟩
    have C1 := hideK (C0.out.call hb)
    clear hb C0
    go_wp2_with fail
    go_ret
    exact ⟨rfl, C1.out.low⟩
end Go.Proofs.Ytikiihjabbmkcaa.fnExactPeerNew
