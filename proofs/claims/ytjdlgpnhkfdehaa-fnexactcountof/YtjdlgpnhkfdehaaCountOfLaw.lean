/- The walk of the law FnExactCountOf out of the contracts. -/
import Derived.Test.YtjdlgpnhkfdehaaLsArg
namespace Go.Proofs.Ytjdlgpnhkfdehaa.fnExactCountOf
open Go.RowKit
open Go.Proofs.Ytjdlgpnhkfdehaa.Ls

set_option maxRecDepth 100000 in
set_option maxHeartbeats 1000000 in
theorem walk (z b : Int) (r : ByteArray) (_ : (Lit.int .i64 z).wf = true) (_ : (Lit.int .i64 b).wf = true) (hr : r.size ≤ maxLen) (w : World) :
    Calls Try.prog 4 #[lV z b r] w fun e w' => e = .returned (.bool true) ∧ Below w.heap.size w w' := by
  unfold maxLen at hr
  have HA : Hid (Below w.heap.size w (w.alloc (.cells #[.int .i64 z, .int .i64 b, .string r] 23))) := (Below.refl _ _).alloc (Nat.le_refl _) _
  have HX : Hid ((w.alloc (.cells #[.int .i64 z, .int .i64 b, .string r] 23)).heap[w.heap.size]? = some (.cells #[.int .i64 z, .int .i64 b, .string r] 23 (0, 0))) := heap_alloc_new w _
  by_cases h : r.size ≤ 1048576
  · have HZ := hideL (fun W => sz_yes z b r W h)
    have HT := hideL (fun W => to_any z b r W)
    have HI := hideL (fun W => count_impl z b r W)
    have HS := hideL (fun W => count_spec z b r W)
    have h1 : ¬ (1048576 - (r.size : Int)) < 0 := by omega
    have h2 : decide ((1048576 - (r.size : Int)) < 0) = false := by simp; omega
    obtain ⟨x, hx⟩ : ∃ x, x = countN z b r := ⟨_, rfl⟩
    rw [← hx] at HI HS
    have hcmp : (((x : Nat) : Int) != x) = false := by simp
    clear hx
    unfold lV at HZ HT HI HS ⊢
    go_enter Try.func4, Try.ntmps4
    go_wp2_with fail
    generalize hww : w.alloc (.cells #[.int .i64 z, .int .i64 b, .string r] 23) = wa at HA HX ⊢
    clear hww
    refine (HZ.out _).mono ?_
    rintro e w1 ⟨rfl, hb⟩
    have X1 := hideL (blkL HX.out hb)
    have B1 := hideL (lowL HA.out hb)
    clear hb HX HA
    obtain ⟨c0, c1, c2⟩ := cells3 X1.out
    go_wp2_with fail
    refine (HT.out _).mono ?_
    rintro e w2 ⟨rfl, hb⟩
    have X2 := hideL (blkL X1.out hb)
    have B2 := hideL (lowL B1.out hb)
    clear hb X1 B1 c0 c1 c2
    go_wp2_with fail
    refine (HS.out _).mono ?_
    rintro e w3 ⟨rfl, hb⟩
    have X3 := hideL (blkL X2.out hb)
    have B3 := hideL (lowL B2.out hb)
    clear hb X2 B2
    obtain ⟨c0, c1, c2⟩ := cells3 X3.out
    go_wp2_with fail
    refine (HT.out _).mono ?_
    rintro e w4 ⟨rfl, hb⟩
    have B4 := hideL (lowL B3.out hb)
    clear hb X3 B3 c0 c1 c2
    go_wp2_with fail
    refine (HI.out _).mono ?_
    rintro e w5 ⟨rfl, hb⟩
    have B5 := hideL (lowL B4.out hb)
    clear hb B4
    go_wp2_with fail
    go_ret
    exact ⟨rfl, B5.out⟩
  · have HZ := hideL (fun W => sz_no z b r W (by omega) (by omega))
    unfold lV at HZ ⊢
    go_enter Try.func4, Try.ntmps4
    go_wp2_with fail
    refine (HZ.out _).mono ?_
    rintro e w1 ⟨rfl, hb⟩
    have B1 := hideL (lowL HA.out hb)
    clear hb
    go_wp2_with fail
    go_ret
    exact ⟨rfl, B1.out⟩
end Go.Proofs.Ytjdlgpnhkfdehaa.fnExactCountOf
