/- The walk of the law FnExactGetNum out of the contracts. -/
import Derived.Test.YtkkoeaohmfdlgadDoorGetNumWalks
namespace Go.Proofs.YtkkoeaohmfdlgadDoor.Gn
open Go.RowKit

theorem getV_form (s : ByteArray) (a : Int) : ∃ n p c, getV s a = .agg #[.int .i64 n, .int .i64 p, .int .i64 c] := by
  rw [getV_rd]
  unfold outN
  split <;> exact ⟨_, _, _, rfl⟩

set_option maxHeartbeats 400000 in
theorem eqNum_same (n p c : Int) (w : World) :
    Calls Tryd.prog 7 #[.agg #[.int .i64 n, .int .i64 p, .int .i64 c], .agg #[.int .i64 n, .int .i64 p, .int .i64 c]] w fun e w' => e = .returned (.bool true) ∧ Below w.heap.size w w' := by
  have h0 : (n != n) = false := by simp
  have h1 : (p != p) = false := by simp
  have h2 : (c != c) = false := by simp
  go_enter Tryd.func7, Tryd.ntmps7
  go_wp2
  go_ret
  exact ⟨rfl, ((Below.refl _ _).alloc (Nat.le_refl _) _).alloc (by simp) _⟩
end Go.Proofs.YtkkoeaohmfdlgadDoor.Gn
namespace Go.Proofs.YtkkoeaohmfdlgadDoor.fnExactGetNum
open Go.RowKit

set_option maxHeartbeats 400000 in
theorem walk (a0 : ByteArray) (w0 : a0.size ≤ maxLen) (a1 : Int) (_ : (Lit.int .i64 a1).wf = true) (w : World) (hg : w.cell? ⟨0, 0, none⟩ = some Gn.handle) :
    Calls Tryd.prog 3 #[.string a0, .int .i64 a1] w fun e w' => e = .returned (.bool true) ∧ Below w.heap.size w w' := by
  have hs := w0
  unfold maxLen at hs
  have HG := Gn.hide hg
  clear hg
  by_cases hbig : 1048576 < a0.size
  · go_enter Tryd.func3, Tryd.ntmps3
    go_wp2
    go_ret
    exact ⟨rfl, Below.refl _ _⟩
  · obtain ⟨n, p, c, hv⟩ := Gn.getV_form a0 a1
    have HV := Gn.hide hv
    clear hv
    go_enter Tryd.func3, Tryd.ntmps3
    go_wp2_with fail
    refine (Gn.get_spec _ _ _ w0).mono ?_
    rw [HV.out]
    rintro e w1 ⟨rfl, hb1⟩
    go_wp2_with fail
    refine (Gn.get_impl _ _ _ w0 (Gn.handle_alloc _ (Gn.handle_below hb1 HG.out))).mono ?_
    rw [HV.out]
    rintro e w2 ⟨rfl, hb2⟩
    obtain ⟨hc2, hf2⟩ := Gn.bcell hb2
    have hz2 : w1.heap.size < w2.heap.size := by have := hb2.size; simp at this; omega
    go_wp2_with fail
    refine (Gn.eqNum_same _ _ _ _).mono ?_
    rintro e w3 ⟨rfl, hb3⟩
    go_wp2
    go_ret
    refine ⟨rfl, ?_⟩
    have k1 := (hb1.alloc hb1.size (.cells #[.int .i64 n, .int .i64 p, .int .i64 c] 23)).trans (hb2.mono (by have := hb1.size; simp; omega))
    have k2 := k1.alloc (by have := hb1.size; omega) (.cells #[.int .i64 n, .int .i64 p, .int .i64 c] 23)
    exact k2.trans (hb3.mono (by have := hb1.size; simp; omega))
end Go.Proofs.YtkkoeaohmfdlgadDoor.fnExactGetNum
