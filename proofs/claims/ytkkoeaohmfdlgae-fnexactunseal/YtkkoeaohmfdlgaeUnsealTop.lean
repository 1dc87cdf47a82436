/- The walk of the law FnExactUnseal out of the contracts. -/
import Derived.Test.YtkkoeaohmfdlgaeUnsealSpec
namespace Go.Proofs.Ytkkoeaohmfdlgae.Se
open Go.RowKit

theorem unsealV_form (s : ByteArray) : ∃ t c, unsealV s = .agg #[.string t, .int .i64 0, .int .i64 c] := by
  unfold unsealV outV
  split
  · exact ⟨_, _, rfl⟩
  · split
    · exact ⟨_, _, rfl⟩
    · split <;> exact ⟨_, _, rfl⟩

set_option maxHeartbeats 400000 in
theorem eq_same (t : ByteArray) (a c : Int) (w : World) :
    Calls Try.prog 9 #[.agg #[.string t, .int .i64 a, .int .i64 c], .agg #[.string t, .int .i64 a, .int .i64 c]] w fun e w' => e = .returned (.bool true) ∧ Below w.heap.size w w' := by
  have h1 : (a != a) = false := by simp
  have h2 : (c != c) = false := by simp
  go_enter Try.func9, Try.ntmps9
  go_wp2
  go_ret
  exact ⟨rfl, ((Below.refl _ _).alloc (Nat.le_refl _) _).alloc (by simp) _⟩
end Go.Proofs.Ytkkoeaohmfdlgae.Se
namespace Go.Proofs.Ytkkoeaohmfdlgae.fnExactUnseal
open Go.RowKit

set_option maxHeartbeats 400000 in
theorem walk (a0 : ByteArray) (w0 : a0.size ≤ maxLen) (w : World) :
    Calls Try.prog 4 #[.string a0] w fun e w' => e = .returned (.bool true) ∧ Below w.heap.size w w' := by
  have hs := w0
  unfold maxLen at hs
  by_cases hbig : 1048576 < a0.size
  · go_enter Try.func4, Try.ntmps4
    go_wp2
    go_ret
    exact ⟨rfl, Below.refl _ _⟩
  · obtain ⟨t, c, hv⟩ := Se.unsealV_form a0
    have HV := Nu.hideJ hv
    clear hv
    go_enter Try.func4, Try.ntmps4
    go_wp2_with fail
    refine (Se.unseal_spec _ _ w0).mono ?_
    rw [HV.out]
    rintro e w1 ⟨rfl, hb1⟩
    go_wp2_with fail
    refine (Se.unseal_impl _ _ w0).mono ?_
    rw [HV.out]
    rintro e w2 ⟨rfl, hb2⟩
    obtain ⟨hc2, hf2⟩ := Se.bcell hb2
    have hz2 : w1.heap.size < w2.heap.size := by have := hb2.size; simp at this; omega
    go_wp2_with fail
    refine (Se.eq_same _ _ _ _).mono ?_
    rintro e w3 ⟨rfl, hb3⟩
    go_wp2
    go_ret
    refine ⟨rfl, ?_⟩
    have k1 := (hb1.alloc hb1.size (.cells #[.string t, .int .i64 0, .int .i64 c] 25)).trans (hb2.mono (by have := hb1.size; simp; omega))
    have k2 := k1.alloc (by have := hb1.size; omega) (.cells #[.string t, .int .i64 0, .int .i64 c] 25)
    exact k2.trans (hb3.mono (by have := hb1.size; simp; omega))
end Go.Proofs.Ytkkoeaohmfdlgae.fnExactUnseal
