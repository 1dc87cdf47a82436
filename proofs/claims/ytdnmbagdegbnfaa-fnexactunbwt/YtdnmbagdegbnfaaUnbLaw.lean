/- The walk of the law FnExactUnbwt. -/
import Derived.Test.YtdnmbagdegbnfaaUnbSpec2
import Derived.Test.YtdnmbagdegbnfaaBwtLaw
namespace Go.Proofs.Ytdnmbagdegbnfaa.So
open Go.RowKit

set_option maxHeartbeats 400000 in
theorem eq_text (t : ByteArray) (a c : Int) (w : World) :
    Calls Try.prog 73 #[.agg #[.string t, .int .i64 a, .int .i64 c], .agg #[.string t, .int .i64 a, .int .i64 c]] w fun e w' => e = .returned (.bool true) ∧ Below w.heap.size w w' := by
  have h1 : (a != a) = false := by simp
  have h2 : (c != c) = false := by simp
  go_enter Try.func73, Try.ntmps73
  go_wp2
  go_ret
  exact ⟨rfl, ((Below.refl _ _).alloc (Nat.le_refl _) _).alloc (by simp) _⟩
end Go.Proofs.Ytdnmbagdegbnfaa.So
namespace Go.Proofs.Ytdnmbagdegbnfaa.fnExactUnbwt
open Go.RowKit
open Go.Proofs.Ytdnmbagdegbnfaa.So

set_option maxHeartbeats 400000 in
theorem walk (a0 : ByteArray) (w0 : a0.size ≤ maxLen) (a1 : Int) (w : World) :
    Calls Try.prog 12 #[.string a0, .int .i64 a1] w fun e w' => e = .returned (.bool true) ∧ Below w.heap.size w w' := by
  have hs := w0
  unfold maxLen at hs
  have HI := hideO (fun (W : World) (h : a0.size ≤ 1048576) => unbwt_impl a0 a1 W h)
  have HP := hideO (fun (W : World) (h : a0.size ≤ 1048576) => unbwt_spec a0 a1 W h)
  obtain ⟨t, c, hv⟩ := unR_case a0 a1
  rw [hv] at HI HP
  clear hv
  by_cases hbig : 1048576 < a0.size
  · go_enter Try.func12, Try.ntmps12
    go_wp2
    go_ret
    exact ⟨rfl, Below.refl _ _⟩
  · have HN : Hid (a0.size ≤ 1048576) := by
      unfold Hid
      omega
    have hbig' : ¬ (1048576 : Int) < (a0.size : Int) := by omega
    go_enter Try.func12, Try.ntmps12
    go_wp2_with fail
    refine (HP.out _ HN.out).mono ?_
    rintro e w1 ⟨rfl, hb1⟩
    go_wp2_with fail
    refine (HI.out _ HN.out).mono ?_
    rintro e w2 ⟨rfl, hb2⟩
    obtain ⟨hc2, hf2⟩ := bcell hb2
    have hz2 : w1.heap.size < w2.heap.size := by have := hb2.size; simp at this; omega
    go_wp2_with fail
    refine (eq_text _ _ _ _).mono ?_
    rintro e w3 ⟨rfl, hb3⟩
    go_wp2
    go_ret
    refine ⟨rfl, ?_⟩
    have k1 := (hb1.alloc hb1.size (.cells #[.string t, .int .i64 0, .int .i64 c] 51)).trans (hb2.mono (by have := hb1.size; simp; omega))
    have k2 := k1.alloc (by have := hb1.size; omega) (.cells #[.string t, .int .i64 0, .int .i64 c] 51)
    exact k2.trans (hb3.mono (by have := hb1.size; simp; omega))
end Go.Proofs.Ytdnmbagdegbnfaa.fnExactUnbwt
