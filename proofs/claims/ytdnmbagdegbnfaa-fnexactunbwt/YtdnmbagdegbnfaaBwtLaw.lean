/- The walk of the law FnExactBwt. -/
import Derived.Test.YtdnmbagdegbnfaaBwtSpec
namespace Go.Proofs.Ytdnmbagdegbnfaa.So
open Go.RowKit

set_option maxHeartbeats 400000 in
theorem eq_sort (t : ByteArray) (a c : Nat) (w : World) :
    Calls Try.prog 72 #[.agg #[.string t, .int .i64 a, .int .i64 c], .agg #[.string t, .int .i64 a, .int .i64 c]] w fun e w' => e = .returned (.bool true) ∧ Below w.heap.size w w' := by
  have h1 : ((a : Int) != (a : Int)) = false := by simp
  have h2 : ((c : Int) != (c : Int)) = false := by simp
  go_enter Try.func72, Try.ntmps72
  go_wp2
  go_ret
  exact ⟨rfl, ((Below.refl _ _).alloc (Nat.le_refl _) _).alloc (by simp) _⟩
theorem bcell {W w1 : World} (hb : Below W.heap.size W w1) : (∀ b o, b < W.heap.size → w1.cell? ⟨b, o, none⟩ = W.cell? ⟨b, o, none⟩) ∧ (∀ b o, b < W.heap.size → w1.frozen? ⟨b, o, none⟩ = W.frozen? ⟨b, o, none⟩) :=
  ⟨fun b o h => hb.cell (p := ⟨b, o, none⟩) h, fun b o h => hb.frozen (p := ⟨b, o, none⟩) h⟩
end Go.Proofs.Ytdnmbagdegbnfaa.So
namespace Go.Proofs.Ytdnmbagdegbnfaa.fnExactBwt
open Go.RowKit
open Go.Proofs.Ytdnmbagdegbnfaa.So

set_option maxHeartbeats 400000 in
theorem walk (a0 : ByteArray) (w0 : a0.size ≤ maxLen) (w : World) :
    Calls Try.prog 11 #[.string a0] w fun e w' => e = .returned (.bool true) ∧ Below w.heap.size w w' := by
  have hs := w0
  unfold maxLen at hs
  have HI := hideO (fun (W : World) (h : a0.size ≤ 1048576) => bwt_impl a0 W h)
  have HP := hideO (fun (W : World) (h : a0.size ≤ 1048576) => bwt_spec a0 W h)
  unfold sOut at HI HP
  generalize bwtT a0 = t at HI HP
  generalize bwtA a0 = m at HI HP
  generalize bwtC a0 = c at HI HP
  by_cases hbig : 1048576 < a0.size
  · go_enter Try.func11, Try.ntmps11
    go_wp2
    go_ret
    exact ⟨rfl, Below.refl _ _⟩
  · have HN : Hid (a0.size ≤ 1048576) := by
      unfold Hid
      omega
    have hbig' : ¬ (1048576 : Int) < (a0.size : Int) := by omega
    go_enter Try.func11, Try.ntmps11
    go_wp2_with fail
    refine (HP.out _ HN.out).mono ?_
    rintro e w1 ⟨rfl, hb1⟩
    go_wp2_with fail
    refine (HI.out _ HN.out).mono ?_
    rintro e w2 ⟨rfl, hb2⟩
    obtain ⟨hc2, hf2⟩ := bcell hb2
    have hz2 : w1.heap.size < w2.heap.size := by have := hb2.size; simp at this; omega
    go_wp2_with fail
    refine (eq_sort _ _ _ _).mono ?_
    rintro e w3 ⟨rfl, hb3⟩
    go_wp2
    go_ret
    refine ⟨rfl, ?_⟩
    have k1 := (hb1.alloc hb1.size (.cells #[.string t, .int .i64 m, .int .i64 c] 49)).trans (hb2.mono (by have := hb1.size; simp; omega))
    have k2 := k1.alloc (by have := hb1.size; omega) (.cells #[.string t, .int .i64 m, .int .i64 c] 49)
    exact k2.trans (hb3.mono (by have := hb1.size; simp; omega))
end Go.Proofs.Ytdnmbagdegbnfaa.fnExactBwt
