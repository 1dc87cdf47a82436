/- The walk of the law FnExactFrontBack. -/
import Derived.Test.YtdnmbagdegbnfaaFrontBS
import Derived.Test.YtdnmbagdegbnfaaIntIn
import Derived.Test.YtdnmbagdegbnfaaIntArg
namespace Go.Proofs.Ytdnmbagdegbnfaa.fnExactFrontBack
open Go.RowKit
open Go.Proofs.Ytdnmbagdegbnfaa.Ze (hideZ)
open Go.Proofs.Ytdnmbagdegbnfaa.Fr
open Go.Proofs.Ytdnmbagdegbnfaa.In (Ints IsI toInt_any ints_of IsNums)

theorem below2 {w w1 w2 : World} (h : Below w.heap.size w w1) (h2 : Below w1.heap.size w1 w2) : Below w.heap.size w w2 := h.trans (h2.mono h.size)

set_option maxHeartbeats 4000000 in
theorem walk_in (l : List Int) (a : Option Addr) (cap : Nat) (w : World) (hs : Ints w w.heap.size a l) (hn : l.length ≤ maxLen) :
    Calls Try.prog 14 #[.slice a l.length cap] w fun e w' => e = .returned (.bool true) ∧ Below w.heap.size w w' := by
  have HTo := hideZ (fun W (hW : Below w.heap.size w W) (h : l.length ≤ 1048576) => toInt_any a cap l W ((hs.below hW).mono hW.size) h)
  have HI := hideZ (fun (x : Option Addr) (W : World) (h : l.length ≤ 1048576) hx => frontBack_impl l x l.length W.heap.size W hx (Nat.le_refl _) h)
  have HP := hideZ (fun (x : Option Addr) (W : World) (h : l.length ≤ 1048576) hx => frontBack_spec l x l.length W.heap.size W hx (Nat.le_refl _) h)
  have HEx := hideZ (fun (W : World) (lo hi lo' hi' : Nat) (u v : Value) (h1 : In.OwnIn W lo hi u l) (h2 : In.OwnIn W lo' hi' v l) (hm : l.length ≤ 1048576) => In.eq_in h1 h2 hm)
  have HIn := hideZ (fun (W : World) (g : Nat) (h1 : IsI W g 2 l) => h1.inn l.length)
  clear hs
  unfold maxLen at hn
  generalize l.length = n at hn HTo HI HP HEx HIn ⊢
  obtain ⟨q, hq⟩ : ∃ q : ByteArray, q = ⟨(fbackR l).toArray⟩ := ⟨_, rfl⟩
  rw [← hq] at HI HP
  clear hq
  by_cases hbig : 1048576 < n
  · go_enter Try.func14, Try.ntmps14
    go_wp2_with fail
    go_ret
    exact ⟨rfl, Below.refl _ _⟩
  · have HN : Hid (n ≤ 1048576) := by
      unfold Hid
      omega
    go_enter Try.func14, Try.ntmps14
    go_wp2_with fail
    refine (HTo.out w (Below.refl _ _) HN.out).mono ?_
    rintro e w1 ⟨rfl, hi1, hb1⟩
    have S1 := hideZ (hi1.ints hi1.lt)
    have B1 := hideZ hb1
    clear hi1 hb1
    go_wp2_with fail
    refine (HP.out (some ⟨w.heap.size, 0, none⟩) w1 HN.out S1.out).mono ?_
    rintro e w2 ⟨rfl, hb2⟩
    have B2 := hideZ (below2 B1.out hb2)
    clear hb2
    go_wp2_with fail
    refine (HTo.out w2 B2.out HN.out).mono ?_
    rintro e w3 ⟨rfl, hi3, hb3⟩
    have X3 := hideZ hi3
    have B3 := hideZ (below2 B2.out hb3)
    have z3 : w2.heap.size < w3.heap.size := hi3.lt
    clear hi3 hb3
    go_wp2_with fail
    refine (HI.out (some ⟨w2.heap.size, 0, none⟩) w3 HN.out (X3.out.ints X3.out.lt)).mono ?_
    rintro e w4 ⟨rfl, hb4⟩
    have X4 := hideZ (HIn.out _ _ (X3.out.below hb4 X3.out.lt))
    have B4 := hideZ (below2 B3.out hb4)
    have z4 := hb4.size
    clear hb4 X3
    go_wp2_with fail
    refine (HTo.out w4 B4.out HN.out).mono ?_
    rintro e w6 ⟨rfl, hi6, hb6⟩
    have X6 := hideZ (X4.out.below hb6 (by omega))
    have Y6 := hideZ (HIn.out _ _ hi6)
    have B6 := hideZ (below2 B4.out hb6)
    clear hb6 hi6 X4
    go_wp2_with fail
    refine (HEx.out _ _ _ _ _ _ _ X6.out Y6.out HN.out).mono ?_
    rintro e w7 ⟨rfl, hb7⟩
    have B7 := hideZ (below2 B6.out hb7)
    clear hb7
    go_wp2_with fail
    go_ret
    exact ⟨rfl, B7.out⟩

theorem walk (a0 : Option Addr) (len0 cap0 : Nat) (z0 : List Int) {w : World} (w0 : IsNums w a0 len0 cap0 z0) :
    Calls Try.prog 14 #[.slice a0 len0 cap0] w fun e w' => e = .returned (.bool true) ∧ Below w.heap.size w w' := by
  obtain ⟨l, rfl, hs, hm, _, _⟩ := ints_of w0
  exact walk_in l a0 cap0 w hs hm
end Go.Proofs.Ytdnmbagdegbnfaa.fnExactFrontBack
