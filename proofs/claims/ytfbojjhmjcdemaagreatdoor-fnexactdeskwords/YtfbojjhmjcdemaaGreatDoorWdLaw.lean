/- The walk of the law FnExactDeskWords. -/
import Derived.Test.YtfbojjhmjcdemaaGreatDoorWdWords
import Derived.Test.YtfbojjhmjcdemaaGreatDoorStrIn
namespace Go.Proofs.YtfbojjhmjcdemaaGreatDoor.fnExactDeskWords
open Go.RowKit
open Go.Proofs.YtfbojjhmjcdemaaGreatDoor.Wd
open Go.Proofs.YtfbojjhmjcdemaaGreatDoor.St (Aft)

theorem below2 {w w1 w2 : World} (h : Below w.heap.size w w1) (h2 : Below w1.heap.size w1 w2) : Below w.heap.size w w2 := h.trans (h2.mono h.size)

set_option maxHeartbeats 4000000 in
theorem walk (w : World) :
    Calls Tryz.prog 3 #[] w fun e w' => e = .returned (.bool true) ∧ Below w.heap.size w w' := by
  have HI := hideW words_impl
  have HP := hideW words_spec
  have HQN : Hid (wordsL.length ≤ 1048576) := by unfold Hid; rw [wordsL_len]; decide
  generalize wordsL = q at HI HP HQN
  go_enter Tryz.func3, Tryz.ntmps3
  go_wp2_with fail
  refine (HP.out w).mono ?_
  rintro e w2 ⟨v6, rfl, ho6, hb2⟩
  have V6 := hideW ho6.inn
  have B2 := hideW hb2
  clear hb2 ho6
  go_wp2_with fail
  refine (HI.out w2).mono ?_
  rintro e w4 ⟨v8, rfl, ho8, hb4⟩
  have V8 := hideW ho8.inn
  have V6c := hideW (V6.out.below hb4 (by omega))
  have B4 := hideW (below2 B2.out hb4)
  have z4 := hb4.size
  clear hb4 ho8 V6
  go_wp2_with fail
  refine (St.eq_in V8.out V6c.out HQN.out).mono ?_
  rintro e w5 ⟨rfl, hb5⟩
  have V8b := hideW (V8.out.below hb5 (Nat.le_refl _))
  have V6d := hideW (V6c.out.below hb5 (by omega))
  have B5 := hideW (below2 B4.out hb5)
  have z5 := hb5.size
  have b2z := B2.out.size
  clear hb5 V8 V6c
  go_wp2_with fail
  refine (St.mark_in V8b.out HQN.out).mono ?_
  rintro e w10 ⟨rfl, hm10, g', hg', ha10⟩
  have M10 := hideW hm10
  have V6i := hideW (V6d.out.aft ha10 (by omega) (by omega))
  have B10 := hideW (Aft.below B5.out ha10 (by omega) B5.out.size)
  have z10 := ha10.2.2.2.1
  clear ha10 hm10 V8b V6d
  generalize hql : q.length = ql at HQN M10 ⊢
  have hpos2 : ¬ (1 + (ql : Int)) < 0 := by omega
  go_wp2_with fail
  refine (St.held_in M10.out HQN.out).mono ?_
  rintro e w11 ⟨rfl, hb11⟩
  have M11 := hideW (M10.out.below hb11 (by omega))
  have V6j := hideW (V6i.out.below hb11 (by omega))
  have B11 := hideW (below2 B10.out hb11)
  have z11 := hb11.size
  clear hb11 M10 V6i
  go_wp2_with fail
  refine (HI.out w11).mono ?_
  rintro e w13 ⟨v12, rfl, ho13, hb13⟩
  have V13 := hideW ho13.inn
  have M13 := hideW (M11.out.below hb13 (by omega))
  have V6l := hideW (V6j.out.below hb13 (by omega))
  have B13 := hideW (below2 B11.out hb13)
  have z13 := hb13.size
  clear hb13 ho13 M11 V6j
  go_wp2_with fail
  refine (St.eq_in V13.out V6l.out (by rw [hql]; exact HQN.out)).mono ?_
  rintro e w14 ⟨rfl, hb14⟩
  have M14 := hideW (M13.out.below hb14 (by omega))
  have B14 := hideW (below2 B13.out hb14)
  have z14 := hb14.size
  clear hb14 M13 V6l V13
  go_wp2_with fail
  refine (St.held_in M14.out HQN.out).mono ?_
  rintro e w15 ⟨rfl, hb15⟩
  have B15 := hideW (below2 B14.out hb15)
  clear hb15
  go_wp2_with fail
  go_ret
  exact ⟨rfl, B15.out⟩
end Go.Proofs.YtfbojjhmjcdemaaGreatDoor.fnExactDeskWords
