/- The walks of spec.PutText and impl.PutText (each answers Nu.putT of its text). -/
import Derived.Test.YtkfipamdfpknpaaDoorNumWalks
import Derived.Test.YtkfipamdfpknpaaDoorJoinWalks
namespace Go.Proofs.YtkfipamdfpknpaaDoor.Nu
open Go.RowKit

def putT (t : ByteArray) : ByteArray := if t.size ≤ 8000 then putS (t.size : Int) ++ t else ⟨#[]⟩

theorem putS_size (n : Int) : (putS n).size ≤ 10 := by
  have := (numB_length (zz n)).1
  simpa [putS, ByteArray.size] using this

set_option maxHeartbeats 400000 in
theorem text_spec (t : ByteArray) (w : World) (ht : t.size ≤ maxLen) :
    Calls Tryd.prog 55 #[.string t] w fun e w' => e = .returned (.string (putT t)) ∧ Below w.heap.size w w' := by
  unfold maxLen at ht
  by_cases h : 8000 < t.size
  · have HP := hide (show putT t = ⟨#[]⟩ by unfold putT; rw [if_neg (by omega)])
    go_enter Tryd.func55, Tryd.ntmps55
    go_wp2
    go_ret
    exact ⟨ret_str HP.out.symm, Below.refl _ _⟩
  · have HP := hide (show putT t = putS (t.size : Int) ++ t by unfold putT; rw [if_pos (by omega)])
    have hps := putS_size (t.size : Int)
    go_enter Tryd.func55, Tryd.ntmps55
    go_wp2_with fail
    refine (put_spec _ _ (by omega) (by omega)).mono ?_
    rintro e w1 ⟨rfl, hb1⟩
    go_wp2
    go_ret
    exact ⟨ret_str HP.out.symm, hb1⟩

set_option maxHeartbeats 400000 in
theorem text_impl (t : ByteArray) (w : World) (ht : t.size ≤ maxLen) :
    Calls Tryd.prog 60 #[.string t] w fun e w' => e = .returned (.string (putT t)) ∧ Below w.heap.size w w' := by
  unfold maxLen at ht
  by_cases h : 8000 < t.size
  · have HP := hide (show putT t = ⟨#[]⟩ by unfold putT; rw [if_neg (by omega)])
    go_enter Tryd.func60, Tryd.ntmps60
    go_wp2
    go_ret
    exact ⟨ret_str HP.out.symm, Below.refl _ _⟩
  · have HP := hide (show putT t = putS (t.size : Int) ++ t by unfold putT; rw [if_pos (by omega)])
    have hps := putS_size (t.size : Int)
    go_enter Tryd.func60, Tryd.ntmps60
    go_wp2_with fail
    refine (put_impl _ _ (by omega) (by omega)).mono ?_
    rintro e w1 ⟨rfl, hb1⟩
    go_wp2_with fail
    refine (join_any _ _ _ (by omega)).mono ?_
    rintro e w2 ⟨rfl, hb2⟩
    go_wp2
    go_ret
    exact ⟨ret_str HP.out.symm, hb1.trans (hb2.mono hb1.size)⟩
end Go.Proofs.YtkfipamdfpknpaaDoor.Nu
