/- What both Digest answer, and the law on it. -/
import Derived.Test.YteiicafjjcnioaaDoorShaDigest
import Derived.Test.YteiicafjjcnioaaDoorShaBlock
import Derived.Test.YteiicafjjcnioaaDoorShaAllA
namespace Go.Proofs.YteiicafjjcnioaaDoor.Sh
open Go.RowKit

theorem all_any (t : ByteArray) (w : World) (ht : t.size ≤ 1048576) :
    Calls Tryd.prog 71 #[.string t] w fun e w' => e = .returned (.string (sha t)) ∧ Below w.heap.size w w' :=
  all_of (fun s gs c t w h1 h2 h3 h4 => block_any s gs c t w h1 h2 h3 h4) t w ht

def digestV (t : ByteArray) : ByteArray := if t.size ≤ 8000 then sha t else ⟨#[]⟩

theorem digest_spec (t : ByteArray) (w : World) (ht : t.size ≤ maxLen) :
    Calls Tryd.prog 24 #[.string t] w fun e w' => e = .returned (.string (digestV t)) ∧ Below w.heap.size w w' := by
  unfold maxLen at ht
  by_cases h : 8000 < t.size
  · have HP := hideS (show digestV t = ⟨#[]⟩ by unfold digestV; rw [if_neg (by omega)])
    go_enter Tryd.func24, Tryd.ntmps24
    go_wp2_with fail
    go_ret
    exact ⟨Nu.ret_strJ HP.out.symm, Below.refl _ _⟩
  · have HP := hideS (show digestV t = sha t by unfold digestV; rw [if_pos (by omega)])
    go_enter Tryd.func24, Tryd.ntmps24
    go_wp2_with fail
    refine (all_any t w (by omega)).mono ?_
    rintro e w1 ⟨rfl, hb1⟩
    go_wp2_with fail
    go_ret
    exact ⟨Nu.ret_strJ HP.out.symm, hb1⟩

theorem digest_impl (t : ByteArray) (w : World) (ht : t.size ≤ maxLen) (hV : Vars w) :
    Calls Tryd.prog 19 #[.string t] w fun e w' => e = .returned (.string (digestV t)) ∧ Below w.heap.size w w' := by
  unfold maxLen at ht
  have HV := hideS hV
  clear hV
  by_cases h : 8000 < t.size
  · have HP := hideS (show digestV t = ⟨#[]⟩ by unfold digestV; rw [if_neg (by omega)])
    go_enter Tryd.func19, Tryd.ntmps19
    go_wp2_with fail
    go_ret
    exact ⟨Nu.ret_strJ HP.out.symm, Below.refl _ _⟩
  · have HP := hideS (show digestV t = sha t by unfold digestV; rw [if_pos (by omega)])
    go_enter Tryd.func19, Tryd.ntmps19
    go_wp2_with fail
    refine (digestOf_any t w (by omega) HV.out).mono ?_
    rintro e w1 ⟨rfl, hb1⟩
    go_wp2_with fail
    go_ret
    exact ⟨Nu.ret_strJ HP.out.symm, hb1⟩
end Go.Proofs.YteiicafjjcnioaaDoor.Sh

namespace Go.Proofs.YteiicafjjcnioaaDoor.fnExactDigest
open Go.RowKit
open Go.Proofs.YteiicafjjcnioaaDoor.Sh

theorem walk (t : ByteArray) (ht : t.size ≤ maxLen) (w : World) (hV : Vars w) :
    Calls Tryd.prog 6 #[.string t] w fun e w' => e = .returned (.bool true) ∧ Below w.heap.size w w' := by
  have HV := hideS hV
  have h2 := hV.two
  clear hV
  have HT := hideS ht
  unfold maxLen at ht
  by_cases h : 1048576 < t.size
  · go_enter Tryd.func6, Tryd.ntmps6
    go_wp2_with fail
    go_ret
    exact ⟨rfl, Below.refl _ _⟩
  · go_enter Tryd.func6, Tryd.ntmps6
    go_wp2_with fail
    refine (digest_spec t _ HT.out).mono ?_
    rintro e w1 ⟨rfl, hb1⟩
    go_wp2_with fail
    refine (digest_impl t _ HT.out (HV.out.below hb1 h2)).mono ?_
    rintro e w2 ⟨rfl, hb2⟩
    have HB := hideS (hb1.trans (hb2.mono hb1.size))
    clear hb1 hb2
    go_wp2_with fail
    go_ret
    exact ⟨rfl, HB.out⟩
end Go.Proofs.YteiicafjjcnioaaDoor.fnExactDigest
