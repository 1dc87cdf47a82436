/- What both Digest answer, and the law on it. -/
import Derived.Test.YtghghkfhcpldhaaDoorShaDigest
import Derived.Test.YtghghkfhcpldhaaDoorShaBlock
import Derived.Test.YtghghkfhcpldhaaDoorShaAllA
namespace Go.Proofs.YtghghkfhcpldhaaDoor.Sh
open Go.RowKit

theorem all_any (t : ByteArray) (w : World) (ht : t.size ≤ 1048576) :
    Calls Tryd.prog 60 #[.string t] w fun e w' => e = .returned (.string (sha t)) ∧ Below w.heap.size w w' :=
  all_of (fun s gs c t w h1 h2 h3 h4 => block_any s gs c t w h1 h2 h3 h4) t w ht

def digestV (t : ByteArray) : ByteArray := if t.size ≤ 8000 then sha t else ⟨#[]⟩

theorem digest_spec (t : ByteArray) (w : World) (ht : t.size ≤ maxLen) :
    Calls Tryd.prog 41 #[.string t] w fun e w' => e = .returned (.string (digestV t)) ∧ Below w.heap.size w w' := by
  unfold maxLen at ht
  by_cases h : 8000 < t.size
  · have HP := hideS (show digestV t = ⟨#[]⟩ by unfold digestV; rw [if_neg (by omega)])
    go_enter Tryd.func41, Tryd.ntmps41
    go_wp2_with fail
    go_ret
    exact ⟨Nu.ret_strJ HP.out.symm, Below.refl _ _⟩
  · have HP := hideS (show digestV t = sha t by unfold digestV; rw [if_pos (by omega)])
    go_enter Tryd.func41, Tryd.ntmps41
    go_wp2_with fail
    refine (all_any t w (by omega)).mono ?_
    rintro e w1 ⟨rfl, hb1⟩
    go_wp2_with fail
    go_ret
    exact ⟨Nu.ret_strJ HP.out.symm, hb1⟩

theorem digest_impl (t : ByteArray) (w : World) (ht : t.size ≤ maxLen) (hV : Vars w) :
    Calls Tryd.prog 51 #[.string t] w fun e w' => e = .returned (.string (digestV t)) ∧ Below w.heap.size w w' := by
  unfold maxLen at ht
  have HV := hideS hV
  clear hV
  by_cases h : 8000 < t.size
  · have HP := hideS (show digestV t = ⟨#[]⟩ by unfold digestV; rw [if_neg (by omega)])
    go_enter Tryd.func51, Tryd.ntmps51
    go_wp2_with fail
    go_ret
    exact ⟨Nu.ret_strJ HP.out.symm, Below.refl _ _⟩
  · have HP := hideS (show digestV t = sha t by unfold digestV; rw [if_pos (by omega)])
    go_enter Tryd.func51, Tryd.ntmps51
    go_wp2_with fail
    refine (digestOf_any t w (by omega) HV.out).mono ?_
    rintro e w1 ⟨rfl, hb1⟩
    go_wp2_with fail
    go_ret
    exact ⟨Nu.ret_strJ HP.out.symm, hb1⟩
end Go.Proofs.YtghghkfhcpldhaaDoor.Sh
