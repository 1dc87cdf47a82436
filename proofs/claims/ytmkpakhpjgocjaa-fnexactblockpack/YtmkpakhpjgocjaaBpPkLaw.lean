/- The walk of a law, split off its functions. -/
import Derived.Test.YtmkpakhpjgocjaaBpPkSpec
namespace Go.Proofs.Ytmkpakhpjgocjaa.fnExactBlockPack
open Go.RowKit
open Go.Proofs.Ytmkpakhpjgocjaa.Pk

set_option maxHeartbeats 400000 in
theorem walk (t : ByteArray) (ht : t.size ≤ maxLen) (w : World) :
    Calls Try.prog 6 #[.string t] w fun e w' => e = .returned (.bool true) ∧ Below w.heap.size w w' := by
  unfold maxLen at ht
  by_cases h : 1048576 < t.size
  · go_enter Try.func6, Try.ntmps6
    go_wp2_with fail
    go_ret
    exact ⟨rfl, Below.refl _ _⟩
  · go_enter Try.func6, Try.ntmps6
    go_wp2_with fail
    refine (pack_spec _ _ (by omega)).mono ?_
    rintro e wa ⟨rfl, hb1⟩
    go_wp2_with fail
    refine (pack_impl _ _ (by omega)).mono ?_
    rintro e wb ⟨rfl, hb2⟩
    go_wp2_with fail
    go_ret
    exact ⟨rfl, hb1.trans (hb2.mono hb1.size)⟩
end Go.Proofs.Ytmkpakhpjgocjaa.fnExactBlockPack
