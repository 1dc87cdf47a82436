/- The walks of the specification's Blocks. -/
import Derived.Test.YtikiihjabbmkcaaBlkImpl
import Derived.Test.YtikiihjabbmkcaaBitWalks
namespace Go.Proofs.Ytikiihjabbmkcaa.Bk
open Go.RowKit
open Go.Proofs.Ytikiihjabbmkcaa.St (OwnS one_newS one_cellS app_one)
open Go.Proofs.Ytikiihjabbmkcaa.Bi (is_yes is_no)

theorem own_noneS (W : World) : OwnS (W.alloc (.cells #[] 9)) W.heap.size (.slice (some ⟨W.heap.size, 0, none⟩) 0 0) [] :=
  ⟨rfl, .inr ⟨W.heap.size, 0, #[], rfl, Nat.le_refl _, heap_alloc_new W _, Nat.le_refl _, by unfold maxLen; omega, rfl, rfl⟩⟩
theorem count_any (p k : Nat) (w : World) (hp : p ≤ 1000) (hk : 0 < k) (hk2 : k ≤ 48) :
    Calls Try.prog 23 #[.int .i64 p, .int .i64 k] w fun e w' => e = .returned (.int .i64 (cnt p k : Nat)) ∧ w' = w := by
  have hq : ((p : Int) + k - 1).tdiv k = ((cnt p k : Nat) : Int) := by
    unfold cnt
    rw [Int.tdiv_eq_ediv_of_nonneg (by omega), Int.natCast_ediv]
    congr 1
    omega
  have hk0 : ((k : Int) == 0) = false := by simp; omega
  have hcb : cnt p k ≤ 1047 := by
    have := Nat.div_le_self (p + k - 1) k
    unfold cnt
    omega
  generalize cnt p k = c at hq hcb ⊢
  go_enter Try.func23, Try.ntmps23
  go_wp2_with fail
  go_ret
  exact ⟨rfl, rfl⟩

end Go.Proofs.Ytikiihjabbmkcaa.Bk
