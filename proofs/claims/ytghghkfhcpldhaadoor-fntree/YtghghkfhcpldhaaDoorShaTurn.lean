/- The walks of the functions that turn a number of 32 bits. -/
import Derived.Test.YtghghkfhcpldhaaDoorChecked
import Derived.Test.YtghghkfhcpldhaaDoorShaPlain
import Derived.WalkKit
import Derived.WalkSpells
import Derived.WalkLawsBesides
namespace Go.Proofs.YtghghkfhcpldhaaDoor.Sh
open Go.RowKit

theorem ret_int {k : IntKind} {a b : Int} (h : a = b) : Ending.returned (.int k a) = .returned (.int k b) := by rw [h]

theorem turn_spec (x : Int) (k : Nat) (w : World) (hk : 0 < k) (hk2 : k < 32) :
    Calls Tryd.prog 77 #[.int .u32 x, .int .u64 k] w fun e w' => e = .returned (.int .u32 (rot x k)) ∧ w' = w := by
  go_enter Tryd.func77, Tryd.ntmps77
  go_wp2
  go_ret
  exact ⟨rfl, rfl⟩

theorem turn_bits (x : Int) (k m : Nat) (w : World) (hk : 0 < k) (hm : 0 < m) (h : k + m = 32) :
    Calls Tryd.prog 81 #[.int .u32 x, .int .i64 (-k)] w fun e w' => e = .returned (.int .u32 (rot x k)) ∧ w' = w := by
  have HR : Hid (bits BinOp.or IntKind.u32 (x * 2 ^ m % 4294967296) (x / 2 ^ k) = rot x k) := by
    unfold Hid rot
    rw [or_comm32]
    obtain rfl : m = 32 - k := by omega
    rfl
  have he := neg_mask k m hk hm h
  have hs : 32 - (m : Int) = (k : Int) := by omega
  go_enter Tryd.func81, Tryd.ntmps81
  go_wp2
  go_ret
  exact ⟨ret_int HR.out, rfl⟩

theorem turn_impl (x : Int) (k : Nat) (w : World) (hk : 0 < k) (h : k < 32) :
    Calls Tryd.prog 80 #[.int .u32 x, .int .i64 k] w fun e w' => e = .returned (.int .u32 (rot x k)) ∧ w' = w := by
  go_enter Tryd.func80, Tryd.ntmps80
  go_wp2_with fail
  refine (turn_bits x k (32 - k) _ hk (by omega) (by omega)).mono ?_
  rintro e w' ⟨rfl, hw⟩
  subst w'
  go_wp2
  go_ret
  exact ⟨rfl, rfl⟩

theorem turnI_impl (x K : Int) (w : World) (h0 : 0 < K) (h1 : K < 32) :
    Calls Tryd.prog 80 #[.int .u32 x, .int .i64 K] w fun e w' => e = .returned (.int .u32 (rotI x K)) ∧ w' = w := by
  obtain ⟨k, rfl⟩ := Int.eq_ofNat_of_zero_le (show 0 ≤ K from by omega)
  exact turn_impl x k w (by omega) (by omega)
theorem turnI_spec (x K : Int) (w : World) (h0 : 0 < K) (h1 : K < 32) :
    Calls Tryd.prog 77 #[.int .u32 x, .int .u64 K] w fun e w' => e = .returned (.int .u32 (rotI x K)) ∧ w' = w := by
  obtain ⟨k, rfl⟩ := Int.eq_ofNat_of_zero_le (show 0 ≤ K from by omega)
  exact turn_spec x k w (by omega) (by omega)
end Go.Proofs.YtghghkfhcpldhaaDoor.Sh
