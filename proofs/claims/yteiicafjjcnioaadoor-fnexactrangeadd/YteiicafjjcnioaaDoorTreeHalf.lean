/- Where a list is cut: spec.l03Half by doubling, impl.firstPart by the number of bits (math/bits.Len64). -/
import Derived.Test.YteiicafjjcnioaaDoorTreePlain
namespace Go.Proofs.YteiicafjjcnioaaDoor.Tr
open Go.RowKit
open Go.Proofs.YteiicafjjcnioaaDoor.St (hideT)

theorem ret_int {a b : Int} (h : a = b) : Ending.returned (.int .i64 a) = .returned (.int .i64 b) := by rw [h]

set_option maxHeartbeats 1000000 in
theorem half_spec (n : Nat) (w : World) (h2 : 2 ≤ n) (hn : n ≤ 1048576) :
    Calls Tryd.prog 102 #[.int .i64 n] w fun e w' => e = .returned (.int .i64 (half n)) ∧ w' = w := by
  go_enter Tryd.func102, Tryd.ntmps102
  go_wp2_with fail
  go_loopw [3] (fun v wr => ∃ k i : Nat, v = .int .i64 k ∧ k = 2 ^ i ∧ k < n ∧ wr = w) (fun v _ => n - (intOf v).toNat)
  case atStart => exact ⟨1, 0, rfl, rfl, by omega, rfl⟩
  case round =>
    obtain ⟨k, i, rfl, hki, hk, hw⟩ := hrel
    subst hw
    have HK := hideT hki
    have hpos : 1 ≤ k := by rw [hki]; exact Nat.one_le_two_pow
    clear hki
    by_cases hlt : 2 * k < n
    · have g1 : 2 * (k : Int) < n := by omega
      go_wp2_with fail
      go_roundw
      case rel => exact ⟨2 * k, i + 1, by go_num, by rw [Nat.pow_succ, ← HK.out]; omega, by omega, trivial⟩
      case measure => simp [intOf]; omega
    · have g1 : ¬ 2 * (k : Int) < n := by omega
      have HE : Hid (half n = k) := by
        unfold Hid
        rw [HK.out]
        exact half_of n i (by rw [← HK.out]; omega) (by rw [← HK.out]; omega)
      go_wp2_with fail
      go_ret
      exact ⟨ret_int (by rw [HE.out]), rfl⟩

/-- how many bits a number has -/
def len (x : Nat) : Nat := if x = 0 then 0 else Nat.log2 x + 1
theorem len_shift (x k : Nat) (h : 2 ^ k ≤ x) : len x = k + len (x / 2 ^ k) := by
  have h1 : x ≠ 0 := by have := Nat.one_le_two_pow (n := k); omega
  have h2 : x / 2 ^ k ≠ 0 := by
    have := Nat.div_pos h (Nat.two_pow_pos k)
    omega
  unfold len
  rw [if_neg h1, if_neg h2]
  have : Nat.log2 x = k + Nat.log2 (x / 2 ^ k) := by
    refine (Nat.log2_eq_iff h1).2 ⟨?_, ?_⟩
    · have := Nat.log2_self_le h2
      rw [Nat.pow_add]
      calc 2 ^ k * 2 ^ (x / 2 ^ k).log2 ≤ 2 ^ k * (x / 2 ^ k) := Nat.mul_le_mul_left _ this
        _ ≤ x := Nat.mul_div_le x _
    · have := Nat.lt_log2_self (n := x / 2 ^ k)
      rw [Nat.add_assoc, Nat.pow_add, Nat.mul_comm]
      exact (Nat.div_lt_iff_lt_mul (Nat.two_pow_pos k)).1 this
  omega
end Go.Proofs.YteiicafjjcnioaaDoor.Tr
