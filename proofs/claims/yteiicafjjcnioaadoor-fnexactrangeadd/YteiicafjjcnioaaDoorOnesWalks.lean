/- The walks of math/bits.OnesCount64 (for small numbers) and spec.l03Ones. -/
import Derived.Test.YteiicafjjcnioaaDoorTreeHalf
import Derived.Test.YteiicafjjcnioaaDoorOnesPlain
namespace Go.Proofs.YteiicafjjcnioaaDoor.Tr
open Go.RowKit
open Go.Proofs.YteiicafjjcnioaaDoor.St (hideT)

theorem and_u64 (x M u : Nat) (h : x < 18446744073709551616) (hM : M < 18446744073709551616) (hu : (x &&& M) = u) (y : Int) (hy : y = x) : bits BinOp.and IntKind.u64 y (M : Int) = (u : Int) := by
  rw [hy, ← hu]
  exact u64_and_nat x M h hM
theorem i64_127 (x : Nat) (h : x < 16777216) : bits BinOp.and IntKind.i64 (x : Int) 127 = ((x % 128 : Nat) : Int) := by
  have e : (BitVec.ofInt 64 (x : Int) &&& BitVec.ofInt 64 (127 : Int)).toNat = x &&& 127 := by
    rw [BitVec.toNat_and]
    congr 1
    rw [show BitVec.ofInt 64 (x : Int) = BitVec.ofNat 64 x from BitVec.ofInt_natCast 64 x, BitVec.toNat_ofNat]
    exact Nat.mod_eq_of_lt (by omega)
  show IntKind.i64.wrap ((BitVec.ofInt 64 (x : Int) &&& BitVec.ofInt 64 (127 : Int)).toNat : Int) = _
  rw [e, nat_mask7]
  simp [IntKind.wrap, IntKind.bits, IntKind.signed]
  omega

set_option maxHeartbeats 1000000 in
theorem ones_any (x : Nat) (w : World) (hx : x < 1048576) :
    Calls Tryd.prog 103 #[.int .u64 x] w fun e w' => e = .returned (.int .i64 (ones x)) ∧ w' = w := by
  obtain ⟨x1, x2, x3, x4, x5, s1, s2, s3, s4, s5, s6, l1, l2, l3, l4, l5⟩ := ones_steps x hx
  obtain ⟨u1, hu1⟩ : ∃ u, (x / 2 &&& 6148914691236517205) = u := ⟨_, rfl⟩
  obtain ⟨u2, hu2⟩ : ∃ u, (x &&& 6148914691236517205) = u := ⟨_, rfl⟩
  obtain ⟨v1, hv1⟩ : ∃ u, (x1 / 4 &&& 3689348814741910323) = u := ⟨_, rfl⟩
  obtain ⟨v2, hv2⟩ : ∃ u, (x1 &&& 3689348814741910323) = u := ⟨_, rfl⟩
  obtain ⟨y, hy⟩ : ∃ y, y = x2 / 16 + x2 := ⟨_, rfl⟩
  have e1 : bits BinOp.and IntKind.u64 ((x : Int) / 2) 6148914691236517205 = (u1 : Int) := and_u64 (x / 2) 6148914691236517205 u1 (by omega) (by decide) hu1 _ (by omega)
  have e2 : bits BinOp.and IntKind.u64 (x : Int) 6148914691236517205 = (u2 : Int) := and_u64 x 6148914691236517205 u2 (by omega) (by decide) hu2 _ rfl
  have e3 : bits BinOp.and IntKind.u64 ((x1 : Int) / 4) 3689348814741910323 = (v1 : Int) := and_u64 (x1 / 4) 3689348814741910323 v1 (by omega) (by decide) hv1 _ (by omega)
  have e4 : bits BinOp.and IntKind.u64 (x1 : Int) 3689348814741910323 = (v2 : Int) := and_u64 x1 3689348814741910323 v2 (by omega) (by decide) hv2 _ rfl
  rw [hu1, hu2] at s1
  rw [hv1, hv2] at s2
  rw [← hy] at s3
  have e5 : bits BinOp.and IntKind.u64 (y : Int) 1085102592571150095 = (x3 : Int) := and_u64 y 1085102592571150095 x3 (by omega) (by decide) s3 _ rfl
  have w1 : IntKind.u64.wrap ((u1 : Int) + u2) = (x1 : Int) := by rw [IntKind.wrap_u64]; omega
  have w2 : IntKind.u64.wrap ((v1 : Int) + v2) = (x2 : Int) := by rw [IntKind.wrap_u64]; omega
  have w3 : IntKind.u64.wrap ((x2 : Int) / 16 + x2) = (y : Int) := by rw [IntKind.wrap_u64]; omega
  have w4 : IntKind.u64.wrap ((x3 : Int) + (x3 : Int) / 256) = (x4 : Int) := by rw [IntKind.wrap_u64]; omega
  have w5 : IntKind.u64.wrap ((x4 : Int) + (x4 : Int) / 65536) = (x5 : Int) := by rw [IntKind.wrap_u64]; omega
  have w6 : IntKind.u64.wrap ((x5 : Int) + (x5 : Int) / 4294967296) = (x5 : Int) := by rw [show (x5 : Int) / 4294967296 = 0 from Int.ediv_eq_zero_of_lt (by omega) (by omega), Int.add_zero, IntKind.wrap_u64]; omega
  have e6 : bits BinOp.and IntKind.i64 (x5 : Int) 127 = ((ones x : Nat) : Int) := by rw [i64_127 x5 l5, s6]
  clear hu1 hu2 hv1 hv2 hy s1 s2 s3 s4 s5 s6
  go_enter Tryd.func103, Tryd.ntmps103
  go_wp2_with fail
  go_ret
  exact ⟨rfl, rfl⟩

set_option maxHeartbeats 1000000 in
theorem ones_spec (n : Nat) (w : World) (hn : n < 1048576) :
    Calls Tryd.prog 108 #[.int .i64 n] w fun e w' => e = .returned (.int .i64 (ones n)) ∧ w' = w := by
  have hle := ones_le n 20 hn
  go_enter Tryd.func108, Tryd.ntmps108
  go_wp2_with fail
  go_loopw [0, 3] (fun nv kv wr => ∃ y k : Nat, nv = .int .i64 y ∧ kv = .int .i64 k ∧ y ≤ n ∧ k + ones y = ones n ∧ wr = w) (fun nv _ _ => (intOf nv).toNat)
  case atStart => exact ⟨n, 0, rfl, rfl, Nat.le_refl _, by omega, rfl⟩
  case round =>
    obtain ⟨y, k, rfl, rfl, hy, hk, hw⟩ := hrel
    subst hw
    by_cases h0 : y = 0
    · have HE : Hid ((k : Int) = (ones n : Nat)) := by
        unfold Hid
        rw [h0, ones_zero] at hk
        omega
      subst h0
      clear hk
      go_wp2_with fail
      go_ret
      exact ⟨ret_int HE.out, rfl⟩
    · have g0 : 0 < (y : Int) := by omega
      have HK := hideT hk
      have hk20 : k ≤ 20 := by omega
      have HS := hideT (ones_step y)
      clear hk
      go_wp2_with fail
      go_roundw
      case rel => exact ⟨y / 2, k + y % 2, by go_num, by go_num, by omega, by rw [← HK.out, HS.out]; omega, trivial⟩
      case measure => simp [intOf]; omega
end Go.Proofs.YteiicafjjcnioaaDoor.Tr
