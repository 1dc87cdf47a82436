/- Texts put together: OnesPlain, OnesWalks, InclPlain, Digs, RangeRight. -/
import Derived.Laws.BitsAllLaws
import Derived.Test.YtghghkfhcpldhaaDoorTf7
import Derived.Test.YtghghkfhcpldhaaDoorTf9
import Derived.BigQuiet
import Derived.Deep.QuietTactic
import Derived.Deep.RegionWith
/- Plain mathematics: how many bits of a number are 1, put together byte by byte. -/
namespace Go.Proofs.YtghghkfhcpldhaaDoor.Tr

def ones (n : Nat) : Nat := if _h : n = 0 then 0 else n % 2 + ones (n / 2)
termination_by n
decreasing_by omega
theorem ones_zero : ones 0 = 0 := by rw [ones, dif_pos rfl]
theorem ones_step (n : Nat) : ones n = n % 2 + ones (n / 2) := by
  by_cases h : n = 0
  · subst h
    rw [ones_zero]
  · rw [ones, dif_neg h]
theorem ones_split : ∀ (k r q : Nat), r < 2 ^ k → ones (r + 2 ^ k * q) = ones r + ones q
  | 0, r, q, h => by
    have : r = 0 := by simpa using h
    subst this
    rw [ones_zero]
    simp
  | k + 1, r, q, h => by
    rw [Nat.pow_succ] at h
    have e : 2 ^ (k + 1) * q = 2 * (2 ^ k * q) := by rw [Nat.pow_succ, Nat.mul_comm (2 ^ k) 2, Nat.mul_assoc]
    rw [ones_step (r + 2 ^ (k + 1) * q), ones_step r, e, show (r + 2 * (2 ^ k * q)) / 2 = r / 2 + 2 ^ k * q by omega, show (r + 2 * (2 ^ k * q)) % 2 = r % 2 by omega, ones_split k (r / 2) q (by omega)]
    omega
theorem ones_le (n : Nat) : ∀ k, n < 2 ^ k → ones n ≤ k
  | 0, h => by
    have : n = 0 := by simpa using h
    subst this
    rw [ones_zero]
    omega
  | k + 1, h => by
    rw [ones_step]
    have := ones_le (n / 2) k (by rw [Nat.pow_succ] at h; omega)
    omega

theorem and_step (x y : Nat) : x &&& y = (x % 256 &&& y % 256) + 256 * (x / 256 &&& y / 256) := by
  have h1 := Nat.and_mod_two_pow (a := x) (b := y) (n := 8)
  have h2 := Nat.and_div_two_pow (a := x) (b := y) (n := 8)
  rw [show (2 : Nat) ^ 8 = 256 from rfl] at h1 h2
  omega
theorem and3 (x M m : Nat) (hx : x < 16777216) (h0 : M % 256 = m) (h1 : M / 256 % 256 = m) (h2 : M / 256 / 256 % 256 = m) :
    x &&& M = (x % 256 &&& m) + 256 * (x / 256 % 256 &&& m) + 65536 * (x / 65536 &&& m) := by
  rw [and_step x M, and_step (x / 256) (M / 256), and_step (x / 256 / 256) (M / 256 / 256), h0, h1, h2]
  have e : x / 256 / 256 / 256 = 0 := by omega
  rw [e, Nat.zero_and, show x / 256 / 256 % 256 = x / 65536 by omega]
  omega
def f1 (a : Nat) : Nat := (a / 2 &&& 85) + (a &&& 85)
def f2 (a : Nat) : Nat := (a / 4 &&& 51) + (a &&& 51)
theorem t1 : ∀ (a : Fin 256) (e : Fin 2), ((a.val / 2 + 128 * e.val) &&& 85) = (a.val / 2 &&& 85) ∧ f1 a.val < 256 ∧ (a.val / 2 &&& 85) < 256 ∧ (a.val &&& 85) < 256 := by decide +kernel
theorem t2 : ∀ (a : Fin 256) (e : Fin 4), ((a.val / 4 + 64 * e.val) &&& 51) = (a.val / 4 &&& 51) ∧ (a.val / 4 &&& 51) < 256 ∧ (a.val &&& 51) < 256 := by decide +kernel
theorem t3 : ∀ a : Fin 256, f2 (f1 a.val) / 16 ≤ 4 ∧ f2 (f1 a.val) % 16 ≤ 4 ∧ f2 (f1 a.val) / 16 + f2 (f1 a.val) % 16 ≤ 8 := by decide +kernel
def ones8 (a : Nat) : Nat := a % 2 + (a / 2 % 2 + (a / 4 % 2 + (a / 8 % 2 + (a / 16 % 2 + (a / 32 % 2 + (a / 64 % 2 + a / 128 % 2))))))
theorem t4 : ∀ a : Fin 256, f2 (f1 a.val) / 16 + f2 (f1 a.val) % 16 = ones8 a.val := by decide +kernel
theorem ones_8 (a : Nat) (h : a < 256) : ones a = ones8 a := by
  unfold ones8
  rw [ones_step a, ones_step (a / 2), ones_step (a / 2 / 2), ones_step (a / 2 / 2 / 2), ones_step (a / 2 / 2 / 2 / 2), ones_step (a / 2 / 2 / 2 / 2 / 2), ones_step (a / 2 / 2 / 2 / 2 / 2 / 2), ones_step (a / 2 / 2 / 2 / 2 / 2 / 2 / 2)]
  rw [show a / 2 / 2 / 2 / 2 / 2 / 2 / 2 / 2 = 0 by omega, ones_zero]
  omega

/-- two shifts and masks, byte by byte -/
theorem stage1 (a b c : Nat) (la : a < 256) (lb : b < 256) (lc : c < 256) :
    ((a + 256 * b + 65536 * c) / 2 &&& 6148914691236517205) + ((a + 256 * b + 65536 * c) &&& 6148914691236517205) = f1 a + 256 * f1 b + 65536 * f1 c := by
  have a1 := (t1 ⟨a, la⟩ ⟨b % 2, by omega⟩).1
  have b1 := (t1 ⟨b, lb⟩ ⟨c % 2, by omega⟩).1
  simp only [] at a1 b1
  rw [and3 ((a + 256 * b + 65536 * c) / 2) 6148914691236517205 85 (by omega) rfl rfl rfl, and3 (a + 256 * b + 65536 * c) 6148914691236517205 85 (by omega) rfl rfl rfl]
  rw [show (a + 256 * b + 65536 * c) / 2 % 256 = a / 2 + 128 * (b % 2) by omega, show (a + 256 * b + 65536 * c) / 2 / 256 % 256 = b / 2 + 128 * (c % 2) by omega, show (a + 256 * b + 65536 * c) / 2 / 65536 = c / 2 by omega, a1, b1]
  rw [show (a + 256 * b + 65536 * c) % 256 = a by omega, show (a + 256 * b + 65536 * c) / 256 % 256 = b by omega, show (a + 256 * b + 65536 * c) / 65536 = c by omega]
  unfold f1
  clear a1 b1 la lb lc
  generalize a / 2 &&& 85 = x1
  generalize b / 2 &&& 85 = x2
  generalize c / 2 &&& 85 = x3
  generalize a &&& 85 = x4
  generalize b &&& 85 = x5
  generalize c &&& 85 = x6
  omega
theorem stage2 (a b c : Nat) (la : a < 256) (lb : b < 256) (lc : c < 256) :
    ((a + 256 * b + 65536 * c) / 4 &&& 3689348814741910323) + ((a + 256 * b + 65536 * c) &&& 3689348814741910323) = f2 a + 256 * f2 b + 65536 * f2 c := by
  have a1 := (t2 ⟨a, la⟩ ⟨b % 4, by omega⟩).1
  have b1 := (t2 ⟨b, lb⟩ ⟨c % 4, by omega⟩).1
  simp only [] at a1 b1
  rw [and3 ((a + 256 * b + 65536 * c) / 4) 3689348814741910323 51 (by omega) rfl rfl rfl, and3 (a + 256 * b + 65536 * c) 3689348814741910323 51 (by omega) rfl rfl rfl]
  rw [show (a + 256 * b + 65536 * c) / 4 % 256 = a / 4 + 64 * (b % 4) by omega, show (a + 256 * b + 65536 * c) / 4 / 256 % 256 = b / 4 + 64 * (c % 4) by omega, show (a + 256 * b + 65536 * c) / 4 / 65536 = c / 4 by omega, a1, b1]
  rw [show (a + 256 * b + 65536 * c) % 256 = a by omega, show (a + 256 * b + 65536 * c) / 256 % 256 = b by omega, show (a + 256 * b + 65536 * c) / 65536 = c by omega]
  unfold f2
  clear a1 b1 la lb lc
  generalize a / 4 &&& 51 = x1
  generalize b / 4 &&& 51 = x2
  generalize c / 4 &&& 51 = x3
  generalize a &&& 51 = x4
  generalize b &&& 51 = x5
  generalize c &&& 51 = x6
  omega
theorem dig (P Q R : Nat) (h1 : P < 256) (h2 : Q < 256) : (P + 256 * Q + 65536 * R) % 256 = P ∧ (P + 256 * Q + 65536 * R) / 256 % 256 = Q ∧ (P + 256 * Q + 65536 * R) / 65536 = R := ⟨by omega, by omega, by omega⟩
theorem mod_16 (u v z : Nat) (h : u + v < 16) : (u + 16 * u + v + 16 * z) % 16 = u + v := by
  rw [show u + 16 * u + v + 16 * z = (u + v) + 16 * (u + z) by omega, Nat.add_mul_mod_self_left, Nat.mod_eq_of_lt h]
theorem stage3 (A1 A0 B1 B0 C1 C0 : Nat) (h1 : A1 ≤ 4) (h2 : A0 ≤ 4) (h3 : B1 ≤ 4) (h4 : B0 ≤ 4) (h5 : C1 ≤ 4) (h6 : C0 ≤ 4) :
    (((16 * A1 + A0) + 256 * (16 * B1 + B0) + 65536 * (16 * C1 + C0)) / 16 + ((16 * A1 + A0) + 256 * (16 * B1 + B0) + 65536 * (16 * C1 + C0)) &&& 1085102592571150095) = (A1 + A0) + 256 * (B1 + B0) + 65536 * (C1 + C0) := by
  rw [show ((16 * A1 + A0) + 256 * (16 * B1 + B0) + 65536 * (16 * C1 + C0)) / 16 + ((16 * A1 + A0) + 256 * (16 * B1 + B0) + 65536 * (16 * C1 + C0)) = (A1 + 16 * A1 + A0 + 16 * B0) + 256 * (B1 + 16 * B1 + B0 + 16 * C0) + 65536 * (C1 + 16 * C1 + C0) by omega]
  rw [and3 _ 1085102592571150095 15 (by omega) rfl rfl rfl, nat_mask4, nat_mask4, nat_mask4]
  obtain ⟨d1, d2, d3⟩ := dig (A1 + 16 * A1 + A0 + 16 * B0) (B1 + 16 * B1 + B0 + 16 * C0) (C1 + 16 * C1 + C0) (by omega) (by omega)
  rw [d1, d2, d3, mod_16 A1 A0 B0 (by omega), mod_16 B1 B0 C0 (by omega), show C1 + 16 * C1 + C0 = C1 + 16 * C1 + C0 + 16 * 0 by omega, mod_16 C1 C0 0 (by omega)]
theorem stage4 (P Q R : Nat) (h1 : P ≤ 8) (h2 : Q ≤ 8) (h3 : R ≤ 8) :
    P + 256 * Q + 65536 * R + (P + 256 * Q + 65536 * R) / 256 = (P + Q) + 256 * (Q + R) + 65536 * R ∧ (P + Q) + 256 * (Q + R) + 65536 * R + ((P + Q) + 256 * (Q + R) + 65536 * R) / 65536 = (P + Q + R) + 256 * (Q + R) + 65536 * R ∧ ((P + Q + R) + 256 * (Q + R) + 65536 * R) % 128 = P + Q + R := by
  refine ⟨by omega, by omega, by omega⟩

/-- the steps of math/bits.OnesCount64 -/
theorem ones_steps (x : Nat) (hx : x < 1048576) : ∃ x1 x2 x3 x4 x5 : Nat,
    (x / 2 &&& 6148914691236517205) + (x &&& 6148914691236517205) = x1 ∧ (x1 / 4 &&& 3689348814741910323) + (x1 &&& 3689348814741910323) = x2 ∧ (x2 / 16 + x2 &&& 1085102592571150095) = x3 ∧ x3 + x3 / 256 = x4 ∧ x4 + x4 / 65536 = x5 ∧
    x5 % 128 = ones x ∧ x1 < 16777216 ∧ x2 < 8388608 ∧ x3 < 16777216 ∧ x4 < 16777216 ∧ x5 < 16777216 := by
  obtain ⟨a, ha⟩ : ∃ a, a = x % 256 := ⟨_, rfl⟩
  obtain ⟨b, hb⟩ : ∃ b, b = x / 256 % 256 := ⟨_, rfl⟩
  obtain ⟨c, hc⟩ : ∃ c, c = x / 65536 := ⟨_, rfl⟩
  have la : a < 256 := by omega
  have lb : b < 256 := by omega
  have lc : c < 256 := by omega
  have hxx : x = a + 256 * b + 65536 * c := by omega
  clear ha hb hc
  have hon : ones x = ones8 a + ones8 b + ones8 c := by
    have h1 := ones_split 8 a (b + 256 * c) la
    have h2 := ones_split 8 b c lb
    rw [show (2 : Nat) ^ 8 = 256 from rfl] at h1 h2
    rw [hxx, show a + 256 * b + 65536 * c = a + 256 * (b + 256 * c) by omega, h1, h2, ones_8 a la, ones_8 b lb, ones_8 c lc]
    omega
  have f1a := (t1 ⟨a, la⟩ ⟨0, by omega⟩).2.1
  have f1b := (t1 ⟨b, lb⟩ ⟨0, by omega⟩).2.1
  have f1c := (t1 ⟨c, lc⟩ ⟨0, by omega⟩).2.1
  obtain ⟨p1, p2, p3⟩ := t3 ⟨a, la⟩
  obtain ⟨q1, q2, q3⟩ := t3 ⟨b, lb⟩
  obtain ⟨r1, r2, r3⟩ := t3 ⟨c, lc⟩
  have pa := t4 ⟨a, la⟩
  have pb := t4 ⟨b, lb⟩
  have pc := t4 ⟨c, lc⟩
  simp only [] at f1a f1b f1c p1 p2 p3 q1 q2 q3 r1 r2 r3 pa pb pc
  have s1 := stage1 a b c la lb lc
  have s2 := stage2 (f1 a) (f1 b) (f1 c) f1a f1b f1c
  have s3 := stage3 (f2 (f1 a) / 16) (f2 (f1 a) % 16) (f2 (f1 b) / 16) (f2 (f1 b) % 16) (f2 (f1 c) / 16) (f2 (f1 c) % 16) p1 p2 q1 q2 r1 r2
  rw [Nat.div_add_mod, Nat.div_add_mod, Nat.div_add_mod, pa, pb, pc] at s3
  rw [pa] at p3
  rw [pb] at q3
  rw [pc] at r3
  obtain ⟨k1, k2, k3⟩ := stage4 (ones8 a) (ones8 b) (ones8 c) p3 q3 r3
  rw [← hxx] at s1
  have l2a : f2 (f1 a) ≤ 68 := by omega
  have l2b : f2 (f1 b) ≤ 68 := by omega
  have l2c : f2 (f1 c) ≤ 68 := by omega
  refine ⟨_, _, _, _, _, s1, s2, s3, k1, k2, by rw [k3, hon], ?_, ?_, ?_, ?_, ?_⟩
  · clear hon s1 s2 s3 k1 k2 k3 hxx hx
    omega
  · clear hon s1 s2 s3 k1 k2 k3 hxx hx
    omega
  · clear hon s1 s2 s3 k1 k2 k3 hxx hx
    omega
  · clear hon s1 s2 s3 k1 k2 k3 hxx hx
    omega
  · clear hon s1 s2 s3 k1 k2 k3 hxx hx
    omega
end Go.Proofs.YtghghkfhcpldhaaDoor.Tr

/- The walks of math/bits.OnesCount64 (for small numbers) and spec.l03Ones. -/
namespace Go.Proofs.YtghghkfhcpldhaaDoor.Tr
open Go.RowKit
open Go.Proofs.YtghghkfhcpldhaaDoor.St (hideT)

theorem and_u64 (x M u : Nat) (h : x < 18446744073709551616) (hM : M < 18446744073709551616) (hu : (x &&& M) = u) (y : Int) (hy : y = x) : bits BinOp.and IntKind.u64 y (M : Int) = (u : Int) := by
  rw [hy, ← hu]
  exact u64_and_nat x M h hM
theorem i64_127 (x : Nat) (h : x < 16777216) : bits BinOp.and IntKind.i64 (x : Int) 127 = ((x % 128 : Nat) : Int) := by
  have e : (BitVec.ofInt 64 (x : Int) &&& BitVec.ofInt 64 (127 : Int)).toNat = x &&& 127 := by
    rw [BitVec.toNat_and]
    congr 1
    rw [show BitVec.ofInt 64 (x : Int) = BitVec.ofNat 64 x from BitVec.ofInt_natCast 64 x, BitVec.toNat_ofNat]
    exact Nat.mod_eq_of_lt (by omega)
  show IntKind.i64.wrap ((BitVec.ofInt 64 (x : Int) &&& BitVec.ofInt 64 (127 : Int)).toNat : Int) = _
  rw [e, nat_mask7]
  simp [IntKind.wrap, IntKind.bits, IntKind.signed]
  omega

set_option maxHeartbeats 1000000 in
theorem ones_any (x : Nat) (w : World) (hx : x < 1048576) :
    Calls Tryd.prog 66 #[.int .u64 x] w fun e w' => e = .returned (.int .i64 (ones x)) ∧ w' = w := by
  obtain ⟨x1, x2, x3, x4, x5, s1, s2, s3, s4, s5, s6, l1, l2, l3, l4, l5⟩ := ones_steps x hx
  obtain ⟨u1, hu1⟩ : ∃ u, (x / 2 &&& 6148914691236517205) = u := ⟨_, rfl⟩
  obtain ⟨u2, hu2⟩ : ∃ u, (x &&& 6148914691236517205) = u := ⟨_, rfl⟩
  obtain ⟨v1, hv1⟩ : ∃ u, (x1 / 4 &&& 3689348814741910323) = u := ⟨_, rfl⟩
  obtain ⟨v2, hv2⟩ : ∃ u, (x1 &&& 3689348814741910323) = u := ⟨_, rfl⟩
  obtain ⟨y, hy⟩ : ∃ y, y = x2 / 16 + x2 := ⟨_, rfl⟩
  have e1 : bits BinOp.and IntKind.u64 ((x : Int) / 2) 6148914691236517205 = (u1 : Int) := and_u64 (x / 2) 6148914691236517205 u1 (by omega) (by decide) hu1 _ (by omega)
  have e2 : bits BinOp.and IntKind.u64 (x : Int) 6148914691236517205 = (u2 : Int) := and_u64 x 6148914691236517205 u2 (by omega) (by decide) hu2 _ rfl
  have e3 : bits BinOp.and IntKind.u64 ((x1 : Int) / 4) 3689348814741910323 = (v1 : Int) := and_u64 (x1 / 4) 3689348814741910323 v1 (by omega) (by decide) hv1 _ (by omega)
  have e4 : bits BinOp.and IntKind.u64 (x1 : Int) 3689348814741910323 = (v2 : Int) := and_u64 x1 3689348814741910323 v2 (by omega) (by decide) hv2 _ rfl
  rw [hu1, hu2] at s1
  rw [hv1, hv2] at s2
  rw [← hy] at s3
  have e5 : bits BinOp.and IntKind.u64 (y : Int) 1085102592571150095 = (x3 : Int) := and_u64 y 1085102592571150095 x3 (by omega) (by decide) s3 _ rfl
  have w1 : IntKind.u64.wrap ((u1 : Int) + u2) = (x1 : Int) := by rw [IntKind.wrap_u64]; omega
  have w2 : IntKind.u64.wrap ((v1 : Int) + v2) = (x2 : Int) := by rw [IntKind.wrap_u64]; omega
  have w3 : IntKind.u64.wrap ((x2 : Int) / 16 + x2) = (y : Int) := by rw [IntKind.wrap_u64]; omega
  have w4 : IntKind.u64.wrap ((x3 : Int) + (x3 : Int) / 256) = (x4 : Int) := by rw [IntKind.wrap_u64]; omega
  have w5 : IntKind.u64.wrap ((x4 : Int) + (x4 : Int) / 65536) = (x5 : Int) := by rw [IntKind.wrap_u64]; omega
  have w6 : IntKind.u64.wrap ((x5 : Int) + (x5 : Int) / 4294967296) = (x5 : Int) := by rw [show (x5 : Int) / 4294967296 = 0 from Int.ediv_eq_zero_of_lt (by omega) (by omega), Int.add_zero, IntKind.wrap_u64]; omega
  have e6 : bits BinOp.and IntKind.i64 (x5 : Int) 127 = ((ones x : Nat) : Int) := by rw [i64_127 x5 l5, s6]
  clear hu1 hu2 hv1 hv2 hy s1 s2 s3 s4 s5 s6
  go_enter Tryd.func66, Tryd.ntmps66
  go_wp2_with fail
  go_ret
  exact ⟨rfl, rfl⟩

set_option maxHeartbeats 1000000 in
theorem ones_spec (n : Nat) (w : World) (hn : n < 1048576) :
    Calls Tryd.prog 68 #[.int .i64 n] w fun e w' => e = .returned (.int .i64 (ones n)) ∧ w' = w := by
  have hle := ones_le n 20 hn
  go_enter Tryd.func68, Tryd.ntmps68
  go_wp2_with fail
  go_loopw [0, 3] (fun nv kv wr => ∃ y k : Nat, nv = .int .i64 y ∧ kv = .int .i64 k ∧ y ≤ n ∧ k + ones y = ones n ∧ wr = w) (fun nv _ _ => (intOf nv).toNat)
  case atStart => exact ⟨n, 0, rfl, rfl, Nat.le_refl _, by omega, rfl⟩
  case round =>
    obtain ⟨y, k, rfl, rfl, hy, hk, hw⟩ := hrel
    subst hw
    by_cases h0 : y = 0
    · have HE : Hid ((k : Int) = (ones n : Nat)) := by
        unfold Hid
        rw [h0, ones_zero] at hk
        omega
      subst h0
      clear hk
      go_wp2_with fail
      go_ret
      exact ⟨ret_int HE.out, rfl⟩
    · have g0 : 0 < (y : Int) := by omega
      have HK := hideT hk
      have hk20 : k ≤ 20 := by omega
      have HS := hideT (ones_step y)
      clear hk
      go_wp2_with fail
      go_roundw
      case rel => exact ⟨y / 2, k + y % 2, by go_num, by go_num, by omega, by rw [← HK.out, HS.out]; omega, trivial⟩
      case measure => simp [intOf]; omega
end Go.Proofs.YtghghkfhcpldhaaDoor.Tr

/- Plain mathematics of inclusion: climbing from a leaf down from the root's step, and up from the leaf's own, come to the same. -/
namespace Go.Proofs.YtghghkfhcpldhaaDoor.Tr
open Go.Proofs.YtghghkfhcpldhaaDoor.Sh (nodeV)

/-- down from the root: its step stands last -/
def climbR : Nat → Nat → Nat → List ByteArray → ByteArray → Option ByteArray
  | 0, _, _, _, _ => none
  | f + 1, n, i, p, h =>
    if n ≤ 1 then (if p = [] then some h else none)
    else match p.getLast? with
      | none => none
      | some s => if i < half n then (climbR f (half n) i p.dropLast h).map (fun x => nodeV x s) else (climbR f (n - half n) (i - half n) p.dropLast h).map (fun x => nodeV s x)
/-- the odd part of a number -/
def od (a : Nat) : Nat := if _h : a % 2 = 0 ∧ 0 < a then od (a / 2) else a
termination_by a
decreasing_by omega
theorem od_even (a : Nat) (h : a % 2 = 0) (h0 : 0 < a) : od a = od (a / 2) := by rw [od, dif_pos ⟨h, h0⟩]
theorem od_odd (a : Nat) (h : ¬ (a % 2 = 0 ∧ 0 < a)) : od a = a := by rw [od, dif_neg h]
/-- up from the leaf -/
def climbS : Nat → Nat → List ByteArray → ByteArray → Option ByteArray
  | _, last, [], h => if last = 0 then some h else none
  | a, last, p :: ps, h =>
    if last = 0 then none
    else if a % 2 = 1 then climbS (a / 2) (last / 2) ps (nodeV p h)
    else if a = last then climbS (od a / 2) (od a / 2) ps (nodeV p h)
    else climbS (a / 2) (last / 2) ps (nodeV h p)
theorem climbS_zero (a : Nat) (p : List ByteArray) (h : ByteArray) (hp : p ≠ []) : climbS a 0 p h = none := by
  cases p with
  | nil => exact absurd rfl hp
  | cons x xs => rw [climbS, if_pos rfl]
theorem climbS_odd (a last : Nat) (x : ByteArray) (xs : List ByteArray) (h : ByteArray) (h0 : last ≠ 0) (h1 : a % 2 = 1) : climbS a last (x :: xs) h = climbS (a / 2) (last / 2) xs (nodeV x h) := by
  rw [climbS, if_neg h0, if_pos h1]
theorem climbS_end (a : Nat) (x : ByteArray) (xs : List ByteArray) (h : ByteArray) (h0 : a ≠ 0) (h1 : a % 2 = 0) : climbS a a (x :: xs) h = climbS (od a / 2) (od a / 2) xs (nodeV x h) := by
  rw [climbS, if_neg h0, if_neg (by omega), if_pos rfl]
theorem climbS_even (a last : Nat) (x : ByteArray) (xs : List ByteArray) (h : ByteArray) (h0 : last ≠ 0) (h1 : a % 2 = 0) (h2 : a ≠ last) : climbS a last (x :: xs) h = climbS (a / 2) (last / 2) xs (nodeV h x) := by
  rw [climbS, if_neg h0, if_neg (by omega), if_neg h2]
theorem climbS_nil (a last : Nat) (h : ByteArray) : climbS a last [] h = if last = 0 then some h else none := by rw [climbS]

theorem pow_half (t : Nat) (h : 0 < t) : 2 ^ t / 2 = 2 ^ (t - 1) ∧ 2 ^ t = 2 * 2 ^ (t - 1) := by
  obtain ⟨s, rfl⟩ : ∃ s, t = s + 1 := ⟨t - 1, by omega⟩
  rw [Nat.pow_succ]
  simp
  omega
theorem pow_pos2 (t : Nat) : 1 ≤ 2 ^ t := Nat.one_le_two_pow

/-- the left part of a tree is whole: nothing is passed over in it -/
theorem climb_left : ∀ (p : List ByteArray) (t a last : Nat) (s h : ByteArray), a < 2 ^ t → 2 ^ t ≤ last → last < 2 ^ (t + 1) →
    climbS a last (p ++ [s]) h = (climbS a (2 ^ t - 1) p h).map (fun x => nodeV x s)
  | [], t, a, last, s, h, h1, h2, h3 => by
    have hp := pow_pos2 t
    rw [List.nil_append, climbS_nil]
    rcases Nat.eq_zero_or_pos t with h0 | h0
    · subst h0
      rw [climbS_even a last s [] h (by omega) (by omega) (by omega), climbS_nil, if_pos (by omega), if_pos (by omega)]
      rfl
    · obtain ⟨e1, e2⟩ := pow_half t h0
      have hq := pow_pos2 (t - 1)
      rw [if_neg (by omega)]
      by_cases ha : a % 2 = 1
      · rw [climbS_odd a last s [] h (by omega) ha, climbS_nil, if_neg (by omega)]
        rfl
      · rw [climbS_even a last s [] h (by omega) (by omega) (by omega), climbS_nil, if_neg (by omega)]
        rfl
  | x :: xs, t, a, last, s, h, h1, h2, h3 => by
    have hp := pow_pos2 t
    rw [List.cons_append]
    rcases Nat.eq_zero_or_pos t with h0 | h0
    · subst h0
      rw [climbS_even a last x (xs ++ [s]) h (by omega) (by omega) (by omega)]
      rw [show last / 2 = 0 by omega, climbS_zero _ _ _ (by simp)]
      rw [show 2 ^ 0 - 1 = 0 by omega, climbS_zero _ _ _ (by simp)]
      rfl
    · obtain ⟨e1, e2⟩ := pow_half t h0
      have hq := pow_pos2 (t - 1)
      have e3 : (2 ^ t - 1) / 2 = 2 ^ (t - 1) - 1 := by omega
      have e4 : 2 ^ (t + 1) = 2 * 2 ^ t := by rw [Nat.pow_succ]; omega
      have e5 : 2 ^ (t - 1 + 1) = 2 ^ t := by rw [show t - 1 + 1 = t by omega]
      by_cases ha : a % 2 = 1
      · rw [climbS_odd a last x _ h (by omega) ha, climbS_odd a (2 ^ t - 1) x _ h (by omega) ha, e3]
        exact climb_left xs (t - 1) (a / 2) (last / 2) s (nodeV x h) (by omega) (by omega) (by omega)
      · rw [climbS_even a last x _ h (by omega) (by omega) (by omega), climbS_even a (2 ^ t - 1) x _ h (by omega) (by omega) (by omega), e3]
        exact climb_left xs (t - 1) (a / 2) (last / 2) s (nodeV h x) (by omega) (by omega) (by omega)

theorem od_pow : ∀ t : Nat, od (2 ^ t) = 1
  | 0 => by rw [od_odd _ (by decide)]
  | t + 1 => by
    have hp := pow_pos2 t
    rw [Nat.pow_succ, od_even _ (by omega) (by omega), show 2 ^ t * 2 / 2 = 2 ^ t by omega]
    exact od_pow t
/-- the odd part of a number with a greatest bit t, that has others -/
theorem od_top : ∀ (t r : Nat), 0 < r → r < 2 ^ t → ∃ u, 1 ≤ u ∧ u ≤ t ∧ od (2 ^ t + r) = 2 ^ u + od r ∧ od r < 2 ^ u ∧ 0 < od r
  | 0, r, h0, h1 => by simp at h1; omega
  | t + 1, r, h0, h1 => by
    have hp := pow_pos2 t
    have e : 2 ^ (t + 1) = 2 * 2 ^ t := by rw [Nat.pow_succ]; omega
    by_cases hr : r % 2 = 0
    · obtain ⟨u, u1, u2, u3, u4, u5⟩ := od_top t (r / 2) (by omega) (by omega)
      refine ⟨u, u1, by omega, ?_, ?_, ?_⟩
      · rw [od_even (2 ^ (t + 1) + r) (by omega) (by omega), od_even r hr h0, show (2 ^ (t + 1) + r) / 2 = 2 ^ t + r / 2 by omega]
        exact u3
      · rw [od_even r hr h0]; exact u4
      · rw [od_even r hr h0]; exact u5
    · refine ⟨t + 1, by omega, Nat.le_refl _, ?_, ?_, ?_⟩
      · rw [od_odd (2 ^ (t + 1) + r) (by omega), od_odd r (by omega)]
      · rw [od_odd r (by omega)]; exact h1
      · rw [od_odd r (by omega)]; exact h0

theorem climb_right : ∀ (p : List ByteArray) (t a last : Nat) (s h : ByteArray), 2 ^ t ≤ a → a ≤ last → last < 2 ^ (t + 1) →
    climbS a last (p ++ [s]) h = (climbS (a - 2 ^ t) (last - 2 ^ t) p h).map (fun x => nodeV s x)
  | [], t, a, last, s, h, h1, h2, h3 => by
    have hp := pow_pos2 t
    have e4 : 2 ^ (t + 1) = 2 * 2 ^ t := by rw [Nat.pow_succ]; omega
    rw [List.nil_append, climbS_nil (a - 2 ^ t)]
    by_cases hl : last = 2 ^ t
    · obtain rfl : a = last := by omega
      rw [if_pos (by omega)]
      by_cases ha : a % 2 = 1
      · rw [climbS_odd a a s [] h (by omega) ha, climbS_nil, if_pos (by
          rcases Nat.eq_zero_or_pos t with h0 | h0
          · subst h0; omega
          · obtain ⟨e1, e2⟩ := pow_half t h0; omega)]
        rfl
      · rw [climbS_end a s [] h (by omega) (by omega), climbS_nil, hl, od_pow, if_pos (by decide)]
        rfl
    · rw [if_neg (by omega)]
      have h0 : 0 < t := by
        rcases Nat.eq_zero_or_pos t with h0 | h0
        · subst h0; omega
        · exact h0
      obtain ⟨e1, e2⟩ := pow_half t h0
      have hq := pow_pos2 (t - 1)
      by_cases ha : a % 2 = 1
      · rw [climbS_odd a last s [] h (by omega) ha, climbS_nil, if_neg (by omega)]
        rfl
      · by_cases hal : a = last
        · subst hal
          obtain ⟨u, u1, u2, u3, u4, u5⟩ := od_top t (a - 2 ^ t) (by omega) (by omega)
          rw [show 2 ^ t + (a - 2 ^ t) = a by omega] at u3
          obtain ⟨f1, f2⟩ := pow_half u u1
          have hq' := pow_pos2 (u - 1)
          rw [climbS_end a s [] h (by omega) (by omega), climbS_nil, if_neg (by omega)]
          rfl
        · rw [climbS_even a last s [] h (by omega) (by omega) hal, climbS_nil, if_neg (by omega)]
          rfl
  | x :: xs, t, a, last, s, h, h1, h2, h3 => by
    have hp := pow_pos2 t
    have e4 : 2 ^ (t + 1) = 2 * 2 ^ t := by rw [Nat.pow_succ]; omega
    rw [List.cons_append]
    by_cases hl : last = 2 ^ t
    · obtain rfl : a = last := by omega
      rw [show a - 2 ^ t = 0 by omega, climbS_zero _ _ _ (by simp)]
      by_cases ha : a % 2 = 1
      · rw [climbS_odd a a x _ h (by omega) ha, show a / 2 = 0 by
          rcases Nat.eq_zero_or_pos t with h0 | h0
          · subst h0; omega
          · obtain ⟨e1, e2⟩ := pow_half t h0; omega, climbS_zero _ _ _ (by simp)]
        rfl
      · rw [climbS_end a x _ h (by omega) (by omega), hl, od_pow, show 1 / 2 = 0 from rfl, climbS_zero _ _ _ (by simp)]
        rfl
    · have h0 : 0 < t := by
        rcases Nat.eq_zero_or_pos t with h0 | h0
        · subst h0; omega
        · exact h0
      obtain ⟨e1, e2⟩ := pow_half t h0
      have hq := pow_pos2 (t - 1)
      have e5 : 2 ^ (t - 1 + 1) = 2 ^ t := by rw [show t - 1 + 1 = t by omega]
      have e6 : (a - 2 ^ t) / 2 = a / 2 - 2 ^ (t - 1) := by omega
      have e7 : (last - 2 ^ t) / 2 = last / 2 - 2 ^ (t - 1) := by omega
      by_cases ha : a % 2 = 1
      · rw [climbS_odd a last x _ h (by omega) ha, climbS_odd (a - 2 ^ t) (last - 2 ^ t) x _ h (by omega) (by omega), e6, e7]
        exact climb_right xs (t - 1) (a / 2) (last / 2) s (nodeV x h) (by omega) (by omega) (by omega)
      · by_cases hal : a = last
        · subst hal
          obtain ⟨u, u1, u2, u3, u4, u5⟩ := od_top t (a - 2 ^ t) (by omega) (by omega)
          rw [show 2 ^ t + (a - 2 ^ t) = a by omega] at u3
          obtain ⟨f1, f2⟩ := pow_half u u1
          have f5 : 2 ^ (u - 1 + 1) = 2 ^ u := by rw [show u - 1 + 1 = u by omega]
          rw [climbS_end a x _ h (by omega) (by omega), climbS_end (a - 2 ^ t) x _ h (by omega) (by omega)]
          rw [show od (a - 2 ^ t) / 2 = od a / 2 - 2 ^ (u - 1) by omega]
          exact climb_right xs (u - 1) (od a / 2) (od a / 2) s (nodeV x h) (by omega) (by omega) (by omega)
        · rw [climbS_even a last x _ h (by omega) (by omega) hal, climbS_even (a - 2 ^ t) (last - 2 ^ t) x _ h (by omega) (by omega) (by omega), e6, e7]
          exact climb_right xs (t - 1) (a / 2) (last / 2) s (nodeV h x) (by omega) (by omega) (by omega)

theorem climb_same : ∀ (f n i : Nat) (p : List ByteArray) (h : ByteArray), n ≤ f → i < n → climbR f n i p h = climbS i (n - 1) p h
  | 0, n, i, p, h, h1, h2 => by omega
  | f + 1, n, i, p, h, h1, h2 => by
    rw [climbR]
    by_cases hn : n ≤ 1
    · rw [if_pos hn, show n - 1 = 0 by omega]
      cases p with
      | nil => rw [if_pos rfl, climbS_nil, if_pos rfl]
      | cons x xs => rw [if_neg (by simp), climbS_zero _ _ _ (by simp)]
    · rw [if_neg hn]
      cases hp : p.getLast? with
      | none =>
        have : p = [] := List.getLast?_eq_none_iff.1 hp
        subst this
        rw [climbS_nil, if_neg (by omega)]
      | some s =>
        have hps : p.dropLast ++ [s] = p := by
          obtain ⟨q, rfl⟩ := List.getLast?_eq_some_iff.1 hp
          simp
        have k1 := half_pos n
        have k2 := half_lt n (by omega)
        have k3 := half_two n (by omega)
        have hk : half n = 2 ^ Nat.log2 (n - 1) := rfl
        have e4 : 2 ^ (Nat.log2 (n - 1) + 1) = 2 * half n := by rw [Nat.pow_succ, hk]; omega
        simp only []
        by_cases hi : i < half n
        · rw [if_pos hi, climb_same f (half n) i p.dropLast h (by omega) hi]
          have := climb_left p.dropLast (Nat.log2 (n - 1)) i (n - 1) s h (by rw [← hk]; exact hi) (by rw [← hk]; omega) (by rw [e4]; omega)
          rw [hps, ← hk] at this
          exact this.symm
        · rw [if_neg hi, climb_same f (n - half n) (i - half n) p.dropLast h (by omega) (by omega)]
          have := climb_right p.dropLast (Nat.log2 (n - 1)) i (n - 1) s h (by rw [← hk]; omega) (by omega) (by rw [e4]; omega)
          rw [hps, ← hk, show n - 1 - half n = n - half n - 1 by omega] at this
          exact this.symm
end Go.Proofs.YtghghkfhcpldhaaDoor.Tr

/- Lists of digests: whether each has 32 bytes, and the last one taken off. -/
namespace Go.Proofs.YtghghkfhcpldhaaDoor.Tr
open Go.RowKit
open Go.Proofs.YtghghkfhcpldhaaDoor.St
open Go.Proofs.YtghghkfhcpldhaaDoor.Sh (nodeV)

def wide (l : List ByteArray) : Bool := l.all (fun s => decide (s.size = 32))
theorem wide_yes (l : List ByteArray) : wide l = true ↔ ∀ j (h : j < l.length), l[j].size = 32 := by
  unfold wide
  simp only [List.all_eq_true, decide_eq_true_eq]
  constructor
  · intro h j hj
    exact h _ (List.getElem_mem hj)
  · intro h s hs
    obtain ⟨j, hj, rfl⟩ := List.getElem_of_mem hs
    exact h j hj
theorem wide_bad (l : List ByteArray) (j : Nat) (hj : j < l.length) (h : ¬ l[j].size = 32) : wide l = false := by
  cases e : wide l with
  | false => rfl
  | true => exact absurd ((wide_yes l).1 e j hj) h

set_option maxRecDepth 100000 in
set_option maxHeartbeats 1000000 in
theorem digs_impl (a : Option Addr) (cap : Nat) (l : List ByteArray) (most : Nat) (w : World) (B : Nat) (h : Strs w B a l) (hn : l.length ≤ 1048576) :
    Calls Tryd.prog 33 #[.slice a l.length cap, .int .i64 most] w fun e w' => e = .returned (.bool (decide (l.length ≤ most) && wide l)) ∧ w' = w := by
  have HS := hideT h
  clear h
  obtain ⟨n, hln⟩ : ∃ n, n = l.length := ⟨_, rfl⟩
  have HLN := hideT hln
  rw [← hln] at hn ⊢
  clear hln
  by_cases hbig : most < n
  · have HR : Hid ((decide (n ≤ most) && wide l) = false) := by
      unfold Hid
      rw [decide_eq_false (by omega)]
      rfl
    go_enter Tryd.func33, Tryd.ntmps33
    go_wp2_with fail
    go_ret
    exact ⟨ret_bool HR.out.symm, rfl⟩
  · have HR : Hid ((decide (n ≤ most) && wide l) = wide l) := by
      unfold Hid
      rw [decide_eq_true (by omega)]
      rfl
    go_enter Tryd.func33, Tryd.ntmps33
    go_wp2_with fail
    go_loopw [13] (fun i wr => ∃ k : Nat, i = .int .i64 k ∧ k ≤ n ∧ (∀ j (hj : j < l.length), j < k → l[j].size = 32) ∧ wr = w) (fun i _ => n - (intOf i).toNat)
    case atStart => exact ⟨0, rfl, by omega, fun j hj h0 => by omega, rfl⟩
    case round =>
      obtain ⟨k, rfl, hk, hall, hw⟩ := hrel
      subst hw
      have HA := hideT hall
      clear hall
      by_cases hlt : k < n
      · have hkl : k < l.length := by rw [← HLN.out]; exact hlt
        obtain ⟨b, off, rfl, hb, hc⟩ := HS.out.some (by omega)
        have ci := hc k hkl
        have HBad := hideT (wide_bad l k hkl)
        obtain ⟨s, hs⟩ : ∃ s, s = l[k] := ⟨_, rfl⟩
        have HSE := hideT hs
        rw [← hs] at ci
        clear hc hs
        by_cases h32 : s.size = 32
        · go_wp2_with fail
          go_roundw
          case rel =>
            refine ⟨k + 1, by go_num, by omega, fun j hj h0 => ?_, trivial⟩
            by_cases e : j = k
            · subst e
              rw [← HSE.out]
              exact h32
            · exact HA.out j hj (by omega)
          case measure => simp [intOf]; omega
        · go_wp2_with fail
          go_ret
          exact ⟨ret_bool (by rw [HR.out, HBad.out (by rw [← HSE.out]; exact h32)]), rfl⟩
      · have HY : Hid (wide l = true) := by
          unfold Hid
          exact (wide_yes l).2 (fun j hj => HA.out j hj (by have := HLN.out; omega))
        go_wp2_with fail
        go_ret
        exact ⟨ret_bool (by rw [HR.out, HY.out]), rfl⟩

set_option maxRecDepth 100000 in
set_option maxHeartbeats 1000000 in
theorem wide_spec (a : Option Addr) (cap : Nat) (l : List ByteArray) (w : World) (B : Nat) (h : Strs w B a l) (hn : l.length ≤ 1048576) :
    Calls Tryd.prog 42 #[.slice a l.length cap] w fun e w' => e = .returned (.bool (wide l)) ∧ w' = w := by
  have HS := hideT h
  clear h
  obtain ⟨n, hln⟩ : ∃ n, n = l.length := ⟨_, rfl⟩
  have HLN := hideT hln
  rw [← hln] at hn ⊢
  clear hln
  go_enter Tryd.func42, Tryd.ntmps42
  go_wp2_with fail
  go_loopw [3] (fun i wr => ∃ k : Nat, i = .int .i64 k ∧ k ≤ n ∧ (∀ j (hj : j < l.length), j < k → l[j].size = 32) ∧ wr = w) (fun i _ => n - (intOf i).toNat)
  case atStart => exact ⟨0, rfl, by omega, fun j hj h0 => by omega, rfl⟩
  case round =>
    obtain ⟨k, rfl, hk, hall, hw⟩ := hrel
    subst hw
    have HA := hideT hall
    clear hall
    by_cases hlt : k < n
    · have hkl : k < l.length := by rw [← HLN.out]; exact hlt
      obtain ⟨b, off, rfl, hb, hc⟩ := HS.out.some (by omega)
      have ci := hc k hkl
      have HBad := hideT (wide_bad l k hkl)
      obtain ⟨s, hs⟩ : ∃ s, s = l[k] := ⟨_, rfl⟩
      have HSE := hideT hs
      rw [← hs] at ci
      clear hc hs
      by_cases h32 : s.size = 32
      · go_wp2_with fail
        go_roundw
        case rel =>
          refine ⟨k + 1, by go_num, by omega, fun j hj h0 => ?_, trivial⟩
          by_cases e : j = k
          · subst e
            rw [← HSE.out]
            exact h32
          · exact HA.out j hj (by omega)
        case measure => simp [intOf]; omega
      · go_wp2_with fail
        go_ret
        exact ⟨ret_bool (by rw [HBad.out (by rw [← HSE.out]; exact h32)]), rfl⟩
    · have HY : Hid (wide l = true) := by
        unfold Hid
        exact (wide_yes l).2 (fun j hj => HA.out j hj (by have := HLN.out; omega))
      go_wp2_with fail
      go_ret
      exact ⟨ret_bool (by rw [HY.out]), rfl⟩

set_option maxRecDepth 100000 in
set_option maxHeartbeats 1000000 in
theorem cutLast_any (b off m cap : Nat) (s : ByteArray) (w : World) (hm : 1 ≤ m) (hm2 : m ≤ 1048576) (hc : m ≤ cap) (ci : w.cell? ⟨b, off + (m - 1), none⟩ = some (.string s)) :
    Calls Tryd.prog 49 #[.slice (some ⟨b, off, none⟩) m cap] w fun e w' => e = .returned (.tuple #[.slice (some ⟨b, off, none⟩) (m - 1) (m - 1), .string s]) ∧ Below w.heap.size w w' := by
  obtain ⟨k, rfl⟩ : ∃ k, m = k + 1 := ⟨m - 1, by omega⟩
  rw [show k + 1 - 1 = k by omega] at ci ⊢
  have g0 : ((k + 1 : Nat) : Int) - 1 = k := by omega
  have g1 : (k : Int) ≤ cap := by omega
  have g2 : (k : Int) < ((k + 1 : Nat) : Int) := by omega
  have g3 : ¬ cap = k := by omega
  go_enter Tryd.func49, Tryd.ntmps49
  go_wp2_with fail
  go_region
  all_goals (try go_wp2_with fail)
  all_goals go_ret2
  all_goals exact ⟨rfl, (Below.refl _ _).drew⟩

/-- one of so many entries climbs along a path to what -/
def incl (n i : Nat) (p : List ByteArray) (h : ByteArray) : Option ByteArray := climbS i (n - 1) p h
theorem incl_one (p : List ByteArray) (h : ByteArray) : incl 1 0 p h = if p = [] then some h else none := by
  unfold incl
  cases p with
  | nil => rw [climbS_nil, if_pos rfl, if_pos rfl]
  | cons x xs => rw [climbS_zero _ _ _ (by simp), if_neg (by simp)]
theorem incl_none (n i : Nat) (h : ByteArray) (hn : 2 ≤ n) : incl n i [] h = none := by
  unfold incl
  rw [climbS_nil, if_neg (by omega)]
theorem incl_left (n i : Nat) (q : List ByteArray) (s h : ByteArray) (hn : 2 ≤ n) (hi : i < half n) : incl n i (q ++ [s]) h = (incl (half n) i q h).map (fun x => nodeV x s) := by
  have k3 := half_two n hn
  have k2 := half_lt n hn
  have hk : half n = 2 ^ Nat.log2 (n - 1) := rfl
  have e4 : 2 ^ (Nat.log2 (n - 1) + 1) = 2 * half n := by rw [Nat.pow_succ, hk]; omega
  exact climb_left q (Nat.log2 (n - 1)) i (n - 1) s h (by rw [← hk]; exact hi) (by rw [← hk]; omega) (by rw [e4]; omega)
theorem incl_right (n i : Nat) (q : List ByteArray) (s h : ByteArray) (hn : 2 ≤ n) (hi : ¬ i < half n) (hin : i < n) : incl n i (q ++ [s]) h = (incl (n - half n) (i - half n) q h).map (fun x => nodeV s x) := by
  have k3 := half_two n hn
  have k2 := half_lt n hn
  have hk : half n = 2 ^ Nat.log2 (n - 1) := rfl
  have e4 : 2 ^ (Nat.log2 (n - 1) + 1) = 2 * half n := by rw [Nat.pow_succ, hk]; omega
  have := climb_right q (Nat.log2 (n - 1)) i (n - 1) s h (by rw [← hk]; omega) (by omega) (by rw [e4]; omega)
  unfold incl
  rw [this, ← hk, show n - 1 - half n = n - half n - 1 by omega]
end Go.Proofs.YtghghkfhcpldhaaDoor.Tr

/- Whether a range is right: impl.rangeRight and spec.l03Range. -/
namespace Go.Proofs.YtghghkfhcpldhaaDoor.Tr
open Go.RowKit
open Go.Proofs.YtghghkfhcpldhaaDoor.St

def rngB (n : Int) (p : List ByteArray) : Bool := decide (0 ≤ n) && decide (n ≤ 1000000) && decide (p.length = ones n.toNat) && wide p
theorem rngB_low (n : Int) (p : List ByteArray) (h : n < 0) : rngB n p = false := by simp [rngB, show ¬ 0 ≤ n by omega]
theorem rngB_high (n : Int) (p : List ByteArray) (h : 1000000 < n) : rngB n p = false := by simp [rngB, show ¬ n ≤ 1000000 by omega]
theorem rngB_in (n : Nat) (p : List ByteArray) (h : n ≤ 1000000) : rngB n p = (decide (p.length = ones n) && wide p) := by
  unfold rngB
  rw [decide_eq_true (show (0 : Int) ≤ n by omega), decide_eq_true (show (n : Int) ≤ 1000000 by omega)]
  simp

set_option maxRecDepth 100000 in
set_option maxHeartbeats 2000000 in
theorem rng_impl (n : Int) (p : List ByteArray) (a : Option Addr) (cap B : Nat) (w : World) (hp : p.length ≤ 1048576) (hs : Strs w B a p) (hB : B ≤ w.heap.size) :
    Calls Tryd.prog 48 #[.agg #[.int .i64 n, .slice a p.length cap]] w fun e w' => e = .returned (.bool (rngB n p)) ∧ Below w.heap.size w w' := by
  have HD := hideT (fun (W : World) (hW : Below w.heap.size w W) (m : Nat) => digs_impl a cap p m W B (hs.after hW hB) hp)
  clear hs
  by_cases h0 : n < 0
  · have HF := hideT (rngB_low n p h0)
    clear HD
    generalize p.length = m at hp ⊢
    go_enter Tryd.func48, Tryd.ntmps48
    go_wp2_with fail
    go_ret
    exact ⟨ret_bool HF.out.symm, (Below.refl _ _).alloc (Nat.le_refl _) _⟩
  · by_cases h1 : 1000000 < n
    · have HF := hideT (rngB_high n p h1)
      clear HD
      generalize p.length = m at hp ⊢
      go_enter Tryd.func48, Tryd.ntmps48
      go_wp2_with fail
      go_ret
      exact ⟨ret_bool HF.out.symm, (Below.refl _ _).alloc (Nat.le_refl _) _⟩
    · obtain ⟨k, rfl⟩ : ∃ k : Nat, n = k := ⟨n.toNat, by omega⟩
      have HF := hideT (rngB_in k p (by omega))
      have e1 : IntKind.u64.wrap (k : Int) = (k : Int) := by rw [IntKind.wrap_u64]; omega
      have hk : k < 1048576 := by omega
      have b0 : decide ((k : Int) < 0) = false := by simp
      have b9 : decide ((1000000 : Int) < (k : Int)) = false := by simp; omega
      by_cases hl : p.length = ones k
      · have HE : Hid (rngB k p = wide p) := by
          unfold Hid
          rw [HF.out, decide_eq_true hl, Bool.true_and]
        have HD2 : Hid (∀ W : World, Below w.heap.size w W → Calls Tryd.prog 33 #[.slice a p.length cap, .int .i64 (ones k)] W fun e w' => e = .returned (.bool (wide p)) ∧ w' = W) := fun W hW => by
          have := HD.out W hW (ones k)
          rw [decide_eq_true (Nat.le_of_eq hl), Bool.true_and] at this
          exact this
        have HL := hideT hl
        clear HD h0 h1
        rw [hl] at hp HD2 ⊢
        clear hl
        go_enter Tryd.func48, Tryd.ntmps48
        go_wp2_with fail
        refine (ones_any k _ (by omega)).mono ?_
        rintro e w1 ⟨rfl, hw⟩
        subst w1
        go_wp2_with fail
        refine (HD2.out _ ((Below.refl _ _).alloc (Nat.le_refl _) _)).mono ?_
        rintro e w1 ⟨rfl, hw⟩
        subst w1
        go_wp2_with fail
        go_ret
        exact ⟨ret_bool HE.out.symm, (Below.refl _ _).alloc (Nat.le_refl _) _⟩
      · have HE : Hid (rngB k p = false) := by
          unfold Hid
          rw [HF.out, decide_eq_false hl]
          rfl
        have b1 : ((p.length : Int) == ((ones k : Nat) : Int)) = false := by simp; omega
        clear HD h0 h1
        generalize p.length = m at hp hl b1 ⊢
        go_enter Tryd.func48, Tryd.ntmps48
        go_wp2_with fail
        refine (ones_any k _ (by omega)).mono ?_
        rintro e w1 ⟨rfl, hw⟩
        subst w1
        go_wp2_with fail
        go_ret
        exact ⟨ret_bool HE.out.symm, (Below.refl _ _).alloc (Nat.le_refl _) _⟩

theorem is_any (n lo hi : Int) (w : World) : Calls Tryd.prog 69 #[.int .i64 n, .int .i64 lo, .int .i64 hi] w fun e w' => e = .returned (.bool (decide (lo ≤ n) && decide (n ≤ hi))) ∧ w' = w := by
  by_cases h : lo ≤ n
  · have HE : Hid ((decide (lo ≤ n) && decide (n ≤ hi)) = decide (n ≤ hi)) := by
      unfold Hid
      rw [decide_eq_true h, Bool.true_and]
    go_enter Tryd.func69, Tryd.ntmps69
    go_wp2_with fail
    go_ret
    exact ⟨ret_bool HE.out.symm, rfl⟩
  · have HE : Hid ((decide (lo ≤ n) && decide (n ≤ hi)) = false) := by
      unfold Hid
      rw [decide_eq_false h]
      rfl
    go_enter Tryd.func69, Tryd.ntmps69
    go_wp2_with fail
    go_ret
    exact ⟨ret_bool HE.out.symm, rfl⟩

set_option maxRecDepth 100000 in
set_option maxHeartbeats 4000000 in
theorem rng_spec (n : Int) (p : List ByteArray) (a : Option Addr) (cap B : Nat) (w : World) (hp : p.length ≤ 1048576) (hs : Strs w B a p) (hB : B ≤ w.heap.size) :
    Calls Tryd.prog 56 #[.agg #[.int .i64 n, .slice a p.length cap]] w fun e w' => e = .returned (.bool (rngB n p)) ∧ Below w.heap.size w w' := by
  have HD := hideT (fun (W : World) (hW : Below w.heap.size w W) => (wide_spec a cap p W B (hs.after hW hB) hp).mono (R' := fun e w' => e = .returned (.bool (wide p)) ∧ ∃ n, w' = W.drewN n) fun e w' h => ⟨h.1, 0, h.2⟩)
  clear hs
  by_cases h0 : 0 ≤ n ∧ n ≤ 1000000
  · obtain ⟨k, rfl⟩ : ∃ k : Nat, n = k := ⟨n.toNat, by omega⟩
    have HF := hideT (rngB_in k p (by omega))
    have HIs : Hid (∀ W, Calls Tryd.prog 69 #[.int .i64 k, .int .i64 0, .int .i64 1000000] W fun e w' => e = .returned (.bool true) ∧ ∃ n, w' = W.drewN n) := fun W => by
      have := is_any k 0 1000000 W
      rw [decide_eq_true h0.1, decide_eq_true h0.2] at this
      exact this.mono fun e w' h => ⟨h.1, 0, h.2⟩
    have hk : k < 1048576 := by omega
    have HOn := hideT (fun W => (ones_spec k W hk).mono (R' := fun e w' => e = .returned (.int .i64 (ones k)) ∧ ∃ n, w' = W.drewN n) fun e w' h => ⟨h.1, 0, h.2⟩)
    clear h0
    by_cases hl : p.length = ones k
    · have HE : Hid (rngB k p = wide p) := by
        unfold Hid
        rw [HF.out, decide_eq_true hl, Bool.true_and]
      rw [hl] at hp HD ⊢
      clear hl
      go_enter Tryd.func56, Tryd.ntmps56
      go_wp2_with fail
      go_quiet (first | (go_at_call 69; refine Calls.quiet_of (HIs.out _)) | (go_at_call 68; refine Calls.quiet_of (HOn.out _)) | (go_at_call 42; refine Calls.quiet_of (HD.out _ ?_); exact ⟨rfl, rfl, rfl, by simp, fun j hj => Below.heap_alloc w _ j hj⟩))
      all_goals (try go_wp2_with fail)
      all_goals go_ret
      all_goals exact ⟨ret_bool HE.out.symm, ⟨rfl, rfl, rfl, by simp, fun j hj => Below.heap_alloc w _ j hj⟩⟩
    · have HE : Hid (rngB k p = false) := by
        unfold Hid
        rw [HF.out, decide_eq_false hl]
        rfl
      have b1 : ((p.length : Int) == ((ones k : Nat) : Int)) = false := by simp; omega
      have b2 : decide ((p.length : Int) = ((ones k : Nat) : Int)) = false := by simp; omega
      have b3 : decide (p.length = ones k) = false := by simp; omega
      have b4 : (p.length == ones k) = false := by simp; omega
      clear HD hl
      generalize p.length = m at hp b1 b2 b3 b4 ⊢
      generalize ones k = o at b1 b2 b3 b4 HOn HF
      go_enter Tryd.func56, Tryd.ntmps56
      go_wp2_with fail
      go_quiet (first | (go_at_call 69; refine Calls.quiet_of (HIs.out _)) | (go_at_call 68; refine Calls.quiet_of (HOn.out _)))
      all_goals (try go_wp2_with fail)
      all_goals go_ret
      all_goals exact ⟨ret_bool HE.out.symm, ⟨rfl, rfl, rfl, by simp, fun j hj => Below.heap_alloc w _ j hj⟩⟩
  · have HE : Hid (rngB n p = false) := by
      unfold Hid rngB
      by_cases h1 : 0 ≤ n
      · rw [decide_eq_false (show ¬ n ≤ 1000000 by omega)]
        simp
      · rw [decide_eq_false h1]
        simp
    have HIs : Hid (∀ W, Calls Tryd.prog 69 #[.int .i64 n, .int .i64 0, .int .i64 1000000] W fun e w' => e = .returned (.bool false) ∧ ∃ n, w' = W.drewN n) := fun W => by
      have := is_any n 0 1000000 W
      rw [show (decide (0 ≤ n) && decide (n ≤ 1000000)) = false by
        by_cases h1 : 0 ≤ n
        · rw [decide_eq_false (show ¬ n ≤ 1000000 by omega)]
          simp
        · rw [decide_eq_false h1]
          simp] at this
      exact this.mono fun e w' h => ⟨h.1, 0, h.2⟩
    clear HD h0
    generalize p.length = m at hp ⊢
    go_enter Tryd.func56, Tryd.ntmps56
    go_wp2_with fail
    go_quiet (first | (go_at_call 69; refine Calls.quiet_of (HIs.out _)))
    all_goals (try go_wp2_with fail)
    all_goals go_ret
    all_goals exact ⟨ret_bool HE.out.symm, ⟨rfl, rfl, rfl, by simp, fun j hj => Below.heap_alloc w _ j hj⟩⟩
end Go.Proofs.YtghghkfhcpldhaaDoor.Tr
