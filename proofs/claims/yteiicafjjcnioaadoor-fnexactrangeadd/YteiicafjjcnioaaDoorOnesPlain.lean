/- Plain mathematics: how many bits of a number are 1, put together byte by byte. -/
import Derived.Laws.BitsAllLaws
namespace Go.Proofs.YteiicafjjcnioaaDoor.Tr

def ones (n : Nat) : Nat := if _h : n = 0 then 0 else n % 2 + ones (n / 2)
termination_by n
decreasing_by omega
theorem ones_zero : ones 0 = 0 := by rw [ones, dif_pos rfl]
theorem ones_step (n : Nat) : ones n = n % 2 + ones (n / 2) := by
  by_cases h : n = 0
  · subst h
    rw [ones_zero]
  · rw [ones, dif_neg h]
theorem ones_split : ∀ (k r q : Nat), r < 2 ^ k → ones (r + 2 ^ k * q) = ones r + ones q
  | 0, r, q, h => by
    have : r = 0 := by simpa using h
    subst this
    rw [ones_zero]
    simp
  | k + 1, r, q, h => by
    rw [Nat.pow_succ] at h
    have e : 2 ^ (k + 1) * q = 2 * (2 ^ k * q) := by rw [Nat.pow_succ, Nat.mul_comm (2 ^ k) 2, Nat.mul_assoc]
    rw [ones_step (r + 2 ^ (k + 1) * q), ones_step r, e, show (r + 2 * (2 ^ k * q)) / 2 = r / 2 + 2 ^ k * q by omega, show (r + 2 * (2 ^ k * q)) % 2 = r % 2 by omega, ones_split k (r / 2) q (by omega)]
    omega
theorem ones_le (n : Nat) : ∀ k, n < 2 ^ k → ones n ≤ k
  | 0, h => by
    have : n = 0 := by simpa using h
    subst this
    rw [ones_zero]
    omega
  | k + 1, h => by
    rw [ones_step]
    have := ones_le (n / 2) k (by rw [Nat.pow_succ] at h; omega)
    omega

theorem and_step (x y : Nat) : x &&& y = (x % 256 &&& y % 256) + 256 * (x / 256 &&& y / 256) := by
  have h1 := Nat.and_mod_two_pow (a := x) (b := y) (n := 8)
  have h2 := Nat.and_div_two_pow (a := x) (b := y) (n := 8)
  rw [show (2 : Nat) ^ 8 = 256 from rfl] at h1 h2
  omega
theorem and3 (x M m : Nat) (hx : x < 16777216) (h0 : M % 256 = m) (h1 : M / 256 % 256 = m) (h2 : M / 256 / 256 % 256 = m) :
    x &&& M = (x % 256 &&& m) + 256 * (x / 256 % 256 &&& m) + 65536 * (x / 65536 &&& m) := by
  rw [and_step x M, and_step (x / 256) (M / 256), and_step (x / 256 / 256) (M / 256 / 256), h0, h1, h2]
  have e : x / 256 / 256 / 256 = 0 := by omega
  rw [e, Nat.zero_and, show x / 256 / 256 % 256 = x / 65536 by omega]
  omega
def f1 (a : Nat) : Nat := (a / 2 &&& 85) + (a &&& 85)
def f2 (a : Nat) : Nat := (a / 4 &&& 51) + (a &&& 51)
theorem t1 : ∀ (a : Fin 256) (e : Fin 2), ((a.val / 2 + 128 * e.val) &&& 85) = (a.val / 2 &&& 85) ∧ f1 a.val < 256 ∧ (a.val / 2 &&& 85) < 256 ∧ (a.val &&& 85) < 256 := by decide +kernel
theorem t2 : ∀ (a : Fin 256) (e : Fin 4), ((a.val / 4 + 64 * e.val) &&& 51) = (a.val / 4 &&& 51) ∧ (a.val / 4 &&& 51) < 256 ∧ (a.val &&& 51) < 256 := by decide +kernel
theorem t3 : ∀ a : Fin 256, f2 (f1 a.val) / 16 ≤ 4 ∧ f2 (f1 a.val) % 16 ≤ 4 ∧ f2 (f1 a.val) / 16 + f2 (f1 a.val) % 16 ≤ 8 := by decide +kernel
def ones8 (a : Nat) : Nat := a % 2 + (a / 2 % 2 + (a / 4 % 2 + (a / 8 % 2 + (a / 16 % 2 + (a / 32 % 2 + (a / 64 % 2 + a / 128 % 2))))))
theorem t4 : ∀ a : Fin 256, f2 (f1 a.val) / 16 + f2 (f1 a.val) % 16 = ones8 a.val := by decide +kernel
theorem ones_8 (a : Nat) (h : a < 256) : ones a = ones8 a := by
  unfold ones8
  rw [ones_step a, ones_step (a / 2), ones_step (a / 2 / 2), ones_step (a / 2 / 2 / 2), ones_step (a / 2 / 2 / 2 / 2), ones_step (a / 2 / 2 / 2 / 2 / 2), ones_step (a / 2 / 2 / 2 / 2 / 2 / 2), ones_step (a / 2 / 2 / 2 / 2 / 2 / 2 / 2)]
  rw [show a / 2 / 2 / 2 / 2 / 2 / 2 / 2 / 2 = 0 by omega, ones_zero]
  omega

/-- two shifts and masks, byte by byte -/
theorem stage1 (a b c : Nat) (la : a < 256) (lb : b < 256) (lc : c < 256) :
    ((a + 256 * b + 65536 * c) / 2 &&& 6148914691236517205) + ((a + 256 * b + 65536 * c) &&& 6148914691236517205) = f1 a + 256 * f1 b + 65536 * f1 c := by
  have a1 := (t1 ⟨a, la⟩ ⟨b % 2, by omega⟩).1
  have b1 := (t1 ⟨b, lb⟩ ⟨c % 2, by omega⟩).1
  simp only [] at a1 b1
  rw [and3 ((a + 256 * b + 65536 * c) / 2) 6148914691236517205 85 (by omega) rfl rfl rfl, and3 (a + 256 * b + 65536 * c) 6148914691236517205 85 (by omega) rfl rfl rfl]
  rw [show (a + 256 * b + 65536 * c) / 2 % 256 = a / 2 + 128 * (b % 2) by omega, show (a + 256 * b + 65536 * c) / 2 / 256 % 256 = b / 2 + 128 * (c % 2) by omega, show (a + 256 * b + 65536 * c) / 2 / 65536 = c / 2 by omega, a1, b1]
  rw [show (a + 256 * b + 65536 * c) % 256 = a by omega, show (a + 256 * b + 65536 * c) / 256 % 256 = b by omega, show (a + 256 * b + 65536 * c) / 65536 = c by omega]
  unfold f1
  clear a1 b1 la lb lc
  generalize a / 2 &&& 85 = x1
  generalize b / 2 &&& 85 = x2
  generalize c / 2 &&& 85 = x3
  generalize a &&& 85 = x4
  generalize b &&& 85 = x5
  generalize c &&& 85 = x6
  omega
theorem stage2 (a b c : Nat) (la : a < 256) (lb : b < 256) (lc : c < 256) :
    ((a + 256 * b + 65536 * c) / 4 &&& 3689348814741910323) + ((a + 256 * b + 65536 * c) &&& 3689348814741910323) = f2 a + 256 * f2 b + 65536 * f2 c := by
  have a1 := (t2 ⟨a, la⟩ ⟨b % 4, by omega⟩).1
  have b1 := (t2 ⟨b, lb⟩ ⟨c % 4, by omega⟩).1
  simp only [] at a1 b1
  rw [and3 ((a + 256 * b + 65536 * c) / 4) 3689348814741910323 51 (by omega) rfl rfl rfl, and3 (a + 256 * b + 65536 * c) 3689348814741910323 51 (by omega) rfl rfl rfl]
  rw [show (a + 256 * b + 65536 * c) / 4 % 256 = a / 4 + 64 * (b % 4) by omega, show (a + 256 * b + 65536 * c) / 4 / 256 % 256 = b / 4 + 64 * (c % 4) by omega, show (a + 256 * b + 65536 * c) / 4 / 65536 = c / 4 by omega, a1, b1]
  rw [show (a + 256 * b + 65536 * c) % 256 = a by omega, show (a + 256 * b + 65536 * c) / 256 % 256 = b by omega, show (a + 256 * b + 65536 * c) / 65536 = c by omega]
  unfold f2
  clear a1 b1 la lb lc
  generalize a / 4 &&& 51 = x1
  generalize b / 4 &&& 51 = x2
  generalize c / 4 &&& 51 = x3
  generalize a &&& 51 = x4
  generalize b &&& 51 = x5
  generalize c &&& 51 = x6
  omega
theorem dig (P Q R : Nat) (h1 : P < 256) (h2 : Q < 256) : (P + 256 * Q + 65536 * R) % 256 = P ∧ (P + 256 * Q + 65536 * R) / 256 % 256 = Q ∧ (P + 256 * Q + 65536 * R) / 65536 = R := ⟨by omega, by omega, by omega⟩
theorem mod_16 (u v z : Nat) (h : u + v < 16) : (u + 16 * u + v + 16 * z) % 16 = u + v := by
  rw [show u + 16 * u + v + 16 * z = (u + v) + 16 * (u + z) by omega, Nat.add_mul_mod_self_left, Nat.mod_eq_of_lt h]
theorem stage3 (A1 A0 B1 B0 C1 C0 : Nat) (h1 : A1 ≤ 4) (h2 : A0 ≤ 4) (h3 : B1 ≤ 4) (h4 : B0 ≤ 4) (h5 : C1 ≤ 4) (h6 : C0 ≤ 4) :
    (((16 * A1 + A0) + 256 * (16 * B1 + B0) + 65536 * (16 * C1 + C0)) / 16 + ((16 * A1 + A0) + 256 * (16 * B1 + B0) + 65536 * (16 * C1 + C0)) &&& 1085102592571150095) = (A1 + A0) + 256 * (B1 + B0) + 65536 * (C1 + C0) := by
  rw [show ((16 * A1 + A0) + 256 * (16 * B1 + B0) + 65536 * (16 * C1 + C0)) / 16 + ((16 * A1 + A0) + 256 * (16 * B1 + B0) + 65536 * (16 * C1 + C0)) = (A1 + 16 * A1 + A0 + 16 * B0) + 256 * (B1 + 16 * B1 + B0 + 16 * C0) + 65536 * (C1 + 16 * C1 + C0) by omega]
  rw [and3 _ 1085102592571150095 15 (by omega) rfl rfl rfl, nat_mask4, nat_mask4, nat_mask4]
  obtain ⟨d1, d2, d3⟩ := dig (A1 + 16 * A1 + A0 + 16 * B0) (B1 + 16 * B1 + B0 + 16 * C0) (C1 + 16 * C1 + C0) (by omega) (by omega)
  rw [d1, d2, d3, mod_16 A1 A0 B0 (by omega), mod_16 B1 B0 C0 (by omega), show C1 + 16 * C1 + C0 = C1 + 16 * C1 + C0 + 16 * 0 by omega, mod_16 C1 C0 0 (by omega)]
theorem stage4 (P Q R : Nat) (h1 : P ≤ 8) (h2 : Q ≤ 8) (h3 : R ≤ 8) :
    P + 256 * Q + 65536 * R + (P + 256 * Q + 65536 * R) / 256 = (P + Q) + 256 * (Q + R) + 65536 * R ∧ (P + Q) + 256 * (Q + R) + 65536 * R + ((P + Q) + 256 * (Q + R) + 65536 * R) / 65536 = (P + Q + R) + 256 * (Q + R) + 65536 * R ∧ ((P + Q + R) + 256 * (Q + R) + 65536 * R) % 128 = P + Q + R := by
  refine ⟨by omega, by omega, by omega⟩

/-- the steps of math/bits.OnesCount64 -/
theorem ones_steps (x : Nat) (hx : x < 1048576) : ∃ x1 x2 x3 x4 x5 : Nat,
    (x / 2 &&& 6148914691236517205) + (x &&& 6148914691236517205) = x1 ∧ (x1 / 4 &&& 3689348814741910323) + (x1 &&& 3689348814741910323) = x2 ∧ (x2 / 16 + x2 &&& 1085102592571150095) = x3 ∧ x3 + x3 / 256 = x4 ∧ x4 + x4 / 65536 = x5 ∧
    x5 % 128 = ones x ∧ x1 < 16777216 ∧ x2 < 8388608 ∧ x3 < 16777216 ∧ x4 < 16777216 ∧ x5 < 16777216 := by
  obtain ⟨a, ha⟩ : ∃ a, a = x % 256 := ⟨_, rfl⟩
  obtain ⟨b, hb⟩ : ∃ b, b = x / 256 % 256 := ⟨_, rfl⟩
  obtain ⟨c, hc⟩ : ∃ c, c = x / 65536 := ⟨_, rfl⟩
  have la : a < 256 := by omega
  have lb : b < 256 := by omega
  have lc : c < 256 := by omega
  have hxx : x = a + 256 * b + 65536 * c := by omega
  clear ha hb hc
  have hon : ones x = ones8 a + ones8 b + ones8 c := by
    have h1 := ones_split 8 a (b + 256 * c) la
    have h2 := ones_split 8 b c lb
    rw [show (2 : Nat) ^ 8 = 256 from rfl] at h1 h2
    rw [hxx, show a + 256 * b + 65536 * c = a + 256 * (b + 256 * c) by omega, h1, h2, ones_8 a la, ones_8 b lb, ones_8 c lc]
    omega
  have f1a := (t1 ⟨a, la⟩ ⟨0, by omega⟩).2.1
  have f1b := (t1 ⟨b, lb⟩ ⟨0, by omega⟩).2.1
  have f1c := (t1 ⟨c, lc⟩ ⟨0, by omega⟩).2.1
  obtain ⟨p1, p2, p3⟩ := t3 ⟨a, la⟩
  obtain ⟨q1, q2, q3⟩ := t3 ⟨b, lb⟩
  obtain ⟨r1, r2, r3⟩ := t3 ⟨c, lc⟩
  have pa := t4 ⟨a, la⟩
  have pb := t4 ⟨b, lb⟩
  have pc := t4 ⟨c, lc⟩
  simp only [] at f1a f1b f1c p1 p2 p3 q1 q2 q3 r1 r2 r3 pa pb pc
  have s1 := stage1 a b c la lb lc
  have s2 := stage2 (f1 a) (f1 b) (f1 c) f1a f1b f1c
  have s3 := stage3 (f2 (f1 a) / 16) (f2 (f1 a) % 16) (f2 (f1 b) / 16) (f2 (f1 b) % 16) (f2 (f1 c) / 16) (f2 (f1 c) % 16) p1 p2 q1 q2 r1 r2
  rw [Nat.div_add_mod, Nat.div_add_mod, Nat.div_add_mod, pa, pb, pc] at s3
  rw [pa] at p3
  rw [pb] at q3
  rw [pc] at r3
  obtain ⟨k1, k2, k3⟩ := stage4 (ones8 a) (ones8 b) (ones8 c) p3 q3 r3
  rw [← hxx] at s1
  have l2a : f2 (f1 a) ≤ 68 := by omega
  have l2b : f2 (f1 b) ≤ 68 := by omega
  have l2c : f2 (f1 c) ≤ 68 := by omega
  refine ⟨_, _, _, _, _, s1, s2, s3, k1, k2, by rw [k3, hon], ?_, ?_, ?_, ?_, ?_⟩
  · clear hon s1 s2 s3 k1 k2 k3 hxx hx
    omega
  · clear hon s1 s2 s3 k1 k2 k3 hxx hx
    omega
  · clear hon s1 s2 s3 k1 k2 k3 hxx hx
    omega
  · clear hon s1 s2 s3 k1 k2 k3 hxx hx
    omega
  · clear hon s1 s2 s3 k1 k2 k3 hxx hx
    omega
end Go.Proofs.YteiicafjjcnioaaDoor.Tr
