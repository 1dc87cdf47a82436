/- Plain mathematics of reading a number: what stands at a place of a text, byte by byte. -/
import Derived.Laws.BitsAllLaws
namespace Go.Proofs.YtkfipamdfpknpaaDoor.Gn

def byteN (s : ByteArray) (p : Nat) : Nat := (s.data.toList.getD p 0).toNat

theorem byteN_eq (s : ByteArray) (p : Nat) (h : p < s.size) : s[p].toNat = byteN s p := by
  have h' : p < s.data.toList.length := by simpa using h
  unfold byteN
  rw [List.getD_eq_getElem?_getD, List.getElem?_eq_getElem h']
  rfl

/-- the number's bits, the place behind it, the code: k bytes are read, u is what they say, p is the place -/
def run (s : ByteArray) : Nat → Nat → Nat → Nat → Nat × Nat × Int
  | 0, _, _, _ => (0, 0, 3)
  | f + 1, k, p, u =>
    if s.size ≤ p then (0, 0, 4)
    else if k = 9 ∧ 1 < byteN s p then (0, 0, 3)
    else if byteN s p < 128 then (if byteN s p = 0 ∧ 0 < k then (0, 0, 3) else (u + byteN s p % 128 * 2 ^ (7 * k), p + 1, 0))
    else run s f (k + 1) (p + 1) (u + byteN s p % 128 * 2 ^ (7 * k))

def numR (s : ByteArray) (a : Nat) : Nat × Nat × Int := run s 10 0 a 0

theorem run_end (s : ByteArray) (f k p u : Nat) (h : s.size ≤ p) : run s (f + 1) k p u = (0, 0, 4) := by
  rw [run, if_pos h]

theorem run_nine (s : ByteArray) (f k p u : Nat) (h : p < s.size) (hk : k = 9) (hc : 1 < s[p].toNat) : run s (f + 1) k p u = (0, 0, 3) := by
  rw [byteN_eq s p h] at hc
  rw [run, if_neg (by omega), if_pos ⟨hk, hc⟩]

theorem run_zero (s : ByteArray) (f k p u : Nat) (h : p < s.size) (hc : s[p].toNat = 0) (hk : 0 < k) : run s (f + 1) k p u = (0, 0, 3) := by
  rw [byteN_eq s p h] at hc
  rw [run, if_neg (by omega), if_neg (by omega), if_pos (by omega), if_pos ⟨hc, hk⟩]

theorem run_last (s : ByteArray) (f k p u : Nat) (h : p < s.size) (h9 : ¬ (k = 9 ∧ 1 < s[p].toNat)) (hc : s[p].toNat < 128) (hz : ¬ (s[p].toNat = 0 ∧ 0 < k)) :
    run s (f + 1) k p u = (u + s[p].toNat % 128 * 2 ^ (7 * k), p + 1, 0) := by
  rw [byteN_eq s p h] at hc hz h9 ⊢
  rw [run, if_neg (by omega), if_neg h9, if_pos hc, if_neg hz]

theorem run_more (s : ByteArray) (f k p u : Nat) (h : p < s.size) (hk : k ≠ 9) (hc : 128 ≤ s[p].toNat) :
    run s (f + 1) k p u = run s f (k + 1) (p + 1) (u + s[p].toNat % 128 * 2 ^ (7 * k)) := by
  rw [byteN_eq s p h] at hc ⊢
  rw [run, if_neg (by omega), if_neg (by omega), if_neg (by omega)]

theorem pow_le (k : Nat) (hk : k ≤ 9) : 2 ^ (7 * k) ≤ 9223372036854775808 := by
  have : 2 ^ (7 * k) ≤ 2 ^ 63 := Nat.pow_le_pow_right (by decide) (by omega)
  exact this

theorem pow_next (k : Nat) : 2 ^ (7 * (k + 1)) = 128 * 2 ^ (7 * k) := by
  rw [show 7 * (k + 1) = 7 + 7 * k by omega, Nat.pow_add]

/-- the part that a byte adds -/
theorem part_lt (c k : Nat) : c % 128 * 2 ^ (7 * k) ≤ 127 * 2 ^ (7 * k) := Nat.mul_le_mul_right _ (by omega)

theorem next_lt (u c k : Nat) (hu : u < 2 ^ (7 * k)) : u + c % 128 * 2 ^ (7 * k) < 2 ^ (7 * (k + 1)) := by
  rw [pow_next]
  have := part_lt c k
  omega

/-- nothing wraps: of up to nine bytes, and of a tenth that is at most 1 -/
theorem next_small (u c k : Nat) (hu : u < 2 ^ (7 * k)) (hk : k ≤ 9) (h9 : ¬ (k = 9 ∧ 1 < c)) : c % 128 * 2 ^ (7 * k) ≤ 9223372036854775808 ∧ u + c % 128 * 2 ^ (7 * k) ≤ 18446744073709551615 := by
  have hp := pow_le k hk
  by_cases e : k = 9
  · have hc : c % 128 ≤ 1 := by omega
    have := Nat.mul_le_mul_right (2 ^ (7 * k)) hc
    omega
  · have hn := next_lt u c k hu
    have := pow_le (k + 1) (by omega)
    omega

theorem or_add (u c k : Nat) (hu : u < 2 ^ (7 * k)) : u ||| (c % 128 * 2 ^ (7 * k)) = u + c % 128 * 2 ^ (7 * k) := by
  rw [Nat.or_comm, nat_join (7 * k) (c % 128 * 2 ^ (7 * k)) u (Nat.mul_mod_left _ _) hu, Nat.add_comm]

/-- the number that u folds -/
def unz (u : Nat) : Int := if u % 2 = 1 then -((u / 2 : Nat) : Int) - 1 else ((u / 2 : Nat) : Int)

theorem wrap_part (c k : Nat) (h : c % 128 * 2 ^ (7 * k) ≤ 9223372036854775808) : IntKind.u64.wrap ((c : Int) % 128 * 2 ^ (7 * k)) = ((c % 128 * 2 ^ (7 * k) : Nat) : Int) := by
  have e : ((c : Int) % 128 * 2 ^ (7 * k)) = ((c % 128 * 2 ^ (7 * k) : Nat) : Int) := by
    rw [Int.natCast_mul, Int.natCast_emod, Int.natCast_pow]; rfl
  rw [e, IntKind.wrap_u64]
  omega

theorem wrap_next (v c k : Nat) (h1 : c % 128 * 2 ^ (7 * k) ≤ 9223372036854775808) (h2 : v + c % 128 * 2 ^ (7 * k) ≤ 18446744073709551615) :
    IntKind.u64.wrap ((v : Int) + IntKind.u64.wrap ((c : Int) % 128 * 2 ^ (7 * k))) = ((v + c % 128 * 2 ^ (7 * k) : Nat) : Int) := by
  rw [wrap_part c k h1, IntKind.wrap_u64]
  omega

theorem unz_odd (x : Nat) (h : x % 2 = 1) : unz x = -((x / 2 : Nat) : Int) - 1 := by unfold unz; rw [if_pos h]
theorem unz_even (x : Nat) (h : ¬ x % 2 = 1) : unz x = ((x / 2 : Nat) : Int) := by unfold unz; rw [if_neg h]
/-- the program's own way to the same bits -/
theorem and_low (c : Nat) (h : c < 256) : bits BinOp.and IntKind.u8 (c : Int) 127 = ((c % 128 : Nat) : Int) := by
  have := u8_and_nat c 127 h (by decide)
  rw [nat_mask7] at this
  exact this

theorem shl_part (y k : Nat) (h : y * 2 ^ (7 * k) ≤ 9223372036854775808) : IntKind.u64.wrap ((y : Int) * 2 ^ (7 * k)) = ((y * 2 ^ (7 * k) : Nat) : Int) := by
  have e : ((y : Int) * 2 ^ (7 * k)) = ((y * 2 ^ (7 * k) : Nat) : Int) := by
    rw [Int.natCast_mul, Int.natCast_pow]; rfl
  rw [e, IntKind.wrap_u64]
  omega

theorem or_part (v c k : Nat) (hv : v < 2 ^ (7 * k)) (h1 : c % 128 * 2 ^ (7 * k) ≤ 9223372036854775808) (h2 : v ≤ 9223372036854775807) :
    bits BinOp.or IntKind.u64 (v : Int) ((c % 128 * 2 ^ (7 * k) : Nat) : Int) = ((v + c % 128 * 2 ^ (7 * k) : Nat) : Int) := by
  rw [u64_or_nat v _ (by omega) (by omega), or_add v c k hv]

theorem unz_odd' (x : Nat) (h : x % 2 = 1) : -((x : Int) / 2) - 1 = unz x := by rw [unz_odd x h]; omega
theorem unz_even' (x : Nat) (h : ¬ x % 2 = 1) : (x : Int) / 2 = unz x := by rw [unz_even x h]; omega
end Go.Proofs.YtkfipamdfpknpaaDoor.Gn
