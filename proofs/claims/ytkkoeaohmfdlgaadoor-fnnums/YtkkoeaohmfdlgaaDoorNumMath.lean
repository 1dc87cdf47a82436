/- Plain mathematics of numbers as bytes, there and back: what is read where a number is written is the number; of its bytes without the last one nothing is read but that they end too early. -/
import Derived.Test.YtkkoeaohmfdlgaaDoorNumPlain
import Derived.Test.YtkkoeaohmfdlgaaDoorGetPlain
namespace Go.Proofs.YtkkoeaohmfdlgaaDoor.Nm2
open Go.Proofs.YtkkoeaohmfdlgaaDoor.Nu Go.Proofs.YtkkoeaohmfdlgaaDoor.Gn

theorem unz_zz (n : Int) : unz (zz n) = n := by
  unfold zz
  split
  · rw [unz_odd _ (by omega)]; omega
  · rw [unz_even _ (by omega)]; omega

theorem pow_eq (k : Nat) : 2 ^ (7 * k) = 128 ^ k := by rw [Nat.pow_mul]

/-- how many bytes there are, said at once -/
theorem cnt_spec (U : Nat) (hU : U < 18446744073709551616) : cnt 9 U ≤ 9 ∧ (∀ j, j < cnt 9 U → 128 ≤ U / 128 ^ j) ∧ U / 128 ^ cnt 9 U < 128 := by
  have key : ∀ f u, u / 128 ^ f < 128 → (∀ j, j < cnt f u → 128 ≤ u / 128 ^ j) ∧ u / 128 ^ cnt f u < 128 := by
    intro f
    induction f with
    | zero => intro u h; exact ⟨fun j hj => absurd hj (Nat.not_lt_zero j), by simpa [cnt] using h⟩
    | succ f ih =>
      intro u h
      unfold cnt
      split
      · rename_i hlt
        exact ⟨fun j hj => absurd hj (Nat.not_lt_zero j), by simpa using hlt⟩
      · rename_i hge
        rw [div_pow] at h
        obtain ⟨h1, h2⟩ := ih (u / 128) h
        refine ⟨fun j hj => ?_, by rw [div_pow]; exact h2⟩
        match j with
        | 0 => simpa using (by omega : 128 ≤ u)
        | j + 1 => rw [div_pow]; exact h1 j (by omega)
  refine ⟨cnt_le 9 U, key 9 U ?_⟩
  have e : (128 : Nat) ^ 9 = 9223372036854775808 := by decide
  rw [e]
  omega

theorem mod_next (U k : Nat) : U % 128 ^ k + U / 128 ^ k % 128 * 128 ^ k = U % 128 ^ (k + 1) := by
  rw [Nat.pow_succ, Nat.mod_mul, Nat.mul_comm (128 ^ k)]

/-- what is read where the bytes stand -/
theorem dec (s : ByteArray) (U p0 K : Nat) (hU : U < 18446744073709551616) (hK : K ≤ 9) (hall : ∀ j, j < K → 128 ≤ U / 128 ^ j) (hlast : U / 128 ^ K < 128)
    (hsz : p0 + K < s.size) (hb : ∀ j, j < K → byteN s (p0 + j) = U / 128 ^ j % 128 + 128) (hbl : byteN s (p0 + K) = U / 128 ^ K) :
    ∀ d k, K - k = d → k ≤ K → run s (10 - k) k (p0 + k) (U % 128 ^ k) = (U, p0 + K + 1, 0) := by
  intro d
  induction d with
  | zero =>
    intro k hd hk
    obtain rfl : k = K := by omega
    obtain ⟨f, hf⟩ : ∃ f, 10 - k = f + 1 := ⟨9 - k, by omega⟩
    have e := byteN_eq s (p0 + k) hsz
    rw [hbl] at e
    have h9 : ¬ (k = 9 ∧ 1 < s[p0 + k].toNat) := by
      rintro ⟨rfl, h⟩
      rw [e, show (128 : Nat) ^ 9 = 9223372036854775808 from by decide] at h
      omega
    have hz : ¬ (s[p0 + k].toNat = 0 ∧ 0 < k) := by
      rintro ⟨h, hk0⟩
      have h1 := hall (k - 1) (by omega)
      rw [e, show k = (k - 1) + 1 from by omega, pow_div] at h
      omega
    rw [hf, run_last s f k (p0 + k) _ hsz h9 (by rw [e]; exact hlast) hz, e, pow_eq, Nat.mod_eq_of_lt hlast]
    have hm : U % 128 ^ k + U / 128 ^ k * 128 ^ k = U := by rw [Nat.mul_comm]; exact Nat.mod_add_div U (128 ^ k)
    rw [hm]
  | succ d ih =>
    intro k hd hk
    have hlt : k < K := by omega
    obtain ⟨f, hf⟩ : ∃ f, 10 - k = f + 1 := ⟨9 - k, by omega⟩
    have hp : p0 + k < s.size := by omega
    have e := byteN_eq s (p0 + k) hp
    rw [hb k hlt] at e
    rw [hf, run_more s f k (p0 + k) _ hp (by omega) (by omega), e, pow_eq, Nat.add_mod_right, Nat.mod_mod, mod_next, show f = 10 - (k + 1) from by omega]
    exact ih (k + 1) (by omega) (by omega)

/-- of the bytes ahead of the last one nothing is read but that they end too early -/
theorem dec_short (s : ByteArray) (U K : Nat) (hK : K ≤ 9) (hsz : s.size = K) (hb : ∀ j, j < K → byteN s j = U / 128 ^ j % 128 + 128) :
    ∀ d k, K - k = d → k ≤ K → ∀ u, run s (10 - k) k k u = (0, 0, 4) := by
  intro d
  induction d with
  | zero =>
    intro k hd hk u
    obtain ⟨f, hf⟩ : ∃ f, 10 - k = f + 1 := ⟨9 - k, by omega⟩
    rw [hf]
    exact run_end s f k k u (by omega)
  | succ d ih =>
    intro k hd hk u
    have hlt : k < K := by omega
    obtain ⟨f, hf⟩ : ∃ f, 10 - k = f + 1 := ⟨9 - k, by omega⟩
    have hp : k < s.size := by omega
    have e := byteN_eq s k hp
    rw [hb k hlt] at e
    rw [hf, run_more s f k k u hp (by omega) (by omega), show f = 10 - (k + 1) from by omega]
    exact ih (k + 1) (by omega) (by omega) _
end Go.Proofs.YtkkoeaohmfdlgaaDoor.Nm2
