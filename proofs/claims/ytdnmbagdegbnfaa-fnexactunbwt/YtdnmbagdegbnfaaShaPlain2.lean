/- Plain mathematics of SHA-256: the numbers of a chunk, their spread over the rounds. -/
import Derived.Test.YtdnmbagdegbnfaaShaPlain
namespace Go.Proofs.Ytdnmbagdegbnfaa.Sh

def part (B : Nat → Nat) (i : Nat) : Nat → Nat
  | 0 => 0
  | j + 1 => part B i j * 256 + B (4 * i + j)
def word (B : Nat → Nat) (i : Nat) : Nat := part B i 4

theorem part_lt (B : Nat → Nat) (hB : ∀ j, B j < 256) (i : Nat) : ∀ j, part B i j < 256 ^ j
  | 0 => by simp [part]
  | j + 1 => by
    have h := part_lt B hB i j
    have h2 := hB (4 * i + j)
    simp only [part, Nat.pow_succ]
    omega
theorem part_lt24 (B : Nat → Nat) (hB : ∀ j, B j < 256) (i j : Nat) (hj : j < 4) : part B i j < 16777216 := by
  have h := part_lt B hB i j
  have : (256 : Nat) ^ j ≤ 256 ^ 3 := Nat.pow_le_pow_right (by decide) (by omega)
  omega
theorem or_step (x b : Nat) (hx : x < 16777216) (hb : b < 256) : bits BinOp.or IntKind.u32 ((x : Int) * 256) (b : Int) = ((x * 256 + b : Nat) : Int) := by
  have := u32_or_nat (x * 256) b (by omega) (by omega)
  rw [nat_join 8 (x * 256) b (by omega) (by omega)] at this
  rw [← this]
  simp

def sm0 (x : Int) : Int := bits BinOp.xor IntKind.u32 (bits BinOp.xor IntKind.u32 (rotI x 7) (rotI x 18)) (x / 8)
def sm1 (x : Int) : Int := bits BinOp.xor IntKind.u32 (bits BinOp.xor IntKind.u32 (rotI x 17) (rotI x 19)) (x / 1024)

/-- w i of the document -/
def wv (B : Nat → Nat) (i : Nat) : Int :=
  if i < 16 then (word B i : Nat)
  else (wv B (i - 16) + sm0 (wv B (i - 15)) + wv B (i - 7) + sm1 (wv B (i - 2))) % 4294967296
termination_by i
decreasing_by all_goals omega

theorem wv_lo (B : Nat → Nat) (i : Nat) (h : i < 16) : wv B i = (word B i : Nat) := by rw [wv, if_pos h]
theorem wv_hi (B : Nat → Nat) (i : Nat) (h : ¬ i < 16) : wv B i = (wv B (i - 16) + sm0 (wv B (i - 15)) + wv B (i - 7) + sm1 (wv B (i - 2))) % 4294967296 := by rw [wv, if_neg h]
end Go.Proofs.Ytdnmbagdegbnfaa.Sh
