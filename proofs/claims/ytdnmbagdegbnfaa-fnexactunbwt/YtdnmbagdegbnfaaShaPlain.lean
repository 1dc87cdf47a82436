/- Plain mathematics of SHA-256, in the spellings of the model's own operations on numbers of 32 bits: turns, the spread of a chunk, the rounds. -/
import Derived.Laws.BitsAllLaws
namespace Go.Proofs.Ytdnmbagdegbnfaa.Sh

def rot (x : Int) (k : Nat) : Int := bits BinOp.or IntKind.u32 (x / 2 ^ k) (x * 2 ^ (32 - k) % 4294967296)

def rotI (x K : Int) : Int := rot x K.toNat

theorem or_comm32 (a b : Int) : bits BinOp.or IntKind.u32 a b = bits BinOp.or IntKind.u32 b a := by
  show IntKind.u32.wrap ((BitVec.ofInt 32 a ||| BitVec.ofInt 32 b).toNat : Int) = IntKind.u32.wrap ((BitVec.ofInt 32 b ||| BitVec.ofInt 32 a).toNat : Int)
  rw [BitVec.or_comm]

theorem neg_mask (k m : Nat) (hk : 0 < k) (hm : 0 < m) (h : k + m = 32) : bits BinOp.and IntKind.u64 (IntKind.u64.wrap (-(k : Int))) 31 = (m : Int) := by
  have e : IntKind.u64.wrap (-(k : Int)) = ((18446744073709551616 - k : Nat) : Int) := by
    simp [IntKind.wrap, IntKind.bits, IntKind.signed]
    omega
  rw [e]
  have := u64_and_nat (18446744073709551616 - k) 31 (by omega) (by decide)
  rw [nat_mask5] at this
  refine Eq.trans this ?_
  omega
end Go.Proofs.Ytdnmbagdegbnfaa.Sh
