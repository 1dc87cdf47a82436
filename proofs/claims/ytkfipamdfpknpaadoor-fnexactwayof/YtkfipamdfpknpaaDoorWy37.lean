/- Texts put together: BlkPlain. -/
import Derived.WalkKit
/- Plain mathematics of Blocks: the pieces of a file, one behind the other. -/
namespace Go.Proofs.YtkfipamdfpknpaaDoor.Bk
def blks (s : ByteArray) (k : Nat) : Nat → List ByteArray
 | 0 => []
 | n + 1 => blks s k n ++ [s.extract (n * k) (min (n * k + k) s.size)]
def cnt (p k : Nat) : Nat := (p + k - 1) / k
def fineB (p : Nat) (size : Int) : Bool := decide (p ≤ 1000 ∧ 1 ≤ size ∧ size ≤ 48 ∧ (p : Int) ≤ size * 64)
def blocksR (s : ByteArray) (size : Int) : List ByteArray := if fineB s.size size = true then blks s size.toNat (cnt s.size size.toNat) else []
def rest (s : ByteArray) (k j : Nat) : ByteArray := s.extract (j * k) s.size
end Go.Proofs.YtkfipamdfpknpaaDoor.Bk

