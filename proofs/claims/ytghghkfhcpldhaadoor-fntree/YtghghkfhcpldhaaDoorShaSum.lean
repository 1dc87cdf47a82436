/- Plain mathematics of SHA-256: the digest of a text. -/
import Derived.Test.YtghghkfhcpldhaaDoorShaPlain3
import Derived.Test.YtghghkfhcpldhaaDoorShaPad
namespace Go.Proofs.YtghghkfhcpldhaaDoor.Sh

/-- the bytes of block k of a filled text -/
def blkB (t : ByteArray) (k j : Nat) : Nat := pad t (64 * k + j)
theorem blkB_lt (t : ByteArray) (k j : Nat) : blkB t k j < 256 := pad_lt t _
/-- the state behind k blocks -/
def shaS (t : ByteArray) : Nat → Nat → Int
  | 0 => firstF
  | k + 1 => blk (blkB t k) (shaS t k)
def outF (s : Nat → Int) (j : Nat) : Nat := (s (j / 4) / 2 ^ (24 - 8 * (j % 4)) % 256).toNat
theorem outF_lt (s : Nat → Int) (j : Nat) : outF s j < 256 := by unfold outF; omega
def sha (t : ByteArray) : ByteArray := strF 32 (outF (shaS t (chunks t.size)))
theorem sha_size (t : ByteArray) : (sha t).size = 32 := strF_size 32 _

/-- the digest's bytes, the first m written -/
def outK (s : Nat → Int) (m j : Nat) : Nat := if j < m then outF s j else 0
theorem outK_next (s : Nat → Int) (m j : Nat) (v : Int) (hv : v = ((outF s m : Nat) : Int)) : upd (fun j => ((outK s m j : Nat) : Int)) m v j = ((outK s (m + 1) j : Nat) : Int) := by
  subst hv
  unfold upd outK
  by_cases e : j = m
  · subst e; simp
  · have : (j < m + 1) = (j < m) := propext ⟨fun h => by omega, fun h => by omega⟩
    simp [e, this]
theorem outK_all (s : Nat → Int) : strF 32 (outK s 32) = strF 32 (outF s) := strF_congr 32 _ _ (fun j hj => by simp [outK, hj])
theorem outK_lt (s : Nat → Int) (m j : Nat) : outK s m j < 256 := by
  unfold outK
  split
  · exact outF_lt s j
  · decide
theorem outF_cast (s : Nat → Int) (m : Nat) : s (m / 4) / 2 ^ (24 - 8 * (m % 4)) % 256 = ((outF s m : Nat) : Int) := by
  unfold outF
  rw [Int.toNat_of_nonneg]
  omega
end Go.Proofs.YtghghkfhcpldhaaDoor.Sh
