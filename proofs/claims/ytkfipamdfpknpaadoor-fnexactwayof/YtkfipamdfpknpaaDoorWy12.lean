/- Texts put together: ShaSum, ShaLaws2. -/
import Derived.Test.YtkfipamdfpknpaaDoorWy4
import Derived.Test.YtkfipamdfpknpaaDoorWy11
import Derived.Test.YtkfipamdfpknpaaDoorWy2
import Derived.StillTailTactics
/- Plain mathematics of SHA-256: the digest of a text. -/
namespace Go.Proofs.YtkfipamdfpknpaaDoor.Sh
def blkB (t : ByteArray) (k j : Nat) : Nat := pad t (64 * k + j)
theorem blkB_lt (t : ByteArray) (k j : Nat) : blkB t k j < 256 := pad_lt t _
def shaS (t : ByteArray) : Nat → Nat → Int
 | 0 => firstF
 | k + 1 => blk (blkB t k) (shaS t k)
def outF (s : Nat → Int) (j : Nat) : Nat := (s (j / 4) / 2 ^ (24 - 8 * (j % 4)) % 256).toNat
theorem outF_lt (s : Nat → Int) (j : Nat) : outF s j < 256 := by unfold outF; omega
def sha (t : ByteArray) : ByteArray := strF 32 (outF (shaS t (chunks t.size)))
theorem sha_size (t : ByteArray) : (sha t).size = 32 := strF_size 32 _
def outK (s : Nat → Int) (m j : Nat) : Nat := if j < m then outF s j else 0
theorem outK_next (s : Nat → Int) (m j : Nat) (v : Int) (hv : v = ((outF s m : Nat) : Int)) : upd (fun j => ((outK s m j : Nat) : Int)) m v j = ((outK s (m + 1) j : Nat) : Int) := by
 subst hv
 unfold upd outK
 by_cases e : j = m
 ·subst e; simp
 ·have : (j < m + 1) = (j < m) := propext ⟨fun h => by omega, fun h => by omega⟩
  simp [e, this]
theorem outK_all (s : Nat → Int) : strF 32 (outK s 32) = strF 32 (outF s) := strF_congr 32 _ _ (fun j hj => by simp [outK, hj])
theorem outK_lt (s : Nat → Int) (m j : Nat) : outK s m j < 256 := by
 unfold outK
 split
 ·exact outF_lt s j
 ·decide
theorem outF_cast (s : Nat → Int) (m : Nat) : s (m / 4) / 2 ^ (24 - 8 * (m % 4)) % 256 = ((outF s m : Nat) : Int) := by
 unfold outF
 rw [Int.toNat_of_nonneg]
 omega
end Go.Proofs.YtkfipamdfpknpaaDoor.Sh


/- A law on one operation in the still head of a region that draws its order: a whole array of numbers loaded out of its block. -/
namespace Go.Proofs.YtkfipamdfpknpaaDoor.Sh
open Go.RowKit
theorem wpStill_load_row {P : Program} {w : World} {ops : Array Oper} {rest : List Oper} {a : Act} {Q : Act → Prop} {d : Tmp} {p : Operand} {ty tt : TypeId} {pos : String} {af : Array Edge}
  {g : Nat} {t : TypeId} {k : IntKind} {n : Nat} {f : Nat → Int} {e : TypeId} (hb : IsB w g t k n f) (hu : P.underlying ty = some (.array n e)) (hi : (P.info? ty).map (·.size) = some n)
  (hp : a.eval p = .pointer (some ⟨g, 0, none⟩)) (h : wpStill P ops w Q rest (a.put (some d) (.agg (rowF k n f)))) :
  wpStill P ops w Q (⟨some d, .load ty p, tt, pos, af, none⟩ :: rest) a := by
 refine wpStill_step fun K hK => ?_
 have hl := hb.loadAt (P := P) ty e hu hi
 simp [Region.wanted, Oper.still, Oper.stillUpon, execOp, hp, hl, Result.andThen]
 exact hK _ h
end Go.Proofs.YtkfipamdfpknpaaDoor.Sh

