/- A merge in place at turns, in whole. -/
import Derived.Test.YtmkpakhpjgocjaaGreatPz22
import Derived.Test.YtmkpakhpjgocjaaGreatPz23
namespace Go.Proofs.YtmkpakhpjgocjaaGreat.So
open Go.RowKit Go.Sort Go.Proofs

theorem merge_T (T : Nat → ByteArray) (blk cap : Nat) : ∀ (N a m b : Nat) (d : Array Nat) (w : World), b - a ≤ N → HoldsK (encT T) 2 w blk 0 d → blk < w.heap.size → a < m → m < b → b ≤ d.size → d.size ≤ 1048576 → Ris (clT T) a m (dF d) → Ris (clT T) m b (dF d) → Sep a m b (dF d) →
    Calls Tryz.prog 100 #[.slice (some ⟨blk, 0, none⟩) d.size cap, .int .i64 a, .int .i64 m, .int .i64 b, .func (.func 74) #[] #[]] w fun e w' =>
      e = .returned (.tuple #[]) ∧ ∃ n d' os, w' = sortWorldK (encT T) 2 w blk 0 n d' os ∧ d'.size = d.size ∧ PermF a b (dF d) (dF d') ∧ Ris (clT T) a b (dF d') := by
  intro N
  induction N with
  | zero => intro a m b d w hN _ _ ham hmb; omega
  | succ N ih =>
    intro a m b d w hN hH hblk ham hmb hb hsz hr1 hr2 hsep
    by_cases hA : m = a + 1
    · subst hA
      exact mergeA_T T blk cap a b d w hH hblk hmb hb hsz hr2 hsep
    · by_cases hB : b = m + 1
      · subst hB
        exact mergeB_T T blk cap a m d w hH hblk (by omega) hb hsz hr1 hsep
      · by_cases hM : (a + b) / 2 < m
        · exact mergeH_T T blk cap a m b d w hH hblk (by omega) (by omega) hb hsz hr1 hr2 hsep hM (fun a' m' b' d' W h1 => ih a' m' b' d' W (by omega))
        · exact mergeL_T T blk cap a m b d w hH hblk (by omega) (by omega) hb hsz hr1 hr2 hsep (by omega) (fun a' m' b' d' W h1 => ih a' m' b' d' W (by omega))
end Go.Proofs.YtmkpakhpjgocjaaGreat.So
