/- A merge in place at places, in whole. -/
import Derived.Test.YtdnmbagdegbnfaaSoMrgAI
import Derived.Test.YtdnmbagdegbnfaaSoMrgBI
import Derived.Test.YtdnmbagdegbnfaaSoMrgHI
import Derived.Test.YtdnmbagdegbnfaaSoMrgLI
namespace Go.Proofs.Ytdnmbagdegbnfaa.So
open Go.RowKit Go.Sort Go.Proofs

theorem merge_I (T : ByteArray) (cc : Nat) (blk cap : Nat) (hcb0 : cc ≠ blk) : ∀ (N a m b : Nat) (d : Array Nat) (w : World), b - a ≤ N → HoldsK encI 1 w blk 0 d → blk < w.heap.size → a < m → m < b → b ≤ d.size → d.size ≤ 1048576 → Cap w cc T → (∀ i, dF d i < T.size) → Ris (clI T) a m (dF d) → Ris (clI T) m b (dF d) → Sep a m b (dF d) →
    Calls Try.prog 162 #[.slice (some ⟨blk, 0, none⟩) d.size cap, .int .i64 a, .int .i64 m, .int .i64 b, .func (.func 152) #[] #[.pointer (some ⟨cc, 0, none⟩)]] w fun e w' =>
      e = .returned (.tuple #[]) ∧ ∃ n d' os, w' = sortWorldK encI 1 w blk 0 n d' os ∧ d'.size = d.size ∧ PermF a b (dF d) (dF d') ∧ Ris (clI T) a b (dF d') := by
  intro N
  induction N with
  | zero => intro a m b d w hN _ _ ham hmb; omega
  | succ N ih =>
    intro a m b d w hN hH hblk ham hmb hb hsz hcap hbd hr1 hr2 hsep
    by_cases hA : m = a + 1
    · subst hA
      exact mergeA_I T cc blk cap a b d w hH hblk hmb hb hsz hcap hcb0 hbd hr2 hsep
    · by_cases hB : b = m + 1
      · subst hB
        exact mergeB_I T cc blk cap a m d w hH hblk (by omega) hb hsz hcap hcb0 hbd hr1 hsep
      · by_cases hM : (a + b) / 2 < m
        · exact mergeH_I T cc blk cap a m b d w hH hblk (by omega) (by omega) hb hsz hcap hcb0 hbd hr1 hr2 hsep hM (fun a' m' b' d' W h1 => ih a' m' b' d' W (by omega))
        · exact mergeL_I T cc blk cap a m b d w hH hblk (by omega) (by omega) hb hsz hcap hcb0 hbd hr1 hr2 hsep (by omega) (fun a' m' b' d' W h1 => ih a' m' b' d' W (by omega))
end Go.Proofs.Ytdnmbagdegbnfaa.So
