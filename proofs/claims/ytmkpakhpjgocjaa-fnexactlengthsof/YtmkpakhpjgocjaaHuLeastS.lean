/- For the walk of l04Least: the least but one, step by step. -/
import Derived.Test.YtmkpakhpjgocjaaHuLeastB
import Derived.Test.YtmkpakhpjgocjaaHuRow
namespace Go.Proofs.Ytmkpakhpjgocjaa.Hf
open Go.RowKit

def oi : Option Nat → Int
  | none => -1
  | some k => (k : Int)
theorem lb_lt (l : List Tree) (a : Nat) : ∀ i k, lb l a i = some k → k < i
  | 0, k, h => by cases h
  | i + 1, k, h => by
    rw [lb] at h
    split at h
    · have := lb_lt l a i k h
      omega
    · split at h
      · simp at h
        omega
      · rename_i k' hk'
        have := lb_lt l a i k' hk'
        split at h <;> simp at h <;> omega
theorem lb_none {l : List Tree} {a i : Nat} (h : lb l a i = none) (hia : ¬ i = a) : lb l a (i + 1) = some i := by
  rw [lb, if_neg hia, h]
theorem lb_some {l : List Tree} {a i k : Nat} (h : lb l a i = some k) (hia : ¬ i = a) : lb l a (i + 1) = if wt l i < wt l k then some i else some k := by
  rw [lb, if_neg hia, h]
theorem drewN_two (w : World) (d e : Nat) : (w.drewN d).drewN e = w.drewN (d + e) := by simp [World.drewN, Nat.add_assoc]
end Go.Proofs.Ytmkpakhpjgocjaa.Hf
