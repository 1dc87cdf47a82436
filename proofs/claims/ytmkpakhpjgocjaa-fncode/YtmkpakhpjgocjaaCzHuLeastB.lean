/- Plain mathematics: the first of the least but one, and what is left. -/
import Derived.Test.YtmkpakhpjgocjaaCz0
namespace Go.Proofs.Ytmkpakhpjgocjaa.Hf

/-- the first of the least among the first i, but for a -/
def lb (l : List Tree) (a : Nat) : Nat → Option Nat
  | 0 => none
  | i + 1 => if i = a then lb l a i else match lb l a i with
    | none => some i
    | some k => if wt l i < wt l k then some i else some k
def shift (a b : Nat) : Nat := if b < a then b else b + 1
theorem wt_low (l : List Tree) (a j : Nat) (h : j < a) : wt (l.eraseIdx a) j = wt l j := by
  unfold wt
  rw [List.getD_eq_getElem?_getD, List.getD_eq_getElem?_getD, List.getElem?_eraseIdx_of_lt h]
theorem wt_high (l : List Tree) (a j : Nat) (h : a ≤ j) : wt (l.eraseIdx a) j = wt l (j + 1) := by
  unfold wt
  rw [List.getD_eq_getElem?_getD, List.getD_eq_getElem?_getD, List.getElem?_eraseIdx_of_ge h]
theorem wt_shift (l : List Tree) (a b : Nat) : wt (l.eraseIdx a) b = wt l (shift a b) := by
  unfold shift
  split
  · exact wt_low l a b (by assumption)
  · exact wt_high l a b (by omega)
theorem lb_low (l : List Tree) (a : Nat) : ∀ i, i ≤ a → lb l a i = if i = 0 then none else some (shift a (least (l.eraseIdx a) i))
  | 0, _ => rfl
  | i + 1, h => by
    have ih := lb_low l a i (by omega)
    have hle := least_le (l.eraseIdx a) i
    rw [lb, if_neg (by omega), ih, if_neg (Nat.succ_ne_zero i), least]
    by_cases h0 : i = 0
    · subst h0
      rw [if_pos rfl]
      show some 0 = _
      have : least (l.eraseIdx a) 0 = 0 := rfl
      rw [this, if_neg (Nat.lt_irrefl _)]
      unfold shift
      rw [if_pos (by omega)]
    · rw [if_neg h0]
      simp only
      rw [wt_low l a i (by omega), wt_shift l a (least (l.eraseIdx a) i)]
      by_cases hw : wt l i < wt l (shift a (least (l.eraseIdx a) i))
      · rw [if_pos hw, if_pos hw]
        unfold shift
        rw [if_pos (by omega)]
      · rw [if_neg hw, if_neg hw]
theorem lb_high (l : List Tree) (a : Nat) : ∀ i, lb l a (a + 1 + i) = if a + i = 0 then none else some (shift a (least (l.eraseIdx a) (a + i)))
  | 0 => by
    rw [Nat.add_zero, lb, if_pos rfl, lb_low l a a (Nat.le_refl _), Nat.add_zero]
  | i + 1 => by
    have ih := lb_high l a i
    have hle := least_le (l.eraseIdx a) (a + i)
    rw [show a + 1 + (i + 1) = (a + 1 + i) + 1 by omega, lb, if_neg (by omega), ih, show a + (i + 1) = (a + i) + 1 by omega, if_neg (Nat.succ_ne_zero _), least]
    have hs : shift a (a + i) = a + 1 + i := by
      unfold shift
      rw [if_neg (by omega)]
      omega
    by_cases h0 : a + i = 0
    · rw [if_pos h0]
      simp only
      have h00 : least (l.eraseIdx a) (a + i) = 0 := by rw [h0]; rfl
      rw [h00, h0, if_neg (Nat.lt_irrefl _), ← hs, h0]
    · rw [if_neg h0]
      simp only
      rw [wt_high l a (a + i) (by omega), show a + i + 1 = a + 1 + i by omega, wt_shift l a (least (l.eraseIdx a) (a + i))]
      by_cases hw : wt l (a + 1 + i) < wt l (shift a (least (l.eraseIdx a) (a + i)))
      · rw [if_pos hw, if_pos hw, hs]
      · rw [if_neg hw, if_neg hw]
/-- the second of the two least ones -/
theorem lb_all (l : List Tree) (a n : Nat) (ha : a < n) (h2 : 2 ≤ n) : lb l a n = some (shift a (least (l.eraseIdx a) (n - 1))) := by
  have := lb_high l a (n - (a + 1))
  rw [show a + 1 + (n - (a + 1)) = n by omega, show a + (n - (a + 1)) = n - 1 by omega, if_neg (by omega)] at this
  exact this
end Go.Proofs.Ytmkpakhpjgocjaa.Hf
