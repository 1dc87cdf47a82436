/- Plain mathematics of proofs that the first of right entries are the beginning of all. -/
import Derived.Test.YteiicafjjcnioaaDoorTreePlain
namespace Go.Proofs.YteiicafjjcnioaaDoor.Tr

def proof (l : List ByteArray) (m : Nat) (b : Bool) : List ByteArray :=
  if _h : l.length ≤ m ∨ l.length ≤ 1 then (if b = true then [] else [tree l])
  else if m ≤ half l.length then proof (l.take (half l.length)) m b ++ [tree (l.drop (half l.length))]
  else proof (l.drop (half l.length)) (m - half l.length) false ++ [tree (l.take (half l.length))]
termination_by l.length
decreasing_by
  · have := half_lt l.length (by omega)
    simp
    omega
  · have := half_pos l.length
    simp
    omega
theorem proof_whole (l : List ByteArray) (m : Nat) (h : l.length = m) : proof l m true = [] := by rw [proof, dif_pos (by omega), if_pos rfl]
theorem proof_part (l : List ByteArray) (m : Nat) (h : l.length = m) : proof l m false = [tree l] := by rw [proof, dif_pos (by omega), if_neg (by decide)]
theorem proof_left (l : List ByteArray) (m : Nat) (b : Bool) (h : 2 ≤ l.length) (hm : m < l.length) (hi : m ≤ half l.length) : proof l m b = proof (l.take (half l.length)) m b ++ [tree (l.drop (half l.length))] := by
  rw [proof, dif_neg (by omega), if_pos hi]
theorem proof_right (l : List ByteArray) (m : Nat) (b : Bool) (h : 2 ≤ l.length) (hm : m < l.length) (hi : ¬ m ≤ half l.length) : proof l m b = proof (l.drop (half l.length)) (m - half l.length) false ++ [tree (l.take (half l.length))] := by
  rw [proof, dif_neg (by omega), if_neg hi]
theorem proof_length : ∀ (f : Nat) (l : List ByteArray) (m : Nat) (b : Bool), l.length ≤ f → (proof l m b).length ≤ l.length + 1
  | 0, l, m, b, h => by
    rw [proof, dif_pos (by omega)]
    split
    · simp
    · simp
  | f + 1, l, m, b, h => by
    by_cases h1 : l.length ≤ m ∨ l.length ≤ 1
    · rw [proof, dif_pos h1]
      split
      · simp
      · simp
    · have h2 := half_lt l.length (by omega)
      have h3 := half_pos l.length
      by_cases hi : m ≤ half l.length
      · rw [proof_left l m b (by omega) (by omega) hi]
        have := proof_length f (l.take (half l.length)) m b (by simp; omega)
        simp at this ⊢
        omega
      · rw [proof_right l m b (by omega) (by omega) hi]
        have := proof_length f (l.drop (half l.length)) (m - half l.length) false (by simp; omega)
        simp at this ⊢
        omega
def proofR (l : List ByteArray) (i : Int) : List ByteArray := if right l = true ∧ 1 ≤ i ∧ i ≤ l.length then proof l i.toNat true else []
theorem proofR_yes (l : List ByteArray) (i : Nat) (h : right l = true) (h1 : 1 ≤ i) (hi : i ≤ l.length) : proofR l i = proof l i true := by
  unfold proofR
  rw [if_pos ⟨h, by omega, by omega⟩]
  rfl
theorem proofR_no (l : List ByteArray) (i : Int) (h : ¬ (right l = true ∧ 1 ≤ i ∧ i ≤ l.length)) : proofR l i = [] := if_neg h
theorem proofR_length (l : List ByteArray) (i : Int) : (proofR l i).length ≤ 65 := by
  unfold proofR
  split
  · rename_i h
    have h1 := ((right_yes l).1 h.1).1
    have h2 := proof_length _ l i.toNat true (Nat.le_refl _)
    omega
  · simp
end Go.Proofs.YteiicafjjcnioaaDoor.Tr
