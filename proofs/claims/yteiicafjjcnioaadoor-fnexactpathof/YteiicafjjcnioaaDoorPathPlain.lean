/- Plain mathematics of paths. -/
import Derived.Test.YteiicafjjcnioaaDoorTreePlain
namespace Go.Proofs.YteiicafjjcnioaaDoor.Tr

/-- the path of one of right entries -/
def path (l : List ByteArray) (i : Nat) : List ByteArray :=
  if _h : l.length ≤ 1 then []
  else if i < half l.length then path (l.take (half l.length)) i ++ [tree (l.drop (half l.length))]
  else path (l.drop (half l.length)) (i - half l.length) ++ [tree (l.take (half l.length))]
termination_by l.length
decreasing_by
  · have := half_lt l.length (by omega)
    simp
    omega
  · have := half_pos l.length
    simp
    omega
theorem path_one (l : List ByteArray) (i : Nat) (h : l.length ≤ 1) : path l i = [] := by rw [path, dif_pos h]
theorem path_left (l : List ByteArray) (i : Nat) (h : 2 ≤ l.length) (hi : i < half l.length) : path l i = path (l.take (half l.length)) i ++ [tree (l.drop (half l.length))] := by
  rw [path, dif_neg (by omega), if_pos hi]
theorem path_right (l : List ByteArray) (i : Nat) (h : 2 ≤ l.length) (hi : ¬ i < half l.length) : path l i = path (l.drop (half l.length)) (i - half l.length) ++ [tree (l.take (half l.length))] := by
  rw [path, dif_neg (by omega), if_neg hi]
theorem path_length : ∀ (m : Nat) (l : List ByteArray) (i : Nat), l.length ≤ m → (path l i).length ≤ l.length
  | 0, l, i, h => by
    rw [path_one l i (by omega)]
    simp
  | m + 1, l, i, h => by
    by_cases h1 : l.length ≤ 1
    · rw [path_one l i h1]
      simp
    · have h2 := half_lt l.length (by omega)
      have h3 := half_pos l.length
      by_cases hi : i < half l.length
      · rw [path_left l i (by omega) hi]
        have := path_length m (l.take (half l.length)) i (by simp; omega)
        simp at this ⊢
        omega
      · rw [path_right l i (by omega) hi]
        have := path_length m (l.drop (half l.length)) (i - half l.length) (by simp; omega)
        simp at this ⊢
        omega
def pathR (l : List ByteArray) (i : Int) : List ByteArray := if right l = true ∧ 0 ≤ i ∧ i < l.length then path l i.toNat else []
end Go.Proofs.YteiicafjjcnioaaDoor.Tr
