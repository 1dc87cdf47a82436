/- Plain mathematics of trees of digests: where a list is cut, the tree of a list of texts. -/
import Derived.Test.YteiicafjjcnioaaDoorNodeTop
import Derived.Test.YteiicafjjcnioaaDoorStrRow
namespace Go.Proofs.YteiicafjjcnioaaDoor.Tr
open Go.Proofs.YteiicafjjcnioaaDoor.Sh (sha sha_size leafV nodeV leafV_size nodeV_size)

/-- the greatest power of two below a number above 1 -/
def half (n : Nat) : Nat := 2 ^ Nat.log2 (n - 1)
theorem half_pos (n : Nat) : 1 ≤ half n := Nat.one_le_two_pow
theorem half_lt (n : Nat) (h : 2 ≤ n) : half n < n := by
  have := Nat.log2_self_le (n := n - 1) (by omega)
  unfold half
  omega
theorem half_two (n : Nat) (h : 2 ≤ n) : n ≤ 2 * half n := by
  have := Nat.lt_log2_self (n := n - 1)
  unfold half
  rw [Nat.pow_succ] at this
  omega
theorem half_of (n i : Nat) (h1 : 2 ^ i < n) (h2 : n ≤ 2 * 2 ^ i) : half n = 2 ^ i := by
  unfold half
  congr 1
  refine (Nat.log2_eq_iff (by omega)).2 ⟨by omega, ?_⟩
  rw [Nat.pow_succ]
  omega

/-- the tree of a list of texts -/
def tree (l : List ByteArray) : ByteArray :=
  if h0 : l.length = 0 then sha ⟨#[]⟩
  else if h1 : l.length = 1 then leafV (l[0]'(by omega))
  else nodeV (tree (l.take (half l.length))) (tree (l.drop (half l.length)))
termination_by l.length
decreasing_by
  · have := half_lt l.length (by omega)
    simp
    omega
  · have := half_pos l.length
    simp
    omega
theorem tree_nil (l : List ByteArray) (h : l.length = 0) : tree l = sha ⟨#[]⟩ := by rw [tree, dif_pos h]
theorem tree_one (l : List ByteArray) (h : l.length = 1) : tree l = leafV (l[0]'(by omega)) := by rw [tree, dif_neg (by omega), dif_pos h]
theorem tree_two (l : List ByteArray) (h : 2 ≤ l.length) : tree l = nodeV (tree (l.take (half l.length))) (tree (l.drop (half l.length))) := by
  rw [tree, dif_neg (by omega), dif_neg (by omega)]
theorem tree_size (l : List ByteArray) : (tree l).size = 32 := by
  rw [tree]
  split
  · exact sha_size _
  · split
    · exact leafV_size _
    · exact nodeV_size _ _
/-- right entries -/
def right (l : List ByteArray) : Bool := decide (l.length ≤ 64) && l.all (fun s => decide (s.size ≤ 100))
theorem right_yes (l : List ByteArray) : right l = true ↔ l.length ≤ 64 ∧ ∀ j (h : j < l.length), l[j].size ≤ 100 := by
  unfold right
  simp only [Bool.and_eq_true, decide_eq_true_eq, List.all_eq_true]
  constructor
  · rintro ⟨h1, h2⟩
    exact ⟨h1, fun j hj => h2 _ (List.getElem_mem hj)⟩
  · rintro ⟨h1, h2⟩
    refine ⟨h1, fun s hs => ?_⟩
    obtain ⟨j, hj, rfl⟩ := List.getElem_of_mem hs
    exact h2 j hj
theorem right_long (l : List ByteArray) (h : 64 < l.length) : right l = false := by
  cases e : right l with
  | false => rfl
  | true => have := ((right_yes l).1 e).1; omega
theorem right_bad (l : List ByteArray) (j : Nat) (hj : j < l.length) (h : 100 < l[j].size) : right l = false := by
  cases e : right l with
  | false => rfl
  | true => have := ((right_yes l).1 e).2 j hj; omega
def treeR (l : List ByteArray) : ByteArray := if right l = true then tree l else ⟨#[]⟩
end Go.Proofs.YteiicafjjcnioaaDoor.Tr
