/- Plain mathematics of lengths: trees are put together, the two least ones first; of counts of 1 and 2 no length comes above 12. -/
import Derived.WalkKit
namespace Go.Proofs.Ytmkpakhpjgocjaa.Hf

/-- a tree: its weight, its symbols -/
abbrev Tree := Nat × List Nat
def wt (l : List Tree) (i : Nat) : Nat := (l.getD i (0, [])).1
/-- the first of the least among the first i -/
def least (l : List Tree) : Nat → Nat
  | 0 => 0
  | i + 1 => if wt l i < wt l (least l i) then i else least l i
theorem least_le (l : List Tree) : ∀ i, least l i ≤ i - 1
  | 0 => Nat.le_refl _
  | i + 1 => by
    rw [least]
    have := least_le l i
    split <;> omega
theorem least_lt (l : List Tree) (h : 0 < l.length) : least l l.length < l.length := by
  have := least_le l l.length
  omega
theorem least_min (l : List Tree) : ∀ i j, j < i → wt l (least l i) ≤ wt l j
  | 0, j, h => by omega
  | i + 1, j, h => by
    rw [least]
    by_cases hj : j = i
    · subst hj
      split <;> omega
    · have := least_min l i j (by omega)
      split <;> omega
def at0 (l : List Tree) (i : Nat) : Tree := l.getD i (0, [])
/-- the two least ones, and what is left -/
def first (l : List Tree) : Tree := at0 l (least l l.length)
def rest1 (l : List Tree) : List Tree := l.eraseIdx (least l l.length)
def second (l : List Tree) : Tree := first (rest1 l)
def rest2 (l : List Tree) : List Tree := rest1 (rest1 l)
def both (l : List Tree) : Tree := ((first l).1 + (second l).1, (first l).2 ++ (second l).2)
def join (l : List Tree) : List Tree := rest2 l ++ [both l]
theorem rest1_length (l : List Tree) (h : 0 < l.length) : (rest1 l).length = l.length - 1 := by
  unfold rest1
  rw [List.length_eraseIdx, if_pos (least_lt l h)]
theorem rest2_length (l : List Tree) (h : 2 ≤ l.length) : (rest2 l).length = l.length - 2 := by
  unfold rest2
  rw [rest1_length _ (by rw [rest1_length l (by omega)]; omega), rest1_length l (by omega)]
  omega
theorem join_length (l : List Tree) (h : 2 ≤ l.length) : (join l).length = l.length - 1 := by
  unfold join
  rw [List.length_append, rest2_length l h]
  simp
  omega
/-- one more for each of some symbols -/
def incs (d : List Nat) (s : List Nat) : List Nat := s.foldl (fun d k => d.set k (d.getD k 0 + 1)) d
theorem incs_length (s : List Nat) : ∀ d, (incs d s).length = d.length := by
  unfold incs
  induction s with
  | nil => intro d; rfl
  | cons k s ih =>
    intro d
    rw [List.foldl_cons, ih, List.length_set]
theorem getD_set (d : List Nat) (k j v : Nat) (hk : k < d.length) : (d.set k v).getD j 0 = if j = k then v else d.getD j 0 := by
  rw [List.getD_eq_getElem?_getD, List.getElem?_set]
  by_cases h : k = j
  · subst h
    rw [if_pos rfl, if_pos hk, if_pos rfl]
    rfl
  · rw [if_neg h, if_neg (fun e => h e.symm), List.getD_eq_getElem?_getD]
theorem incs_at (s : List Nat) : ∀ (d : List Nat) (j : Nat), s.Nodup → (∀ k ∈ s, k < d.length) → (incs d s).getD j 0 = if j ∈ s then d.getD j 0 + 1 else d.getD j 0 := by
  unfold incs
  induction s with
  | nil => intro d j _ _; simp
  | cons k s ih =>
    intro d j hn hk
    obtain ⟨h1, h2⟩ := List.nodup_cons.1 hn
    have hkd := hk k (List.mem_cons_self ..)
    rw [List.foldl_cons, ih (d.set k (d.getD k 0 + 1)) j h2 (fun x hx => by rw [List.length_set]; exact hk x (List.mem_cons_of_mem _ hx)), getD_set _ _ _ _ hkd]
    by_cases hj : j = k
    · subst hj
      rw [if_neg h1, if_pos rfl, if_pos (List.mem_cons_self ..)]
    · rw [if_neg hj]
      by_cases hs : j ∈ s
      · rw [if_pos hs, if_pos (List.mem_cons_of_mem _ hs)]
      · rw [if_neg hs, if_neg (fun h => by rcases List.mem_cons.1 h with h | h; exact hj h; exact hs h)]
/-- all is put together -/
def run : Nat → List Tree → List Nat → List Nat
  | 0, _, d => d
  | f + 1, l, d => if l.length ≤ 1 then d else run f (join l) (incs (incs d (first l).2) (second l).2)
theorem run_done (f : Nat) (l : List Tree) (d : List Nat) (h : l.length ≤ 1) : run f l d = d := by
  cases f with
  | zero => rfl
  | succ f => rw [run, if_pos h]
theorem run_more (l : List Tree) (d : List Nat) (h : ¬ l.length ≤ 1) : run l.length l d = run (join l).length (join l) (incs (incs d (first l).2) (second l).2) := by
  rw [join_length l (by omega)]
  obtain ⟨f, hf⟩ : ∃ f, l.length = f + 1 := ⟨l.length - 1, by omega⟩
  rw [hf, run, if_neg h]
  rfl
end Go.Proofs.Ytmkpakhpjgocjaa.Hf
