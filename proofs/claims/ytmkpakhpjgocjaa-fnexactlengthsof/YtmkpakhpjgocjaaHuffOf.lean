/- Plain mathematics of lengths: counts made more alike till no length is above 12. -/
import Derived.Test.YtmkpakhpjgocjaaHuffBound
namespace Go.Proofs.Ytmkpakhpjgocjaa.Hf

/-- a tree for each count above 0 of the first i -/
def trees (c : List Nat) : Nat → List Tree
  | 0 => []
  | i + 1 => if 0 < c.getD i 0 then trees c i ++ [(c.getD i 0, [i])] else trees c i
theorem trees_length (c : List Nat) : ∀ i, (trees c i).length ≤ i
  | 0 => Nat.le_refl _
  | i + 1 => by
    rw [trees]
    have := trees_length c i
    split
    · rw [List.length_append]
      simp
      exact this
    · omega
theorem trees_mem (c : List Nat) : ∀ i t, t ∈ trees c i → ∃ j, j < i ∧ 0 < c.getD j 0 ∧ t = (c.getD j 0, [j])
  | 0, t, h => absurd h (List.not_mem_nil)
  | i + 1, t, h => by
    rw [trees] at h
    split at h
    · rcases List.mem_append.1 h with h | h
      · obtain ⟨j, hj, hr⟩ := trees_mem c i t h
        exact ⟨j, by omega, hr⟩
      · exact ⟨i, by omega, by assumption, List.mem_singleton.1 h⟩
    · obtain ⟨j, hj, hr⟩ := trees_mem c i t h
      exact ⟨j, by omega, hr⟩
def zeros (n : Nat) : List Nat := List.replicate n 0
theorem dep_zeros (n s : Nat) : dep (zeros n) s = 0 := by
  unfold dep zeros
  rw [List.getD_eq_getElem?_getD, List.getElem?_replicate]
  split <;> rfl
theorem sum_take (c : List Nat) (i : Nat) (h : i < c.length) : (c.take (i + 1)).sum = (c.take i).sum + c.getD i 0 := by
  rw [List.take_add_one, List.getElem?_eq_getElem h, List.sum_append, List.getD_eq_getElem?_getD, List.getElem?_eq_getElem h]
  simp
theorem trees_inv (c : List Nat) : ∀ i, i ≤ c.length → Inv (trees c i) (zeros c.length) (c.take i).sum
  | 0, _ => ⟨fun t h => absurd h (List.not_mem_nil), fun t h => absurd h (List.not_mem_nil), fun t h => absurd h (List.not_mem_nil), List.Pairwise.nil, rfl, fun s _ => dep_zeros _ _⟩
  | i + 1, h => by
    have ih := trees_inv c i (by omega)
    rw [sum_take c i (by omega), trees]
    by_cases h0 : 0 < c.getD i 0
    · rw [if_pos h0]
      refine ⟨?_, ?_, ?_, ?_, ?_, fun s _ => dep_zeros _ _⟩
      · intro t ht s hs
        rw [dep_zeros]
        obtain ⟨j, _, hj, rfl⟩ := trees_mem c (i + 1) t (by rw [trees, if_pos h0]; exact ht)
        exact hj
      · intro t ht
        obtain ⟨j, _, hj, rfl⟩ := trees_mem c (i + 1) t (by rw [trees, if_pos h0]; exact ht)
        simp
      · intro t ht s hs
        obtain ⟨j, hji, hj, rfl⟩ := trees_mem c (i + 1) t (by rw [trees, if_pos h0]; exact ht)
        rw [List.mem_singleton.1 hs, show (zeros c.length).length = c.length from List.length_replicate ..]
        omega
      · refine List.pairwise_append.2 ⟨ih.pw, List.pairwise_singleton _ _, fun t ht u hu => ?_⟩
        obtain ⟨j, hji, hj, rfl⟩ := trees_mem c i t ht
        rw [List.mem_singleton.1 hu]
        refine ⟨fun s _ => ?_, fun s _ => ?_, fun s hs hs' => ?_⟩
        · rw [dep_zeros]
          exact h0
        · rw [dep_zeros]
          exact hj
        · have e1 := List.mem_singleton.1 hs
          have e2 := List.mem_singleton.1 hs'
          omega
      · rw [List.map_append, List.sum_append, ih.sum]
        simp
    · rw [if_neg h0, show c.getD i 0 = 0 by omega]
      exact ih
/-- the lengths of counts, however long -/
def depths (c : List Nat) : List Nat :=
  if (trees c c.length).length = 1 then (zeros c.length).set ((at0 (trees c c.length) 0).2.getD 0 0) 1 else run (trees c c.length).length (trees c c.length) (zeros c.length)
theorem depths_length (c : List Nat) : (depths c).length = c.length := by
  unfold depths
  split
  · rw [List.length_set]
    exact List.length_replicate ..
  · rw [run_length]
    exact List.length_replicate ..
theorem depths_bound (c : List Nat) (s : Nat) : dep (depths c) s ≤ 1 ∨ fib (dep (depths c) s + 2) ≤ c.sum := by
  unfold depths
  split
  · refine .inl ?_
    unfold dep
    rw [List.getD_eq_getElem?_getD, List.getElem?_set]
    split
    · split
      · exact Nat.le_refl _
      · exact Nat.zero_le _
    · have := dep_zeros c.length s
      unfold dep at this
      rw [List.getD_eq_getElem?_getD] at this
      omega
  · have h := trees_inv c c.length (Nat.le_refl _)
    rw [List.take_length] at h
    rcases run_bound (trees c c.length).length _ _ _ h s with h | h
    · exact .inl (by omega)
    · exact .inr h
def okay (d : List Nat) : Bool := d.all (fun x => decide (x ≤ 12))
theorem sum_le (c : List Nat) (m : Nat) (h : ∀ x ∈ c, x ≤ m) : c.sum ≤ m * c.length := by
  induction c with
  | nil => simp
  | cons x c ih =>
    have h1 := ih fun y hy => h y (List.mem_cons_of_mem _ hy)
    have h2 := h x (List.mem_cons_self ..)
    rw [List.sum_cons, List.length_cons, Nat.mul_add]
    omega
/-- of counts of 1 and 2 no length is above 12 -/
theorem okay_small (c : List Nat) (h : ∀ x ∈ c, x ≤ 2) (hl : c.length ≤ 257) : okay (depths c) = true := by
  unfold okay
  rw [List.all_eq_true]
  intro x hx
  obtain ⟨j, hj, rfl⟩ := List.getElem_of_mem hx
  have hd : dep (depths c) j = (depths c)[j] := by
    unfold dep
    rw [List.getD_eq_getElem?_getD, List.getElem?_eq_getElem hj]
    rfl
  have hs := sum_le c 2 h
  rw [← hd]
  rcases depths_bound c j with h1 | h1
  · exact decide_eq_true (by omega)
  · refine decide_eq_true (Nat.le_of_not_lt fun h12 => ?_)
    have h2 := fib_mono (show 15 ≤ dep (depths c) j + 2 by omega)
    rw [show fib 15 = 610 from rfl] at h2
    omega
def flat (c : List Nat) : List Nat := c.map fun x => if 0 < x then x / 2 + 1 else 0
theorem flat_length (c : List Nat) : (flat c).length = c.length := by
  unfold flat
  rw [List.length_map]
theorem flat_le (c : List Nat) : (flat c).sum ≤ c.sum := by
  unfold flat
  induction c with
  | nil => exact Nat.le_refl _
  | cons x c ih =>
    rw [List.map_cons, List.sum_cons, List.sum_cons]
    split <;> omega
theorem flat_lt (c : List Nat) (h : ∃ x ∈ c, 3 ≤ x) : (flat c).sum < c.sum := by
  induction c with
  | nil =>
    obtain ⟨x, hx, _⟩ := h
    cases hx
  | cons x c ih =>
    have hle := flat_le c
    unfold flat at hle ih ⊢
    rw [List.map_cons, List.sum_cons, List.sum_cons]
    obtain ⟨y, hy, h3⟩ := h
    rcases List.mem_cons.1 hy with rfl | hy
    · rw [if_pos (by omega)]
      omega
    · have := ih ⟨y, hy, h3⟩
      split <;> omega
theorem flat_more (c : List Nat) (hl : c.length ≤ 257) (h : ¬ okay (depths c) = true) : (flat c).sum < c.sum := by
  refine flat_lt c (Classical.byContradiction fun hn => h (okay_small c (fun x hx => ?_) hl))
  refine Nat.le_of_not_lt fun h3 => hn ⟨x, hx, h3⟩
/-- the lengths of counts -/
def ofN : Nat → List Nat → List Nat
  | 0, c => depths c
  | f + 1, c => if okay (depths c) = true then depths c else ofN f (flat c)
theorem ofN_more (f : Nat) : ∀ (c : List Nat) (g : Nat), c.length ≤ 257 → c.sum ≤ f → c.sum ≤ g → ofN f c = ofN g c := by
  induction f with
  | zero =>
    intro c g hl hf _
    have hz : okay (depths c) = true := Classical.byContradiction fun h => by
      have := flat_more c hl h
      omega
    cases g with
    | zero => rfl
    | succ g => rw [ofN, ofN, if_pos hz]
  | succ f ih =>
    intro c g hl hf hg
    rw [ofN]
    by_cases h : okay (depths c) = true
    · rw [if_pos h]
      cases g with
      | zero => rfl
      | succ g => rw [ofN, if_pos h]
    · have hlt := flat_more c hl h
      rw [if_neg h]
      cases g with
      | zero => omega
      | succ g =>
        rw [ofN, if_neg h]
        exact ih (flat c) g (by rw [flat_length]; exact hl) (by omega) (by omega)
def lenOf (c : List Nat) : List Nat := ofN c.sum c
theorem lenOf_yes (c : List Nat) (h : okay (depths c) = true) : lenOf c = depths c := by
  unfold lenOf
  cases c.sum with
  | zero => rfl
  | succ f => rw [ofN, if_pos h]
theorem lenOf_no (c : List Nat) (hl : c.length ≤ 257) (h : ¬ okay (depths c) = true) : lenOf c = lenOf (flat c) := by
  have hlt := flat_more c hl h
  unfold lenOf
  obtain ⟨f, hf⟩ : ∃ f, c.sum = f + 1 := ⟨c.sum - 1, by omega⟩
  rw [hf, ofN, if_neg h]
  exact ofN_more f (flat c) _ (by rw [flat_length]; exact hl) (by omega) (Nat.le_refl _)
end Go.Proofs.Ytmkpakhpjgocjaa.Hf
