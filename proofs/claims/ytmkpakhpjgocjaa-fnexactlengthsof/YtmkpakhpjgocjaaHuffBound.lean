/- Plain mathematics of lengths: how deep trees come to be. -/
import Derived.Test.YtmkpakhpjgocjaaHuffPlain
namespace Go.Proofs.Ytmkpakhpjgocjaa.Hf

def fib : Nat → Nat
  | 0 => 0
  | 1 => 1
  | n + 2 => fib n + fib (n + 1)
theorem fib_le (n : Nat) : fib n ≤ fib (n + 1) := by
  cases n with
  | zero => decide
  | succ n =>
    rw [show fib (n + 1 + 1) = fib n + fib (n + 1) from rfl]
    omega
theorem fib_mono {m n : Nat} (h : m ≤ n) : fib m ≤ fib n := by
  induction n with
  | zero =>
    have : m = 0 := by omega
    rw [this]
    exact Nat.le_refl _
  | succ n ih =>
    by_cases hm : m = n + 1
    · rw [hm]
      exact Nat.le_refl _
    · exact Nat.le_trans (ih (by omega)) (fib_le n)
def dep (d : List Nat) (s : Nat) : Nat := d.getD s 0
/-- two trees: neither is too light for the other's depth, and they have no symbol in common -/
def sep (d : List Nat) (t u : Tree) : Prop := (∀ s ∈ t.2, fib (dep d s + 1) ≤ u.1) ∧ (∀ s ∈ u.2, fib (dep d s + 1) ≤ t.1) ∧ ∀ s ∈ t.2, s ∉ u.2
theorem sep_symm {d : List Nat} {t u : Tree} (h : sep d t u) : sep d u t := ⟨h.2.1, h.1, fun s hs ht => h.2.2 s ht hs⟩
structure Inv (l : List Tree) (d : List Nat) (n : Nat) : Prop where
  own : ∀ t ∈ l, ∀ s ∈ t.2, fib (dep d s + 2) ≤ t.1
  nd : ∀ t ∈ l, t.2.Nodup
  lt : ∀ t ∈ l, ∀ s ∈ t.2, s < d.length
  pw : l.Pairwise (sep d)
  sum : (l.map (·.1)).sum = n
  out : ∀ s, (∀ t ∈ l, s ∉ t.2) → dep d s = 0
theorem Inv.perm {l l' : List Tree} {d : List Nat} {n : Nat} (h : Inv l d n) (p : l.Perm l') : Inv l' d n :=
  ⟨fun t ht => h.own t (p.mem_iff.2 ht), fun t ht => h.nd t (p.mem_iff.2 ht), fun t ht => h.lt t (p.mem_iff.2 ht), (p.pairwise_iff sep_symm).1 h.pw, (p.map _).sum_nat.symm.trans h.sum, fun s hs => h.out s fun t ht => hs t (p.mem_iff.1 ht)⟩
theorem first_mem (l : List Tree) (h : 0 < l.length) : first l = l[least l l.length]'(least_lt l h) := by
  unfold first at0
  rw [List.getD_eq_getElem?_getD, List.getElem?_eq_getElem (least_lt l h)]
  rfl
theorem erase_perm : ∀ (l : List Tree) (i : Nat) (h : i < l.length), l.Perm (l[i] :: l.eraseIdx i)
  | [], i, h => absurd h (Nat.not_lt_zero i)
  | _ :: _, 0, _ => List.Perm.refl _
  | x :: l, i + 1, h => ((erase_perm l i (Nat.lt_of_succ_lt_succ h)).cons x).trans (List.Perm.swap _ _ _)
theorem le_sum : ∀ (l : List Nat) (x : Nat), x ∈ l → x ≤ l.sum
  | [], x, h => absurd h (List.not_mem_nil)
  | y :: l, x, h => by
    rw [List.sum_cons]
    rcases List.mem_cons.1 h with rfl | h
    · omega
    · have := le_sum l x h
      omega
theorem first_perm (l : List Tree) (h : 0 < l.length) : l.Perm (first l :: rest1 l) := by
  rw [first_mem l h]
  exact erase_perm l _ (least_lt l h)
theorem first_min (l : List Tree) (t : Tree) (ht : t ∈ l) : (first l).1 ≤ t.1 := by
  obtain ⟨j, hj, rfl⟩ := List.getElem_of_mem ht
  have := least_min l l.length j hj
  unfold wt at this
  rw [show (l.getD j (0, [])) = l[j] by rw [List.getD_eq_getElem?_getD, List.getElem?_eq_getElem hj]; rfl] at this
  exact this
theorem two_perm (l : List Tree) (h : 2 ≤ l.length) : l.Perm (first l :: second l :: rest2 l) :=
  (first_perm l (by omega)).trans ((first_perm (rest1 l) (by rw [rest1_length l (by omega)]; omega)).cons _)
theorem join_perm (l : List Tree) : (join l).Perm (both l :: rest2 l) := List.perm_append_comm
theorem two_dep (d a b : List Nat) (ha : a.Nodup) (hb : b.Nodup) (hab : ∀ s ∈ a, s ∉ b) (la : ∀ s ∈ a, s < d.length) (lb : ∀ s ∈ b, s < d.length) (s : Nat) : dep (incs (incs d a) b) s = if s ∈ a ++ b then dep d s + 1 else dep d s := by
  unfold dep
  rw [incs_at b _ s hb (fun k hk => by rw [incs_length]; exact lb k hk), incs_at a d s ha la]
  by_cases h1 : s ∈ a
  · rw [if_neg (hab s h1), if_pos h1, if_pos (List.mem_append_left _ h1)]
  · by_cases h2 : s ∈ b
    · rw [if_pos h2, if_neg h1, if_pos (List.mem_append_right _ h2)]
    · rw [if_neg h2, if_neg h1, if_neg (fun h => by rcases List.mem_append.1 h with h | h; exact h1 h; exact h2 h)]
theorem Inv.two {a b : Tree} {r : List Tree} {d : List Nat} {n : Nat} (h : Inv (a :: b :: r) d n) (hm : ∀ c ∈ r, a.1 ≤ c.1 ∧ b.1 ≤ c.1) : Inv ((a.1 + b.1, a.2 ++ b.2) :: r) (incs (incs d a.2) b.2) n := by
  have ma : a ∈ a :: b :: r := List.mem_cons_self ..
  have mb : b ∈ a :: b :: r := List.mem_cons_of_mem _ (List.mem_cons_self ..)
  have mr : ∀ c ∈ r, c ∈ a :: b :: r := fun c hc => List.mem_cons_of_mem _ (List.mem_cons_of_mem _ hc)
  obtain ⟨pa, pb'⟩ := List.pairwise_cons.1 h.pw
  obtain ⟨pb, pr⟩ := List.pairwise_cons.1 pb'
  have sab := pa b (List.mem_cons_self ..)
  have hd := two_dep d a.2 b.2 (h.nd a ma) (h.nd b mb) sab.2.2 (h.lt a ma) (h.lt b mb)
  have hlen : (incs (incs d a.2) b.2).length = d.length := by rw [incs_length, incs_length]
  have hout : ∀ c ∈ r, ∀ s ∈ c.2, dep (incs (incs d a.2) b.2) s = dep d s := fun c hc s hs => by
    rw [hd, if_neg]
    intro hx
    rcases List.mem_append.1 hx with hx | hx
    · exact (pa c (List.mem_cons_of_mem _ hc)).2.2 s hx hs
    · exact (pb c hc).2.2 s hx hs
  refine ⟨?_, ?_, ?_, ?_, ?_, ?_⟩
  · intro t ht s hs
    rcases List.mem_cons.1 ht with rfl | ht
    · rw [hd, if_pos hs, show fib (dep d s + 1 + 2) = fib (dep d s + 1) + fib (dep d s + 2) from rfl]
      show _ ≤ a.1 + b.1
      rcases List.mem_append.1 hs with hs | hs
      · have h1 := sab.1 s hs
        have h2 := h.own a ma s hs
        omega
      · have h1 := sab.2.1 s hs
        have h2 := h.own b mb s hs
        omega
    · rw [hout t ht s hs]
      exact h.own t (mr t ht) s hs
  · intro t ht
    rcases List.mem_cons.1 ht with rfl | ht
    · exact List.nodup_append.2 ⟨h.nd a ma, h.nd b mb, fun x hx y hy e => sab.2.2 x hx (e ▸ hy)⟩
    · exact h.nd t (mr t ht)
  · intro t ht s hs
    rw [hlen]
    rcases List.mem_cons.1 ht with rfl | ht
    · rcases List.mem_append.1 hs with hs | hs
      · exact h.lt a ma s hs
      · exact h.lt b mb s hs
    · exact h.lt t (mr t ht) s hs
  · refine List.pairwise_cons.2 ⟨fun c hc => ⟨?_, ?_, ?_⟩, ?_⟩
    · intro s hs
      rw [hd, if_pos hs]
      rcases List.mem_append.1 hs with hs | hs
      · exact Nat.le_trans (h.own a ma s hs) (hm c hc).1
      · exact Nat.le_trans (h.own b mb s hs) (hm c hc).2
    · intro s hs
      rw [hout c hc s hs]
      have := (pa c (List.mem_cons_of_mem _ hc)).2.1 s hs
      show _ ≤ a.1 + b.1
      omega
    · intro s hs hc'
      rcases List.mem_append.1 hs with hs | hs
      · exact (pa c (List.mem_cons_of_mem _ hc)).2.2 s hs hc'
      · exact (pb c hc).2.2 s hs hc'
    · refine List.Pairwise.imp_of_mem ?_ pr
      intro c c' hc hc' hs
      refine ⟨fun s x => ?_, fun s x => ?_, hs.2.2⟩
      · rw [hout c hc s x]
        exact hs.1 s x
      · rw [hout c' hc' s x]
        exact hs.2.1 s x
  · have := h.sum
    simp only [List.map_cons, List.sum_cons] at this ⊢
    omega
  · intro s hs
    have h0 := hs _ (List.mem_cons_self ..)
    rw [hd, if_neg h0]
    refine h.out s fun t ht hts => ?_
    rcases List.mem_cons.1 ht with rfl | ht
    · exact h0 (List.mem_append_left _ hts)
    · rcases List.mem_cons.1 ht with rfl | ht
      · exact h0 (List.mem_append_right _ hts)
      · exact hs t (List.mem_cons_of_mem _ ht) hts
theorem Inv.join {l : List Tree} {d : List Nat} {n : Nat} (h : Inv l d n) (h2 : 2 ≤ l.length) : Inv (join l) (incs (incs d (first l).2) (second l).2) n := by
  refine Inv.perm (Inv.two (h.perm (two_perm l h2)) fun c hc => ⟨?_, ?_⟩) (join_perm l).symm
  · exact first_min l c ((two_perm l h2).mem_iff.2 (List.mem_cons_of_mem _ (List.mem_cons_of_mem _ hc)))
  · refine first_min (rest1 l) c ?_
    have hp := first_perm (rest1 l) (by rw [rest1_length l (by omega)]; omega)
    exact hp.mem_iff.2 (List.mem_cons_of_mem _ hc)
theorem Inv.bound {l : List Tree} {d : List Nat} {n : Nat} (h : Inv l d n) (s : Nat) : dep d s = 0 ∨ fib (dep d s + 2) ≤ n := by
  by_cases hs : ∀ t ∈ l, s ∉ t.2
  · exact .inl (h.out s hs)
  · refine .inr ?_
    obtain ⟨t, ht⟩ : ∃ t, ¬ (t ∈ l → s ∉ t.2) := Classical.not_forall.1 hs
    obtain ⟨hl, hst⟩ : t ∈ l ∧ s ∈ t.2 := ⟨Classical.byContradiction fun e => ht fun h => absurd h e, Classical.byContradiction fun e => ht fun _ => e⟩
    refine Nat.le_trans (h.own t hl s hst) ?_
    rw [← h.sum]
    exact le_sum _ _ (List.mem_map.2 ⟨t, hl, rfl⟩)
theorem run_bound (f : Nat) : ∀ (l : List Tree) (d : List Nat) (n : Nat), Inv l d n → ∀ s, dep (run f l d) s = 0 ∨ fib (dep (run f l d) s + 2) ≤ n := by
  induction f with
  | zero => intro l d n h s; exact h.bound s
  | succ f ih =>
    intro l d n h s
    rw [run]
    split
    · exact h.bound s
    · exact ih _ _ _ (h.join (by omega)) s
theorem run_length (f : Nat) : ∀ (l : List Tree) (d : List Nat), (run f l d).length = d.length := by
  induction f with
  | zero => intro l d; rfl
  | succ f ih =>
    intro l d
    rw [run]
    split
    · rfl
    · rw [ih, incs_length, incs_length]
end Go.Proofs.Ytmkpakhpjgocjaa.Hf
