/- Plain mathematics of lengths: of counts that are not all 0 they are whole, and just the symbols that count have one. -/
import Derived.Test.YtmkpakhpjgocjaaGreatPz8
namespace Go.Proofs.YtmkpakhpjgocjaaGreat.Hf
open Go.Proofs.YtmkpakhpjgocjaaGreat.Bi (csum above part whole right within within_of csum_snoc above_snoc)

/-- what symbols take, in parts of two to a power -/
def kr (K : Nat) (d s : List Nat) : Nat := (s.map fun k => 2 ^ (K - dep d k)).sum
theorem kr_append (K : Nat) (d s t : List Nat) : kr K d (s ++ t) = kr K d s + kr K d t := by
  unfold kr
  rw [List.map_append, List.sum_append]
theorem kr_perm (K : Nat) (d : List Nat) {s t : List Nat} (p : s.Perm t) : kr K d s = kr K d t := (p.map _).sum_nat
theorem kr_congr (K : Nat) (d d' s : List Nat) (h : ∀ k ∈ s, dep d' k = dep d k) : kr K d' s = kr K d s := by
  unfold kr
  rw [List.map_congr_left fun k hk => by rw [h k hk]]
theorem kr_up (K : Nat) (d d' s : List Nat) (h : ∀ k ∈ s, dep d' k = dep d k + 1 ∧ dep d k + 1 ≤ K) : 2 * kr K d' s = kr K d s := by
  induction s with
  | nil => rfl
  | cons k s ih =>
    have h1 := ih fun x hx => h x (List.mem_cons_of_mem _ hx)
    obtain ⟨h2, h3⟩ := h k (List.mem_cons_self ..)
    unfold kr at h1 ⊢
    rw [List.map_cons, List.sum_cons, List.map_cons, List.sum_cons, Nat.mul_add, h1, h2]
    have : 2 * 2 ^ (K - (dep d k + 1)) = 2 ^ (K - dep d k) := by
      rw [show K - dep d k = (K - (dep d k + 1)) + 1 by omega, Nat.pow_succ]
      omega
    rw [this]
def KrInv (K : Nat) (l : List Tree) (d : List Nat) : Prop := ∀ t ∈ l, kr K d t.2 = 2 ^ K
def alls (l : List Tree) : List Nat := l.flatMap fun t => t.2
theorem alls_perm {l l' : List Tree} (p : l.Perm l') : (alls l).Perm (alls l') := p.flatMap_right _
theorem alls_join (l : List Tree) (h : 2 ≤ l.length) : (alls (join l)).Perm (alls l) := by
  have e : alls (both l :: rest2 l) = alls (first l :: second l :: rest2 l) := by
    unfold alls both
    rw [List.flatMap_cons, List.flatMap_cons, List.flatMap_cons, List.append_assoc]
  exact (alls_perm (join_perm l)).trans (e ▸ (alls_perm (two_perm l h)).symm)
theorem dep_join {l : List Tree} {d : List Nat} {n : Nat} (h : Inv l d n) (h2 : 2 ≤ l.length) (s : Nat) : dep (incs (incs d (first l).2) (second l).2) s = if s ∈ (first l).2 ++ (second l).2 then dep d s + 1 else dep d s := by
  have h' := h.perm (two_perm l h2)
  obtain ⟨pa, _⟩ := List.pairwise_cons.1 h'.pw
  exact two_dep d _ _ (h'.nd _ (List.mem_cons_self ..)) (h'.nd _ (List.mem_cons_of_mem _ (List.mem_cons_self ..))) (pa _ (List.mem_cons_self ..)).2.2 (h'.lt _ (List.mem_cons_self ..)) (h'.lt _ (List.mem_cons_of_mem _ (List.mem_cons_self ..))) s
theorem KrInv.join {K : Nat} {l : List Tree} {d : List Nat} {n : Nat} (hk : KrInv K l d) (h : Inv l d n) (h2 : 2 ≤ l.length) (hn : n ≤ K) : KrInv K (join l) (incs (incs d (first l).2) (second l).2) := by
  have hd := dep_join h h2
  have hj := h.join h2
  have hp := two_perm l h2
  have h' := h.perm hp
  obtain ⟨pa, pb'⟩ := List.pairwise_cons.1 h'.pw
  obtain ⟨pb, _⟩ := List.pairwise_cons.1 pb'
  have hup : ∀ s, s ∈ (first l).2 ++ (second l).2 → dep (incs (incs d (first l).2) (second l).2) s = dep d s + 1 ∧ dep d s + 1 ≤ K := by
    intro s hs
    have e := hd s
    rw [if_pos hs] at e
    refine ⟨e, ?_⟩
    have := hj.small s
    unfold dep at e ⊢
    omega
  intro t ht
  rcases List.mem_cons.1 ((join_perm l).mem_iff.1 ht) with rfl | hr
  · have h3 := kr_up K d _ (first l).2 fun k hk => hup k (List.mem_append_left _ hk)
    have h4 := kr_up K d _ (second l).2 fun k hk => hup k (List.mem_append_right _ hk)
    rw [hk _ (hp.mem_iff.2 (List.mem_cons_self ..))] at h3
    rw [hk _ (hp.mem_iff.2 (List.mem_cons_of_mem _ (List.mem_cons_self ..)))] at h4
    show kr K _ ((first l).2 ++ (second l).2) = _
    rw [kr_append]
    omega
  · rw [kr_congr K d _ t.2 fun k hk => ?_]
    · exact hk t (hp.mem_iff.2 (List.mem_cons_of_mem _ (List.mem_cons_of_mem _ hr)))
    · rw [hd, if_neg]
      intro hx
      rcases List.mem_append.1 hx with hx | hx
      · exact (pa t (List.mem_cons_of_mem _ hr)).2.2 k hx hk
      · exact (pb t hr).2.2 k hx hk
theorem run_kraft {K : Nat} (f : Nat) : ∀ (l : List Tree) (d : List Nat) (n : Nat), Inv l d n → n ≤ K → l.length ≤ f → 0 < l.length → KrInv K l d → kr K (run f l d) (alls l) = 2 ^ K := by
  induction f with
  | zero => intro l d n _ _ h1 h2; omega
  | succ f ih =>
    intro l d n h hn hf h0 hk
    rw [run]
    by_cases h1 : l.length ≤ 1
    · rw [if_pos h1]
      obtain ⟨t, rfl⟩ := List.length_eq_one_iff.1 (show l.length = 1 by omega)
      have := hk t (List.mem_singleton.2 rfl)
      unfold alls
      rw [List.flatMap_cons, List.flatMap_nil, List.append_nil]
      exact this
    · rw [if_neg h1]
      have hjl := join_length l (by omega)
      rw [← kr_perm K _ (alls_join l (by omega))]
      exact ih (join l) _ n (h.join (by omega)) hn (by omega) (by omega) (hk.join h (by omega) hn)
theorem run_out (f : Nat) : ∀ (l : List Tree) (d : List Nat) (n s : Nat), Inv l d n → s ∉ alls l → dep (run f l d) s = dep d s := by
  induction f with
  | zero => intro l d n s _ _; rfl
  | succ f ih =>
    intro l d n s h hs
    rw [run]
    by_cases h1 : l.length ≤ 1
    · rw [if_pos h1]
    · rw [if_neg h1, ih (join l) _ n s (h.join (by omega)) (fun hx => hs ((alls_join l (by omega)).mem_iff.1 hx)), dep_join h (by omega), if_neg]
      intro hx
      refine hs ((alls_perm (two_perm l (by omega))).mem_iff.2 ?_)
      unfold alls
      rw [List.flatMap_cons, List.flatMap_cons]
      rcases List.mem_append.1 hx with hx | hx
      · exact List.mem_append_left _ hx
      · exact List.mem_append_right _ (List.mem_append_left _ hx)
/-- the symbols that count -/
def syms (c : List Nat) (n : Nat) : List Nat := (List.range n).filter fun i => decide (0 < c.getD i 0)
theorem syms_succ (c : List Nat) (n : Nat) : syms c (n + 1) = if 0 < c.getD n 0 then syms c n ++ [n] else syms c n := by
  unfold syms
  rw [List.range_succ, List.filter_append, List.filter_cons, List.filter_nil]
  by_cases h : 0 < c.getD n 0
  · rw [if_pos h, if_pos (decide_eq_true h)]
  · rw [if_neg h, if_neg (by simpa using h), List.append_nil]
theorem alls_trees (c : List Nat) : ∀ n, alls (trees c n) = syms c n
  | 0 => rfl
  | n + 1 => by
    have ih := alls_trees c n
    rw [syms_succ, trees]
    split
    · unfold alls at ih ⊢
      rw [List.flatMap_append, ih]
      rfl
    · exact ih
theorem trees_syms (c : List Nat) : ∀ n, (trees c n).length = (syms c n).length
  | 0 => rfl
  | n + 1 => by
    have ih := trees_syms c n
    rw [syms_succ, trees]
    split
    · rw [List.length_append, List.length_append, ih]
      rfl
    · exact ih
theorem mem_syms {c : List Nat} {n i : Nat} : i ∈ syms c n ↔ i < n ∧ 0 < c.getD i 0 := by
  unfold syms
  rw [List.mem_filter, List.mem_range, decide_eq_true_eq]
theorem kr_pos (K : Nat) (d : List Nat) (s : List Nat) (h : 0 < s.length) : 0 < kr K d s := by
  cases s with
  | nil => exact absurd h (by decide)
  | cons k s =>
    unfold kr
    rw [List.map_cons, List.sum_cons]
    have := Nat.two_pow_pos (K - dep d k)
    omega
theorem kr_shift (K : Nat) (d s : List Nat) (hK : 12 ≤ K) (h : ∀ k ∈ s, dep d k ≤ 12) : kr K d s = 2 ^ (K - 12) * kr 12 d s := by
  unfold kr
  induction s with
  | nil => rfl
  | cons k s ih =>
    have h1 := h k (List.mem_cons_self ..)
    rw [List.map_cons, List.sum_cons, List.map_cons, List.sum_cons, ih (fun x hx => h x (List.mem_cons_of_mem _ hx)), Nat.mul_add, ← Nat.pow_add, show K - 12 + (12 - dep d k) = K - dep d k by omega]
theorem dep_okay {D : List Nat} (h : okay D = true) (i : Nat) : dep D i ≤ 12 := by
  unfold okay at h
  rw [List.all_eq_true] at h
  unfold dep
  by_cases hi : i < D.length
  · rw [List.getD_eq_getElem?_getD, List.getElem?_eq_getElem hi]
    exact of_decide_eq_true (h _ (List.getElem_mem hi))
  · rw [List.getD_eq_getElem?_getD, List.getElem?_eq_none (by omega)]
    exact Nat.zero_le _
/-- of two or more symbols -/
theorem depths_two (c : List Nat) (h2 : 2 ≤ (syms c c.length).length) (ho : okay (depths c) = true) : (∀ i, 0 < dep (depths c) i ↔ i ∈ syms c c.length) ∧ kr 12 (depths c) (syms c c.length) = 4096 := by
  have hinv := trees_inv c c.length (Nat.le_refl _)
  rw [List.take_length] at hinv
  have hl := trees_syms c c.length
  have hD : depths c = run (trees c c.length).length (trees c c.length) (zeros c.length) := by
    unfold depths
    rw [if_neg (by omega)]
  have hK : KrInv (c.sum + 12) (trees c c.length) (zeros c.length) := by
    intro t ht
    obtain ⟨j, _, _, rfl⟩ := trees_mem c c.length t ht
    unfold kr
    simp [dep_zeros]
  have hkr := run_kraft (K := c.sum + 12) _ (trees c c.length) (zeros c.length) c.sum hinv (by omega) (Nat.le_refl _) (by omega) hK
  rw [alls_trees, ← hD] at hkr
  refine ⟨fun i => ⟨fun hi => ?_, fun hi => ?_⟩, ?_⟩
  · refine Classical.byContradiction fun hn => ?_
    have := run_out (trees c c.length).length (trees c c.length) (zeros c.length) c.sum i hinv (by rw [alls_trees]; exact hn)
    rw [← hD, dep_zeros] at this
    omega
  · refine Nat.pos_of_ne_zero fun h0 => ?_
    have hp := List.perm_cons_erase hi
    rw [kr_perm _ _ hp] at hkr
    have hp2 := kr_pos (c.sum + 12) (depths c) ((syms c c.length).erase i) (by
      have := hp.length_eq
      rw [List.length_cons] at this
      omega)
    unfold kr at hkr hp2
    rw [List.map_cons, List.sum_cons, h0, Nat.sub_zero] at hkr
    omega
  · have hs := kr_shift (c.sum + 12) (depths c) (syms c c.length) (by omega) fun k _ => dep_okay ho k
    rw [hkr, Nat.pow_add, Nat.add_sub_cancel] at hs
    have := Nat.eq_of_mul_eq_mul_left (Nat.two_pow_pos c.sum) hs
    rw [← this]
theorem sums_syms (D : List Nat) (S : Nat → Bool) (h : ∀ i, i < D.length → (S i = true ↔ 0 < dep D i)) : ∀ k, k ≤ D.length → csum (up (D.take k)) = kr 12 D ((List.range k).filter S) ∧ above (up (D.take k)) = ((List.range k).filter S).length
  | 0, _ => ⟨rfl, rfl⟩
  | k + 1, hk => by
    obtain ⟨h1, h2⟩ := sums_syms D S h k (by omega)
    have hd : dep D k = D[k] := by
      unfold dep
      rw [List.getD_eq_getElem?_getD, List.getElem?_eq_getElem (by omega)]
      rfl
    have e : up (D.take (k + 1)) = up (D.take k) ++ [((D[k] : Nat) : Int)] := by
      rw [List.take_add_one, List.getElem?_eq_getElem (by omega)]
      unfold up
      rw [List.map_append]
      rfl
    rw [e, csum_snoc, above_snoc, h1, h2, List.range_succ, List.filter_append, kr_append, List.length_append, List.filter_cons, List.filter_nil]
    have hi := h k (by omega)
    rw [hd] at hi
    by_cases hp : 0 < D[k]
    · rw [if_pos (hi.2 hp)]
      unfold Bi.part kr
      rw [if_pos (by omega), if_pos (by omega), List.map_cons, List.map_nil, List.sum_cons, List.sum_nil, hd]
      exact ⟨rfl, rfl⟩
    · rw [if_neg (fun hx => hp (hi.1 hx))]
      unfold Bi.part
      rw [if_neg (by omega), if_neg (by omega)]
      exact ⟨rfl, rfl⟩
theorem syms_all (c : List Nat) (D : List Nat) (hl : D.length = c.length) (h : ∀ i, 0 < dep D i ↔ i ∈ syms c c.length) : csum (up D) = kr 12 D (syms c c.length) ∧ above (up D) = (syms c c.length).length := by
  have := sums_syms D (fun i => decide (0 < c.getD i 0)) (fun i hi => by
    rw [decide_eq_true_eq, h i, mem_syms]
    exact ⟨fun x => ⟨by omega, x⟩, fun x => x.2⟩) D.length (Nat.le_refl _)
  rw [List.take_length, hl] at this
  exact this
/-- of lengths at most 12 of just the symbols that count -/
theorem depths_one (c : List Nat) (h1 : (syms c c.length).length = 1) : (∀ i, 0 < dep (depths c) i ↔ i ∈ syms c c.length) ∧ kr 12 (depths c) (syms c c.length) = 2048 := by
  have hl := trees_syms c c.length
  obtain ⟨t, ht⟩ := List.length_eq_one_iff.1 (hl.trans h1)
  obtain ⟨j, hj, hc, hte⟩ := trees_mem c c.length t (by rw [ht]; exact List.mem_singleton.2 rfl)
  have hs : syms c c.length = [j] := by
    rw [← alls_trees, ht, hte]
    rfl
  have hD : depths c = (zeros c.length).set j 1 := by
    unfold depths
    rw [if_pos (by omega), ht, hte]
    rfl
  have hd : ∀ i, dep (depths c) i = if i = j then 1 else 0 := by
    intro i
    rw [hD]
    unfold dep
    rw [getD_set _ _ _ _ (by unfold zeros; rw [List.length_replicate]; exact hj)]
    split
    · rfl
    · exact dep_zeros _ _
  rw [hs]
  refine ⟨fun i => ?_, ?_⟩
  · rw [hd i, List.mem_singleton]
    split <;> rename_i e <;> simp [e]
  · unfold kr
    rw [List.map_cons, List.map_nil, List.sum_cons, List.sum_nil, hd j, if_pos rfl]
    rfl
theorem depths_none (c : List Nat) (h0 : (syms c c.length).length = 0) : ∀ i, 0 < dep (depths c) i ↔ i ∈ syms c c.length := by
  have hl := trees_syms c c.length
  have hs := List.eq_nil_of_length_eq_zero h0
  have ht : trees c c.length = [] := List.eq_nil_of_length_eq_zero (hl.trans h0)
  intro i
  rw [hs]
  unfold depths
  rw [ht, if_neg (by decide)]
  have : run ([] : List Tree).length [] (zeros c.length) = zeros c.length := rfl
  rw [this, dep_zeros]
  simp
theorem whole_depths (c : List Nat) (hl : c.length ≤ 257) (ho : okay (depths c) = true) : (∀ i, 0 < dep (depths c) i ↔ i ∈ syms c c.length) ∧ (0 < (syms c c.length).length → whole (up (depths c)) = true) := by
  have hw : within (up (depths c)) 12 = true := by rw [within_okay _ (by rw [depths_length]; exact hl)]; exact ho
  by_cases h0 : (syms c c.length).length = 0
  · exact ⟨depths_none c h0, fun h => by omega⟩
  · by_cases h1 : (syms c c.length).length = 1
    · obtain ⟨ha, hb⟩ := depths_one c h1
      obtain ⟨hc, hd⟩ := syms_all c (depths c) (depths_length c) ha
      refine ⟨ha, fun _ => ?_⟩
      unfold whole right
      rw [hw, hc, hb, hd, h1]
      rfl
    · obtain ⟨ha, hb⟩ := depths_two c (by omega) ho
      obtain ⟨hc, hd⟩ := syms_all c (depths c) (depths_length c) ha
      refine ⟨ha, fun _ => ?_⟩
      unfold whole right
      rw [hw, hc, hb]
      rfl
theorem syms_flat (c : List Nat) (n : Nat) : syms (flat c) n = syms c n := by
  unfold syms
  congr 1
  funext i
  have : (flat c).getD i 0 = if 0 < c.getD i 0 then c.getD i 0 / 2 + 1 else 0 := by
    unfold flat
    rw [List.getD_eq_getElem?_getD, List.getElem?_map, List.getD_eq_getElem?_getD]
    cases c[i]? with
    | none => rfl
    | some x => rfl
  rw [this]
  by_cases h : 0 < c.getD i 0
  · rw [if_pos h, decide_eq_true h, decide_eq_true (by omega)]
  · rw [if_neg h, decide_eq_false h]
    rfl
/-- the lengths of counts: just the symbols that count have one, at most 12, and if there is one they are whole -/
theorem lenOf_facts (c : List Nat) (hl : c.length ≤ 257) : (lenOf c).length = c.length ∧ (∀ i, dep (lenOf c) i ≤ 12) ∧ (∀ i, 0 < dep (lenOf c) i ↔ i ∈ syms c c.length) ∧ (0 < (syms c c.length).length → whole (up (lenOf c)) = true) := by
  obtain ⟨k, hk⟩ : ∃ k, c.sum = k := ⟨_, rfl⟩
  induction k using Nat.strongRecOn generalizing c with
  | _ k ih =>
    by_cases ho : okay (depths c) = true
    · rw [lenOf_yes c ho]
      exact ⟨depths_length c, dep_okay ho, whole_depths c hl ho⟩
    · have hlt := flat_more c hl ho
      rw [lenOf_no c hl ho]
      obtain ⟨h1, h2, h3, h4⟩ := ih (flat c).sum (by omega) (flat c) (by rw [flat_length]; exact hl) rfl
      rw [flat_length] at h1 h3 h4
      rw [syms_flat] at h3 h4
      exact ⟨h1, h2, h3, h4⟩
end Go.Proofs.YtmkpakhpjgocjaaGreat.Hf
