/- Texts put together: HuffOf, HuLeastB, HuRow, HuLeastS. -/
import Derived.Test.YtjdlgpnhkfdehaaGreatDoorBu3
import Derived.Test.YtjdlgpnhkfdehaaGreatDoorBu2
import Derived.Laws.OwnMore
/- Plain mathematics of lengths: counts made more alike till no length is above 12. -/
namespace Go.Proofs.YtjdlgpnhkfdehaaGreatDoor.Hf
def trees (c : List Nat) : Nat → List Tree
  | 0 => []
  | i + 1 => if 0 < c.getD i 0 then trees c i ++ [(c.getD i 0, [i])] else trees c i
theorem trees_length (c : List Nat) : ∀ i, (trees c i).length ≤ i
  | 0 => Nat.le_refl _
  | i + 1 => by
    rw [trees]
    have := trees_length c i
    split
    · rw [List.length_append]
      simp
      exact this
    · omega
theorem trees_mem (c : List Nat) : ∀ i t, t ∈ trees c i → ∃ j, j < i ∧ 0 < c.getD j 0 ∧ t = (c.getD j 0, [j])
  | 0, t, h => absurd h (List.not_mem_nil)
  | i + 1, t, h => by
    rw [trees] at h
    split at h
    · rcases List.mem_append.1 h with h | h
      · obtain ⟨j, hj, hr⟩ := trees_mem c i t h
        exact ⟨j, by omega, hr⟩
      · exact ⟨i, by omega, by assumption, List.mem_singleton.1 h⟩
    · obtain ⟨j, hj, hr⟩ := trees_mem c i t h
      exact ⟨j, by omega, hr⟩
def zeros (n : Nat) : List Nat := List.replicate n 0
theorem dep_zeros (n s : Nat) : dep (zeros n) s = 0 := by
  unfold dep zeros
  rw [List.getD_eq_getElem?_getD, List.getElem?_replicate]
  split <;> rfl
theorem sum_take (c : List Nat) (i : Nat) (h : i < c.length) : (c.take (i + 1)).sum = (c.take i).sum + c.getD i 0 := by
  rw [List.take_add_one, List.getElem?_eq_getElem h, List.sum_append, List.getD_eq_getElem?_getD, List.getElem?_eq_getElem h]
  simp
theorem trees_inv (c : List Nat) : ∀ i, i ≤ c.length → Inv (trees c i) (zeros c.length) (c.take i).sum
  | 0, _ => ⟨fun t h => absurd h (List.not_mem_nil), fun t h => absurd h (List.not_mem_nil), fun t h => absurd h (List.not_mem_nil), List.Pairwise.nil, rfl, fun s _ => dep_zeros _ _⟩
  | i + 1, h => by
    have ih := trees_inv c i (by omega)
    rw [sum_take c i (by omega), trees]
    by_cases h0 : 0 < c.getD i 0
    · rw [if_pos h0]
      refine ⟨?_, ?_, ?_, ?_, ?_, fun s _ => dep_zeros _ _⟩
      · intro t ht s hs
        rw [dep_zeros]
        obtain ⟨j, _, hj, rfl⟩ := trees_mem c (i + 1) t (by rw [trees, if_pos h0]; exact ht)
        exact hj
      · intro t ht
        obtain ⟨j, _, hj, rfl⟩ := trees_mem c (i + 1) t (by rw [trees, if_pos h0]; exact ht)
        simp
      · intro t ht s hs
        obtain ⟨j, hji, hj, rfl⟩ := trees_mem c (i + 1) t (by rw [trees, if_pos h0]; exact ht)
        rw [List.mem_singleton.1 hs, show (zeros c.length).length = c.length from List.length_replicate ..]
        omega
      · refine List.pairwise_append.2 ⟨ih.pw, List.pairwise_singleton _ _, fun t ht u hu => ?_⟩
        obtain ⟨j, hji, hj, rfl⟩ := trees_mem c i t ht
        rw [List.mem_singleton.1 hu]
        refine ⟨fun s _ => ?_, fun s _ => ?_, fun s hs hs' => ?_⟩
        · rw [dep_zeros]
          exact h0
        · rw [dep_zeros]
          exact hj
        · have e1 := List.mem_singleton.1 hs
          have e2 := List.mem_singleton.1 hs'
          omega
      · rw [List.map_append, List.sum_append, ih.sum]
        simp
    · rw [if_neg h0, show c.getD i 0 = 0 by omega]
      exact ih
def depths (c : List Nat) : List Nat :=
  if (trees c c.length).length = 1 then (zeros c.length).set ((at0 (trees c c.length) 0).2.getD 0 0) 1 else run (trees c c.length).length (trees c c.length) (zeros c.length)
theorem depths_length (c : List Nat) : (depths c).length = c.length := by
  unfold depths
  split
  · rw [List.length_set]
    exact List.length_replicate ..
  · rw [run_length]
    exact List.length_replicate ..
theorem depths_bound (c : List Nat) (s : Nat) : dep (depths c) s ≤ 1 ∨ fib (dep (depths c) s + 2) ≤ c.sum := by
  unfold depths
  split
  · refine .inl ?_
    unfold dep
    rw [List.getD_eq_getElem?_getD, List.getElem?_set]
    split
    · split
      · exact Nat.le_refl _
      · exact Nat.zero_le _
    · have := dep_zeros c.length s
      unfold dep at this
      rw [List.getD_eq_getElem?_getD] at this
      omega
  · have h := trees_inv c c.length (Nat.le_refl _)
    rw [List.take_length] at h
    rcases run_bound (trees c c.length).length _ _ _ h s with h | h
    · exact .inl (by omega)
    · exact .inr h
def okay (d : List Nat) : Bool := d.all (fun x => decide (x ≤ 12))
theorem sum_le (c : List Nat) (m : Nat) (h : ∀ x ∈ c, x ≤ m) : c.sum ≤ m * c.length := by
  induction c with
  | nil => simp
  | cons x c ih =>
    have h1 := ih fun y hy => h y (List.mem_cons_of_mem _ hy)
    have h2 := h x (List.mem_cons_self ..)
    rw [List.sum_cons, List.length_cons, Nat.mul_add]
    omega
theorem okay_small (c : List Nat) (h : ∀ x ∈ c, x ≤ 2) (hl : c.length ≤ 257) : okay (depths c) = true := by
  unfold okay
  rw [List.all_eq_true]
  intro x hx
  obtain ⟨j, hj, rfl⟩ := List.getElem_of_mem hx
  have hd : dep (depths c) j = (depths c)[j] := by
    unfold dep
    rw [List.getD_eq_getElem?_getD, List.getElem?_eq_getElem hj]
    rfl
  have hs := sum_le c 2 h
  rw [← hd]
  rcases depths_bound c j with h1 | h1
  · exact decide_eq_true (by omega)
  · refine decide_eq_true (Nat.le_of_not_lt fun h12 => ?_)
    have h2 := fib_mono (show 15 ≤ dep (depths c) j + 2 by omega)
    rw [show fib 15 = 610 from rfl] at h2
    omega
def flat (c : List Nat) : List Nat := c.map fun x => if 0 < x then x / 2 + 1 else 0
theorem flat_length (c : List Nat) : (flat c).length = c.length := by
  unfold flat
  rw [List.length_map]
theorem flat_le (c : List Nat) : (flat c).sum ≤ c.sum := by
  unfold flat
  induction c with
  | nil => exact Nat.le_refl _
  | cons x c ih =>
    rw [List.map_cons, List.sum_cons, List.sum_cons]
    split <;> omega
theorem flat_lt (c : List Nat) (h : ∃ x ∈ c, 3 ≤ x) : (flat c).sum < c.sum := by
  induction c with
  | nil =>
    obtain ⟨x, hx, _⟩ := h
    cases hx
  | cons x c ih =>
    have hle := flat_le c
    unfold flat at hle ih ⊢
    rw [List.map_cons, List.sum_cons, List.sum_cons]
    obtain ⟨y, hy, h3⟩ := h
    rcases List.mem_cons.1 hy with rfl | hy
    · rw [if_pos (by omega)]
      omega
    · have := ih ⟨y, hy, h3⟩
      split <;> omega
theorem flat_more (c : List Nat) (hl : c.length ≤ 257) (h : ¬ okay (depths c) = true) : (flat c).sum < c.sum := by
  refine flat_lt c (Classical.byContradiction fun hn => h (okay_small c (fun x hx => ?_) hl))
  refine Nat.le_of_not_lt fun h3 => hn ⟨x, hx, h3⟩
def ofN : Nat → List Nat → List Nat
  | 0, c => depths c
  | f + 1, c => if okay (depths c) = true then depths c else ofN f (flat c)
theorem ofN_more (f : Nat) : ∀ (c : List Nat) (g : Nat), c.length ≤ 257 → c.sum ≤ f → c.sum ≤ g → ofN f c = ofN g c := by
  induction f with
  | zero =>
    intro c g hl hf _
    have hz : okay (depths c) = true := Classical.byContradiction fun h => by
      have := flat_more c hl h
      omega
    cases g with
    | zero => rfl
    | succ g => rw [ofN, ofN, if_pos hz]
  | succ f ih =>
    intro c g hl hf hg
    rw [ofN]
    by_cases h : okay (depths c) = true
    · rw [if_pos h]
      cases g with
      | zero => rfl
      | succ g => rw [ofN, if_pos h]
    · have hlt := flat_more c hl h
      rw [if_neg h]
      cases g with
      | zero => omega
      | succ g =>
        rw [ofN, if_neg h]
        exact ih (flat c) g (by rw [flat_length]; exact hl) (by omega) (by omega)
def lenOf (c : List Nat) : List Nat := ofN c.sum c
theorem lenOf_yes (c : List Nat) (h : okay (depths c) = true) : lenOf c = depths c := by
  unfold lenOf
  cases c.sum with
  | zero => rfl
  | succ f => rw [ofN, if_pos h]
theorem lenOf_no (c : List Nat) (hl : c.length ≤ 257) (h : ¬ okay (depths c) = true) : lenOf c = lenOf (flat c) := by
  have hlt := flat_more c hl h
  unfold lenOf
  obtain ⟨f, hf⟩ : ∃ f, c.sum = f + 1 := ⟨c.sum - 1, by omega⟩
  rw [hf, ofN, if_neg h]
  exact ofN_more f (flat c) _ (by rw [flat_length]; exact hl) (by omega) (Nat.le_refl _)
end Go.Proofs.YtjdlgpnhkfdehaaGreatDoor.Hf


/- Plain mathematics: the first of the least but one, and what is left. -/
namespace Go.Proofs.YtjdlgpnhkfdehaaGreatDoor.Hf
def lb (l : List Tree) (a : Nat) : Nat → Option Nat
  | 0 => none
  | i + 1 => if i = a then lb l a i else match lb l a i with
    | none => some i
    | some k => if wt l i < wt l k then some i else some k
def shift (a b : Nat) : Nat := if b < a then b else b + 1
theorem wt_low (l : List Tree) (a j : Nat) (h : j < a) : wt (l.eraseIdx a) j = wt l j := by
  unfold wt
  rw [List.getD_eq_getElem?_getD, List.getD_eq_getElem?_getD, List.getElem?_eraseIdx_of_lt h]
theorem wt_high (l : List Tree) (a j : Nat) (h : a ≤ j) : wt (l.eraseIdx a) j = wt l (j + 1) := by
  unfold wt
  rw [List.getD_eq_getElem?_getD, List.getD_eq_getElem?_getD, List.getElem?_eraseIdx_of_ge h]
theorem wt_shift (l : List Tree) (a b : Nat) : wt (l.eraseIdx a) b = wt l (shift a b) := by
  unfold shift
  split
  · exact wt_low l a b (by assumption)
  · exact wt_high l a b (by omega)
theorem lb_low (l : List Tree) (a : Nat) : ∀ i, i ≤ a → lb l a i = if i = 0 then none else some (shift a (least (l.eraseIdx a) i))
  | 0, _ => rfl
  | i + 1, h => by
    have ih := lb_low l a i (by omega)
    have hle := least_le (l.eraseIdx a) i
    rw [lb, if_neg (by omega), ih, if_neg (Nat.succ_ne_zero i), least]
    by_cases h0 : i = 0
    · subst h0
      rw [if_pos rfl]
      show some 0 = _
      have : least (l.eraseIdx a) 0 = 0 := rfl
      rw [this, if_neg (Nat.lt_irrefl _)]
      unfold shift
      rw [if_pos (by omega)]
    · rw [if_neg h0]
      simp only
      rw [wt_low l a i (by omega), wt_shift l a (least (l.eraseIdx a) i)]
      by_cases hw : wt l i < wt l (shift a (least (l.eraseIdx a) i))
      · rw [if_pos hw, if_pos hw]
        unfold shift
        rw [if_pos (by omega)]
      · rw [if_neg hw, if_neg hw]
theorem lb_high (l : List Tree) (a : Nat) : ∀ i, lb l a (a + 1 + i) = if a + i = 0 then none else some (shift a (least (l.eraseIdx a) (a + i)))
  | 0 => by
    rw [Nat.add_zero, lb, if_pos rfl, lb_low l a a (Nat.le_refl _), Nat.add_zero]
  | i + 1 => by
    have ih := lb_high l a i
    have hle := least_le (l.eraseIdx a) (a + i)
    rw [show a + 1 + (i + 1) = (a + 1 + i) + 1 by omega, lb, if_neg (by omega), ih, show a + (i + 1) = (a + i) + 1 by omega, if_neg (Nat.succ_ne_zero _), least]
    have hs : shift a (a + i) = a + 1 + i := by
      unfold shift
      rw [if_neg (by omega)]
      omega
    by_cases h0 : a + i = 0
    · rw [if_pos h0]
      simp only
      have h00 : least (l.eraseIdx a) (a + i) = 0 := by rw [h0]; rfl
      rw [h00, h0, if_neg (Nat.lt_irrefl _), ← hs, h0]
    · rw [if_neg h0]
      simp only
      rw [wt_high l a (a + i) (by omega), show a + i + 1 = a + 1 + i by omega, wt_shift l a (least (l.eraseIdx a) (a + i))]
      by_cases hw : wt l (a + 1 + i) < wt l (shift a (least (l.eraseIdx a) (a + i)))
      · rw [if_pos hw, if_pos hw, hs]
      · rw [if_neg hw, if_neg hw]
theorem lb_all (l : List Tree) (a n : Nat) (ha : a < n) (h2 : 2 ≤ n) : lb l a n = some (shift a (least (l.eraseIdx a) (n - 1))) := by
  have := lb_high l a (n - (a + 1))
  rw [show a + 1 + (n - (a + 1)) = n by omega, show a + (n - (a + 1)) = n - 1 by omega, if_neg (by omega)] at this
  exact this
end Go.Proofs.YtjdlgpnhkfdehaaGreatDoor.Hf


/- Rows of trees in memory. -/
namespace Go.Proofs.YtjdlgpnhkfdehaaGreatDoor.Hf
open Go.RowKit
theorem hideH {p : Prop} (h : p) : Hid p := h
abbrev MT := Tree × Value
def cells : List MT → List Value
  | [] => []
  | x :: m => .int .i64 (x.1.1 : Nat) :: x.2 :: cells m
theorem cells_length : ∀ m : List MT, (cells m).length = m.length * 2
  | [] => rfl
  | x :: m => by
    rw [cells, List.length_cons, List.length_cons, cells_length m, List.length_cons]
    omega
theorem cells_append : ∀ m k : List MT, cells (m ++ k) = cells m ++ cells k
  | [], k => rfl
  | x :: m, k => by
    rw [List.cons_append, cells, cells, cells_append m k]
    rfl
theorem cells_at : ∀ (m : List MT) (i : Nat) (h : i < m.length), (cells m)[i * 2]? = some (.int .i64 (m[i].1.1 : Nat)) ∧ (cells m)[i * 2 + 1]? = some m[i].2
  | x :: m, 0, _ => ⟨rfl, rfl⟩
  | x :: m, i + 1, h => by
    have := cells_at m i (Nat.lt_of_succ_lt_succ h)
    rw [cells, show (i + 1) * 2 = i * 2 + 2 by omega, show i * 2 + 2 + 1 = (i * 2 + 1) + 2 by omega]
    exact this
def Sym (W : World) (v : Value) (s : List Nat) : Prop :=
  ∃ g cap cur, v = .slice (some ⟨g, 0, none⟩) s.length cap ∧ W.heap[g]? = some (.cells cur 3 (0, 0)) ∧ s.length ≤ cap ∧ ∀ j (h : j < s.length), cur[j]? = some (.int .i64 (s[j] : Nat))
def Keeps (W W' : World) : Prop := ∀ (g : Nat) (cur : Array Value), W.heap[g]? = some (.cells cur 3 (0, 0)) → W'.heap[g]? = some (.cells cur 3 (0, 0))
theorem Keeps.refl (W : World) : Keeps W W := fun _ _ h => h
theorem Keeps.trans {W W' W'' : World} (h : Keeps W W') (k : Keeps W' W'') : Keeps W W'' := fun g cur e => k g cur (h g cur e)
theorem lt_row {w : World} {g : Nat} {o : Obj} (h : w.heap[g]? = some o) : g < w.heap.size := (Array.getElem?_eq_some_iff.1 h).1
theorem Keeps.below {W W' : World} (h : Below W.heap.size W W') : Keeps W W' := fun g _ e => (h.block g (lt_row e)).trans e
theorem Keeps.set {W : World} {g : Nat} {cs : Array Value} {e : TypeId} (hg : W.heap[g]? = some (.cells cs e (0, 0))) (he : e ≠ 3) (i : Nat) (v : Value) : Keeps W (W.setCell ⟨g, i, none⟩ v) := fun k cur h => by
  rw [heap_setCell_other W _ k v (by
    rintro rfl
    rw [hg] at h
    simp at h
    exact he h.2)]
  exact h
theorem Sym.keeps {W W' : World} {v : Value} {s : List Nat} (h : Sym W v s) (k : Keeps W W') : Sym W' v s := by
  obtain ⟨g, cap, cur, hv, hg, hc⟩ := h
  exact ⟨g, cap, cur, hv, k g cur hg, hc⟩
theorem Sym.cell {W : World} {v : Value} {s : List Nat} (h : Sym W v s) : ∃ g cap, v = .slice (some ⟨g, 0, none⟩) s.length cap ∧ g < W.heap.size ∧ s.length ≤ cap ∧ ∀ j (h : j < s.length), W.cell? ⟨g, j, none⟩ = some (.int .i64 (s[j] : Nat)) := by
  obtain ⟨g, cap, cur, hv, hg, hs, hc⟩ := h
  exact ⟨g, cap, hv, lt_row hg, hs, fun j hj => (cell_of_row W g j _ _ _ hg).trans (hc j hj)⟩
def OwnT (W : World) (e : TypeId) (base : Nat) (v : Value) (m : List MT) : Prop := W.ownsRow base e 2 v m.length (cells m)
def Syms (W : World) (m : List MT) : Prop := ∀ x ∈ m, Sym W x.2 x.1.2
theorem Syms.keeps {W W' : World} {m : List MT} (h : Syms W m) (k : Keeps W W') : Syms W' m := fun x hx => (h x hx).keeps k
theorem OwnT.slice {W : World} {e : TypeId} {base : Nat} {v : Value} {m : List MT} (h : OwnT W e base v m) (h0 : 0 < m.length) : ∃ g cap cur, v = .slice (some ⟨g, 0, none⟩) m.length cap ∧ base ≤ g ∧ m.length ≤ cap ∧ W.heap[g]? = some (.cells cur e (0, 0)) ∧ cur.size = cap * 2 ∧ cur.toList.take (m.length * 2) = cells m := by
  obtain ⟨_, h⟩ := h
  rcases h with ⟨_, h⟩ | ⟨g, cap, cur, hv, hg, hb, hn, _, hs, ht⟩
  · omega
  · exact ⟨g, cap, cur, hv, hg, hn, hb, hs, ht⟩
theorem row_at {W : World} {e : TypeId} {g : Nat} {cur : Array Value} {m : List MT} (hb : W.heap[g]? = some (.cells cur e (0, 0))) (ht : cur.toList.take (m.length * 2) = cells m) (i : Nat) (hi : i < m.length) :
    W.cell? ⟨g, i * 2, none⟩ = some (.int .i64 (m[i].1.1 : Nat)) ∧ W.cell? ⟨g, i * 2 + 1, none⟩ = some m[i].2 := by
  have hc := cells_at m i hi
  rw [← ht] at hc
  rw [List.getElem?_take_of_lt (by omega), List.getElem?_take_of_lt (by omega), Array.getElem?_toList, Array.getElem?_toList] at hc
  exact ⟨(cell_of_row W g _ _ _ _ hb).trans hc.1, (cell_of_row W g _ _ _ _ hb).trans hc.2⟩
def mt (m : List MT) : List Tree := m.map (·.1)
theorem mt_length (m : List MT) : (mt m).length = m.length := List.length_map ..
theorem wt_mt (m : List MT) (i : Nat) (h : i < m.length) : wt (mt m) i = m[i].1.1 := by
  unfold wt mt
  rw [List.getD_eq_getElem?_getD, List.getElem?_map, List.getElem?_eq_getElem h]
  rfl
end Go.Proofs.YtjdlgpnhkfdehaaGreatDoor.Hf


/- For the walk of l04Least: the least but one, step by step. -/
namespace Go.Proofs.YtjdlgpnhkfdehaaGreatDoor.Hf
open Go.RowKit
def oi : Option Nat → Int
  | none => -1
  | some k => (k : Int)
theorem lb_lt (l : List Tree) (a : Nat) : ∀ i k, lb l a i = some k → k < i
  | 0, k, h => by cases h
  | i + 1, k, h => by
    rw [lb] at h
    split at h
    · have := lb_lt l a i k h
      omega
    · split at h
      · simp at h
        omega
      · rename_i k' hk'
        have := lb_lt l a i k' hk'
        split at h <;> simp at h <;> omega
theorem lb_none {l : List Tree} {a i : Nat} (h : lb l a i = none) (hia : ¬ i = a) : lb l a (i + 1) = some i := by
  rw [lb, if_neg hia, h]
theorem lb_some {l : List Tree} {a i k : Nat} (h : lb l a i = some k) (hia : ¬ i = a) : lb l a (i + 1) = if wt l i < wt l k then some i else some k := by
  rw [lb, if_neg hia, h]
end Go.Proofs.YtjdlgpnhkfdehaaGreatDoor.Hf

