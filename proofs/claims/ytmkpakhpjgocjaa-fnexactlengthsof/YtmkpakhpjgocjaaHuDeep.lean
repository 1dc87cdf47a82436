/- What the walks of depthsOf and l04Lengths want of the plain mathematics. -/
import Derived.Test.YtmkpakhpjgocjaaHuConcat
namespace Go.Proofs.Ytmkpakhpjgocjaa.Hf
open Go.RowKit
open Go.Proofs.Ytmkpakhpjgocjaa.In (IsI irow Ints made_ints)

def ns (l : List Tree) : Nat := (l.map fun t => t.2.length).sum
theorem ns_perm {l l' : List Tree} (p : l.Perm l') : ns l = ns l' := (p.map _).sum_nat
theorem ns_join (l : List Tree) (h : 2 ≤ l.length) : ns (join l) = ns l := by
  rw [ns_perm (two_perm l h), ns_perm (join_perm l)]
  unfold ns both
  simp only [List.map_cons, List.sum_cons, List.length_append]
  omega
theorem ns_trees (c : List Nat) : ∀ i, ns (trees c i) ≤ i
  | 0 => Nat.le_refl _
  | i + 1 => by
    have := ns_trees c i
    rw [trees]
    split
    · unfold ns at this ⊢
      rw [List.map_append, List.sum_append]
      simp
      exact this
    · omega
theorem ns_mem (l : List Tree) (t : Tree) (h : t ∈ l) : t.2.length ≤ ns l := le_sum _ _ (List.mem_map.2 ⟨t, h, rfl⟩)
theorem fib_ge : ∀ k, k + 1 ≤ fib (k + 2)
  | 0 => by decide
  | 1 => by decide
  | k + 2 => by
    have h1 := fib_ge k
    have h2 := fib_ge (k + 1)
    rw [show fib (k + 2 + 2) = fib (k + 2) + fib (k + 1 + 2) from rfl]
    omega
theorem Inv.small {l : List Tree} {d : List Nat} {n : Nat} (h : Inv l d n) (s : Nat) : d.getD s 0 ≤ n := by
  rcases h.bound s with h | h
  · unfold dep at h
    omega
  · have := fib_ge (dep d s)
    unfold dep at h this
    omega
theorem Inv.weight {l : List Tree} {d : List Nat} {n : Nat} (h : Inv l d n) (t : Tree) (ht : t ∈ l) : t.1 ≤ n := by
  rw [← h.sum]
  exact le_sum _ _ (List.mem_map.2 ⟨t, ht, rfl⟩)
theorem Inv.weights {l : List Tree} {d : List Nat} {n : Nat} (h : Inv l d n) (h2 : 2 ≤ l.length) : (first l).1 + (second l).1 ≤ n := by
  have := (h.perm (two_perm l h2)).sum
  simp only [List.map_cons, List.sum_cons] at this
  omega
/-- what a taken tree is, in memory -/
theorem taken (m : List MT) (k : Nat) (hn : m.length = k + 1) : ∃ x, m[least (mt m) (k + 1)]? = some x ∧ x ∈ m ∧ x.1 = first (mt m) ∧ mt (m.eraseIdx (least (mt m) (k + 1))) = rest1 (mt m) ∧ (m.eraseIdx (least (mt m) (k + 1))).length = k ∧ ∀ y ∈ m.eraseIdx (least (mt m) (k + 1)), y ∈ m := by
  have hl : least (mt m) m.length < m.length := by
    have := least_lt (mt m) (by rw [mt_length]; omega)
    rw [mt_length] at this
    exact this
  rw [← hn]
  refine ⟨m[least (mt m) m.length], List.getElem?_eq_getElem hl, List.getElem_mem hl, first_mt m hl, rest_mt m, ?_, fun y hy => List.mem_of_mem_eraseIdx hy⟩
  rw [List.length_eraseIdx, if_pos hl]
  omega
theorem Syms.sub {W : World} {m k : List MT} (h : Syms W m) (hs : ∀ y ∈ k, y ∈ m) : Syms W k := fun x hx => h x (hs x hx)
theorem Keeps.wr {g gl : Nat} {w w' : World} (h : Wr g gl w w') {cs cl : Array Value} {t u : TypeId} (hg : w.heap[g]? = some (.cells cs t (0, 0))) (ht : t ≠ 3) (hl : w.heap[gl]? = some (.cells cl u (0, 0))) (hu : u ≠ 3) : Keeps w w' := fun k cur e => by
  rw [h.block k (lt_row e) (by
    rintro rfl
    rw [hg] at e
    simp at e
    exact ht e.2) (by
    rintro rfl
    rw [hl] at e
    simp at e
    exact hu e.2)]
  exact e
/-- a row of trees, its block known whole -/
theorem OwnT.of {W : World} {e : TypeId} {base g cap n : Nat} {m : List MT} {cur : Array Value} (hn : m.length = n) (hg : base ≤ g) (hb : W.heap[g]? = some (.cells cur e (0, 0))) (hc : n ≤ cap) (hm : cap ≤ maxLen) (hs : cur.size = cap * 2) (ht : cur.toList.take (n * 2) = cells m) : OwnT W e base (.slice (some ⟨g, 0, none⟩) n cap) m := by
  subst hn
  exact ⟨cells_length m, .inr ⟨g, cap, cur, rfl, hg, hb, hc, hm, hs, ht⟩⟩
theorem OwnT.parts {W : World} {e : TypeId} {base : Nat} {v : Value} {m : List MT} (h : OwnT W e base v m) (h0 : 0 < m.length) : ∃ g cap cur, v = .slice (some ⟨g, 0, none⟩) m.length cap ∧ base ≤ g ∧ m.length ≤ cap ∧ cap ≤ maxLen ∧ W.heap[g]? = some (.cells cur e (0, 0)) ∧ cur.size = cap * 2 ∧ cur.toList.take (m.length * 2) = cells m := by
  obtain ⟨_, h⟩ := h
  rcases h with ⟨_, h⟩ | ⟨g, cap, cur, hv, hg, hb, hn, hm, hs, ht⟩
  · omega
  · exact ⟨g, cap, cur, hv, hg, hn, hm, hb, hs, ht⟩
theorem sum_all (c : List Nat) (hl : c.length ≤ 257) (hm : ∀ x ∈ c, x ≤ 10000) : c.sum ≤ 2570000 := by
  have := sum_le c 10000 hm
  omega
end Go.Proofs.Ytmkpakhpjgocjaa.Hf
