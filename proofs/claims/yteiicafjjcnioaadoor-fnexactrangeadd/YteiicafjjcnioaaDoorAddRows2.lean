/- The variable that holds the copy, cut and kept. -/
import Derived.Test.YteiicafjjcnioaaDoorAddRows
namespace Go.Proofs.YteiicafjjcnioaaDoor.Tr
open Go.RowKit
open Go.Proofs.YteiicafjjcnioaaDoor.St

theorem Aft3.below {w W W' : World} {n : Int} {x1 v : Value} {vb : Nat} {p : List ByteArray} (h : Aft3 w W n x1 vb v p) (b : Below W.heap.size W W') : Aft3 w W' n x1 vb v p :=
  ⟨h.low.trans (b.mono h.low.size), (b.block _ (lt_of_row h.r0)).trans h.r0, (b.block _ (lt_of_row h.r1)).trans h.r1, (b.block _ (lt_of_row h.rv)).trans h.rv, h.own.below b, h.far⟩
theorem own_cut {w : World} {base m c j : Nat} {a : Option Addr} {p : List ByteArray} (h : OwnS w base (.slice a m c) p) (hj : j ≤ p.length) : OwnS w base (.slice a j c) (p.take j) := by
  obtain ⟨_, h⟩ := h
  refine ⟨by simp, ?_⟩
  rcases h with ⟨h, h0⟩ | ⟨g, cap, cur, hv, hg, hb, hn, hm, hsz, htk⟩
  · simp at h
    obtain ⟨rfl, rfl, rfl⟩ := h
    have : j = 0 := by omega
    subst this
    exact .inl ⟨rfl, by simp⟩
  · simp at hv
    obtain ⟨rfl, rfl, rfl⟩ := hv
    refine .inr ⟨g, c, cur, by rw [List.length_take, Nat.min_eq_left hj], hg, hb, by rw [List.length_take]; omega, hm, hsz, ?_⟩
    rw [List.map_take, ← htk, List.take_take, List.length_take]
    congr 1
    omega
theorem Aft3.cutS {w W : World} {n : Int} {x1 : Value} {vb i c1 m : Nat} {a1 : Option Addr} {p : List ByteArray} (h : Aft3 w W n x1 vb (.slice a1 m c1) (p.take (i + 1))) (hi : i < p.length) : Aft3 w (W.setCell ⟨vb, 1, none⟩ (.slice a1 i c1)) n x1 vb (.slice a1 i c1) (p.take i) := by
  have h2 := heap_setCell_same W vb 1 _ _ (.slice a1 i c1) h.rv
  have hf := h.far
  refine ⟨h.low.setCell (by simp; omega) _, ?_, ?_, h2, own_set_var ?_ h.rv _ _, hf⟩
  · rw [heap_setCell_other _ _ _ _ (by simp; omega)]
    exact h.r0
  · rw [heap_setCell_other _ _ _ _ (by simp; omega)]
    exact h.r1
  · have := own_cut (j := i) h.own (by rw [List.length_take]; omega)
    rw [List.take_take, Nat.min_eq_left (by omega)] at this
    exact this
theorem row_ne {W : World} {base g : Nat} {v : Value} {l : List ByteArray} {cs : Array Value} (h : OwnS W base v l) (hg : W.heap[g]? = some (.cells cs 40 (0, 0))) : some g ≠ v.ownBlock := by
  obtain ⟨_, h⟩ := h
  rcases h with ⟨h, _⟩ | ⟨g', cap, cur, hv, _, hb, _⟩
  · subst h
    simp [Value.ownBlock]
  · subst hv
    intro he
    simp [Value.ownBlock] at he
    subst he
    rw [hb] at hg
    simp at hg
/-- behind the append: the variable still holds the row as it was -/
theorem Aft3.app {w wr w8 : World} {n : Int} {x1 v v8 : Value} {vb : Nat} {l : List ByteArray} {s : ByteArray} {o : Obj} (h : Aft3 w wr n x1 vb v l)
    (hown : w8.ownsRow (w.heap.size + 2) 9 1 v8 (l.length + 1) (l.map Value.string ++ [.string s])) (hgrow : (wr.alloc o).grownBy w8 v.ownBlock) :
    Below w.heap.size w w8 ∧ w8.heap[w.heap.size]? = some (.cells #[.int .i64 n, x1] 40 (0, 0)) ∧ w8.heap[w.heap.size + 1]? = some (.cells #[.int .i64 0, .slice none 0 0] 40 (0, 0)) ∧ w8.heap[vb]? = some (.cells #[.int .i64 n, v] 40 (0, 0)) ∧ OwnS w8 (w.heap.size + 2) v8 (l ++ [s]) := by
  have f0 := (Below.heap_alloc wr o _ (lt_of_row h.r0)).trans h.r0
  have f1 := (Below.heap_alloc wr o _ (lt_of_row h.r1)).trans h.r1
  have fv := (Below.heap_alloc wr o _ (lt_of_row h.rv)).trans h.rv
  refine ⟨?_, (hgrow.block _ (lt_of_row f0) (row_ne h.own h.r0)).trans f0, (hgrow.block _ (lt_of_row f1) (row_ne h.own h.r1)).trans f1, (hgrow.block _ (lt_of_row fv) (row_ne h.own h.rv)).trans fv, OwnS.snoc hown⟩
  refine (h.low.alloc h.low.size o).grown hgrow (by have := h.low.size; simp; omega) ?_
  intro k hk
  have := (h.own.lt k hk).1
  omega
/-- the end: the variable stored into, and the answer's place -/
theorem own_end {w8 : World} {n n' : Int} {v v8 : Value} {vb z : Nat} {l : List ByteArray} {x y : Value} (h : OwnS w8 (z + 2) v8 l) (hv : w8.heap[vb]? = some (.cells #[.int .i64 n, v] 40 (0, 0))) :
    OwnS ((((w8.setCell ⟨vb, 1, none⟩ v8).setCell ⟨vb, 0, none⟩ (.int .i64 n')).setCell ⟨z + 1, 0, none⟩ x).setCell ⟨z + 1, 1, none⟩ y) (z + 2) v8 l := by
  have h1 := heap_setCell_same w8 vb 1 _ _ v8 hv
  exact own_set_low (own_set_low (own_set_var (own_set_var h hv _ _) h1 _ _) _ _ (by simp)) _ _ (by simp)
end Go.Proofs.YteiicafjjcnioaaDoor.Tr
