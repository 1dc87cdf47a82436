/- The copy that spec.RangeAdd makes, in every order of its region. -/
import Derived.Test.YteiicafjjcnioaaDoorAddWalks
namespace Go.Proofs.YteiicafjjcnioaaDoor.Tr
open Go.RowKit
open Go.Proofs.YteiicafjjcnioaaDoor.St

theorem own_set_var {w : World} {base : Nat} {v : Value} {l : List ByteArray} {g : Nat} {cs : Array Value} (h : OwnS w base v l) (hg : w.heap[g]? = some (.cells cs 40 (0, 0))) (i : Nat) (x : Value) : OwnS (w.setCell ⟨g, i, none⟩ x) base v l := by
  obtain ⟨hl, h⟩ := h
  refine ⟨hl, ?_⟩
  rcases h with h | ⟨g', cap, cur, hv, hg', hb, rest⟩
  · exact .inl h
  · refine .inr ⟨g', cap, cur, hv, hg', ?_, rest⟩
    have hne : g' ≠ g := by
      rintro rfl
      rw [hb] at hg
      simp at hg
    rw [heap_setCell_other w ⟨g, i, none⟩ g' x hne]
    exact hb
/-- behind the copy: the argument, the answer's place, the variable that holds the copy -/
structure Aft3 (w W : World) (n : Int) (x1 : Value) (vb : Nat) (v : Value) (p : List ByteArray) : Prop where
  low : Below w.heap.size w W
  r0 : W.heap[w.heap.size]? = some (.cells #[.int .i64 n, x1] 40 (0, 0))
  r1 : W.heap[w.heap.size + 1]? = some (.cells #[.int .i64 0, .slice none 0 0] 40 (0, 0))
  rv : W.heap[vb]? = some (.cells #[.int .i64 n, v] 40 (0, 0))
  own : OwnS W (w.heap.size + 2) v p
  far : w.heap.size + 2 ≤ vb
theorem emptyAt {W : World} {g base : Nat} (hg : W.heap[g]? = some (.cells #[] 9 (0, 0))) (h : base ≤ g) : W.ownsRow base 9 1 (.slice (some ⟨g, 0, none⟩) 0 0) 0 [] :=
  ⟨rfl, Or.inr ⟨g, 0, #[], rfl, h, hg, Nat.le_refl _, by decide, rfl, rfl⟩⟩
theorem emptyAtD {W : World} {g base : Nat} (hg : W.heap[g]? = some (.cells #[] 9 (0, 0))) (h : base ≤ g) : W.drew.ownsRow base 9 1 (.slice (some ⟨g, 0, none⟩) 0 0) 0 [] :=
  emptyAt (W := W.drew) hg h
theorem at3 (w : World) (a b c : Obj) : (((w.alloc a).alloc b).alloc c).heap[w.heap.size]? = (w.alloc a).heap[w.heap.size]? ∧ (((w.alloc a).alloc b).alloc c).heap[w.heap.size + 1]? = ((w.alloc a).alloc b).heap[w.heap.size + 1]? :=
  ⟨(Below.heap_alloc _ _ _ (by simp <;> omega)).trans (Below.heap_alloc _ _ _ (by simp)), Below.heap_alloc _ _ _ (by simp)⟩
theorem at4 (w : World) (a b c d : Obj) : ((((w.alloc a).alloc b).alloc c).alloc d).heap[w.heap.size]? = (w.alloc a).heap[w.heap.size]? ∧ ((((w.alloc a).alloc b).alloc c).alloc d).heap[w.heap.size + 1]? = ((w.alloc a).alloc b).heap[w.heap.size + 1]? ∧ ((((w.alloc a).alloc b).alloc c).alloc d).heap[w.heap.size + 1 + 1]? = (((w.alloc a).alloc b).alloc c).heap[w.heap.size + 1 + 1]? :=
  ⟨(Below.heap_alloc _ _ _ (by simp <;> omega)).trans (at3 w a b c).1, (Below.heap_alloc _ _ _ (by simp <;> omega)).trans (at3 w a b c).2, Below.heap_alloc _ _ _ (by simp)⟩
theorem new1 (w : World) (cs : Array Value) (t : TypeId) : (w.alloc (.cells cs t)).heap[w.heap.size]? = some (.cells cs t (0, 0)) := heap_alloc_last w _
theorem new2 (w : World) (a : Obj) (cs : Array Value) (t : TypeId) : ((w.alloc a).alloc (.cells cs t)).heap[w.heap.size + 1]? = some (.cells cs t (0, 0)) := by
  have := heap_alloc_last (w.alloc a) (.cells cs t)
  rw [show (w.alloc a).heap.size = w.heap.size + 1 by simp] at this
  exact this
theorem new3 (w : World) (a b : Obj) (cs : Array Value) (t : TypeId) : (((w.alloc a).alloc b).alloc (.cells cs t)).heap[w.heap.size + 1 + 1]? = some (.cells cs t (0, 0)) := by
  have := heap_alloc_last ((w.alloc a).alloc b) (.cells cs t)
  rw [show ((w.alloc a).alloc b).heap.size = w.heap.size + 1 + 1 by simp] at this
  exact this
theorem new4 (w : World) (a b c : Obj) (cs : Array Value) (t : TypeId) : ((((w.alloc a).alloc b).alloc c).alloc (.cells cs t)).heap[w.heap.size + 1 + 1 + 1]? = some (.cells cs t (0, 0)) := by
  have := heap_alloc_last (((w.alloc a).alloc b).alloc c) (.cells cs t)
  rw [show (((w.alloc a).alloc b).alloc c).heap.size = w.heap.size + 1 + 1 + 1 by simp] at this
  exact this
theorem bel3 (w : World) (a b c : Obj) : Below w.heap.size w (((w.alloc a).alloc b).alloc c) := (((Below.refl _ _).alloc (Nat.le_refl _) _).alloc (by simp) _).alloc (by simp; omega) _
theorem bel4 (w : World) (a b c d : Obj) : Below w.heap.size w ((((w.alloc a).alloc b).alloc c).alloc d) := (bel3 w a b c).alloc (by simp; omega) _
theorem belA (w : World) (a b c : Obj) : Below w.heap.size w (((w.alloc a).alloc b).drew.alloc c) := (((Below.refl _ _).alloc (Nat.le_refl _) _).alloc (by simp) _).drew.alloc (by simp <;> omega) _
theorem belB (w : World) (a b c d : Obj) : Below w.heap.size w ((((w.alloc a).alloc b).drew.alloc c).alloc d) := (belA w a b c).alloc (by simp <;> omega) _
/-- a world W in which the row has been grown, one that has the argument and the answer's place still -/
structure Grown (w w3 : World) (n : Int) (x1 : Value) (v : Value) (p : List ByteArray) : Prop where
  low : Below w.heap.size w w3
  r0 : w3.heap[w.heap.size]? = some (.cells #[.int .i64 n, x1] 40 (0, 0))
  r1 : w3.heap[w.heap.size + 1]? = some (.cells #[.int .i64 0, .slice none 0 0] 40 (0, 0))
  own : OwnS w3 (w.heap.size + 2) v p
theorem grownA {w w3 : World} {n : Int} {x1 v : Value} {p : List ByteArray} {m : Nat} {row : Option Nat} (HM : Hid (m = p.length))
    (hown : w3.ownsRow (w.heap.size + 2) 9 1 v (0 + m) ([] ++ p.map Value.string))
    (hgrow : (((w.alloc (.cells #[.int .i64 n, x1] 40)).alloc (.cells #[.int .i64 0, .slice none 0 0] 40)).alloc (.cells #[] 9)).drew.grownBy w3 row) (hrow : row = some (w.heap.size + 1 + 1)) : Grown w w3 n x1 v p := by
  subst hrow
  refine ⟨?_, ?_, ?_, ?_⟩
  · refine (bel3 w _ _ _).drew.grown hgrow (by simp <;> omega) ?_
    intro k hk
    simp at hk
    omega
  · rw [hgrow.block _ (by simp <;> omega) (by simp <;> omega)]
    exact (at3 w _ _ _).1.trans (new1 w _ _)
  · rw [hgrow.block _ (by simp) (by simp)]
    exact (at3 w _ _ _).2.trans (new2 w _ _ _)
  · unfold OwnS
    rw [← HM.out]
    simpa using hown
theorem grownB {w w3 : World} {n : Int} {x1 v : Value} {p : List ByteArray} {m : Nat} {row : Option Nat} (HM : Hid (m = p.length))
    (hown : w3.ownsRow (w.heap.size + 2) 9 1 v (0 + m) ([] ++ p.map Value.string))
    (hgrow : ((((w.alloc (.cells #[.int .i64 n, x1] 40)).alloc (.cells #[.int .i64 0, .slice none 0 0] 40)).alloc (.cells #[.int .i64 0, .slice none 0 0] 40)).alloc (.cells #[] 9)).drew.grownBy w3 row) (hrow : row = some (w.heap.size + 1 + 1 + 1)) : Grown w w3 n x1 v p ∧ w3.heap[w.heap.size + 1 + 1]? = some (.cells #[.int .i64 0, .slice none 0 0] 40 (0, 0)) := by
  subst hrow
  refine ⟨⟨?_, ?_, ?_, ?_⟩, ?_⟩
  · refine (bel4 w _ _ _ _).drew.grown hgrow (by simp <;> omega) ?_
    intro k hk
    simp at hk
    omega
  · rw [hgrow.block _ (by simp <;> omega) (by simp <;> omega)]
    exact (at4 w _ _ _ _).1.trans (new1 w _ _)
  · rw [hgrow.block _ (by simp <;> omega) (by simp <;> omega)]
    exact (at4 w _ _ _ _).2.1.trans (new2 w _ _ _)
  · unfold OwnS
    rw [← HM.out]
    simpa using hown
  · rw [hgrow.block _ (by simp) (by simp)]
    exact (at4 w _ _ _ _).2.2.trans (new3 w _ _ _ _)
theorem grownC {w w3 : World} {n : Int} {x1 v : Value} {p : List ByteArray} {m : Nat} {row : Option Nat} (HM : Hid (m = p.length))
    (hown : w3.ownsRow (w.heap.size + 2) 9 1 v (0 + m) ([] ++ p.map Value.string))
    (hgrow : ((((w.alloc (.cells #[.int .i64 n, x1] 40)).alloc (.cells #[.int .i64 0, .slice none 0 0] 40)).alloc (.cells #[] 9)).alloc (.cells #[.int .i64 0, .slice none 0 0] 40)).drew.grownBy w3 row) (hrow : row = some (w.heap.size + 1 + 1)) : Grown w w3 n x1 v p ∧ w3.heap[w.heap.size + 1 + 1 + 1]? = some (.cells #[.int .i64 0, .slice none 0 0] 40 (0, 0)) := by
  subst hrow
  refine ⟨⟨?_, ?_, ?_, ?_⟩, ?_⟩
  · refine (bel4 w _ _ _ _).drew.grown hgrow (by simp <;> omega) ?_
    intro k hk
    simp at hk
    omega
  · rw [hgrow.block _ (by simp <;> omega) (by simp <;> omega)]
    exact (at4 w _ _ _ _).1.trans (new1 w _ _)
  · rw [hgrow.block _ (by simp <;> omega) (by simp)]
    exact (at4 w _ _ _ _).2.1.trans (new2 w _ _ _)
  · unfold OwnS
    rw [← HM.out]
    simpa using hown
  · rw [hgrow.block _ (by simp) (by simp)]
    exact new4 w _ _ _ _ _
theorem Grown.fresh {w w3 : World} {n : Int} {x1 v : Value} {p : List ByteArray} (h : Grown w w3 n x1 v p) : Aft3 w (w3.alloc (.cells #[.int .i64 n, v] 40)) n x1 w3.heap.size v p := by
  have hl0 := lt_of_row h.r0
  have hl1 := lt_of_row h.r1
  exact ⟨h.low.alloc h.low.size _, by rw [Below.heap_alloc _ _ _ hl0]; exact h.r0, by rw [Below.heap_alloc _ _ _ hl1]; exact h.r1, new1 w3 _ _, h.own.below ((Below.refl _ _).alloc (Nat.le_refl _) _), by omega⟩
theorem Grown.stored {w w3 : World} {n : Int} {x1 v : Value} {p : List ByteArray} {g : Nat} (h : Grown w w3 n x1 v p) (hg : w3.heap[g]? = some (.cells #[.int .i64 0, .slice none 0 0] 40 (0, 0))) (hf : w.heap.size + 2 ≤ g) : Aft3 w ((w3.setCell ⟨g, 0, none⟩ (.int .i64 n)).setCell ⟨g, 1, none⟩ v) n x1 g v p := by
  have h1 := heap_setCell_same w3 g 0 _ _ (.int .i64 n) hg
  have h2 := heap_setCell_same _ g 1 _ _ v h1
  refine ⟨(h.low.setCell (by simp; omega) _).setCell (by simp; omega) _, ?_, ?_, h2, own_set_var (own_set_var h.own hg _ _) h1 _ _, hf⟩
  · rw [heap_setCell_other _ _ _ _ (by simp; omega), heap_setCell_other _ _ _ _ (by simp; omega)]
    exact h.r0
  · rw [heap_setCell_other _ _ _ _ (by simp; omega), heap_setCell_other _ _ _ _ (by simp; omega)]
    exact h.r1
end Go.Proofs.YteiicafjjcnioaaDoor.Tr
