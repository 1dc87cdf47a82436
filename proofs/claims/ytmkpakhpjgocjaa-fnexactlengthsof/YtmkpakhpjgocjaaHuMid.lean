/- Between the two takes of depthsOf. -/
import Derived.Test.YtmkpakhpjgocjaaHuDeep
namespace Go.Proofs.Ytmkpakhpjgocjaa.Hf
open Go.RowKit
open Go.Proofs.Ytmkpakhpjgocjaa.In (IsI irow Ints made_ints)

structure Mid (wr W : World) (g gl cap k : Nat) (m : List MT) (d : List Nat) (a5 b5 a6 b6 : Value) : Prop where
  row : ∃ cur : Array Value, W.heap[g]? = some (.cells cur 109 (0, 0)) ∧ cur.size = cap * 2 ∧ cur.toList.take (k * 2) = cells m
  len : IsI W gl 2 (up d)
  wrt : Wr g gl wr W
  kp : Keeps wr W
  p5 : W.heap[wr.heap.size]? = some (.cells #[a5, b5] 109 (0, 0))
  p6 : W.heap[wr.heap.size + 1]? = some (.cells #[a6, b6] 109 (0, 0))
  hg : g < wr.heap.size
  hl : gl < wr.heap.size
theorem Mid.start {wr : World} {g gl cap k : Nat} {m : List MT} {d : List Nat} {cur : Array Value} (hb : wr.heap[g]? = some (.cells cur 109 (0, 0))) (hs : cur.size = cap * 2) (ht : cur.toList.take (k * 2) = cells m) (hd : IsI wr gl 2 (up d)) :
    Mid wr ((wr.alloc (.cells #[.int .i64 0, .slice none 0 0] 109)).alloc (.cells #[.int .i64 0, .slice none 0 0] 109)) g gl cap k m d (.int .i64 0) (.slice none 0 0) (.int .i64 0) (.slice none 0 0) := by
  have hB : Below wr.heap.size wr ((wr.alloc (.cells #[.int .i64 0, .slice none 0 0] 109)).alloc (.cells #[.int .i64 0, .slice none 0 0] 109)) := ((Below.refl _ _).alloc (Nat.le_refl _) _).alloc (by simp) _
  refine ⟨⟨cur, (hB.block g (lt_row hb)).trans hb, hs, ht⟩, hd.below hB hd.lt, Wr.of hB, Keeps.below hB, (Below.heap_alloc _ _ _ (by simp)).trans (heap_alloc_new wr _), ?_, lt_row hb, hd.lt⟩
  have := heap_alloc_new (wr.alloc (.cells #[.int .i64 0, .slice none 0 0] 109)) (.cells #[.int .i64 0, .slice none 0 0] 109)
  rw [show (wr.alloc (.cells #[.int .i64 0, .slice none 0 0] 109)).heap.size = wr.heap.size + 1 by simp] at this
  exact this
theorem Mid.take {wr W W' : World} {g gl cap k k' : Nat} {m m' : List MT} {d d' : List Nat} {a5 b5 a6 b6 : Value} (h : Mid wr W g gl cap k m d a5 b5 a6 b6) (hr : ∃ cur : Array Value, W'.heap[g]? = some (.cells cur 109 (0, 0)) ∧ cur.size = cap * 2 ∧ cur.toList.take (k' * 2) = cells m') (hd : IsI W' gl 2 (up d')) (hw : Wr g gl W W') : Mid wr W' g gl cap k' m' d' a5 b5 a6 b6 := by
  obtain ⟨cur, hb, _⟩ := h.row
  have h1 := h.hg
  have h2 := h.hl
  exact ⟨hr, hd, h.wrt.trans hw, h.kp.trans (Keeps.wr hw hb (by decide) h.len (by decide)), (hw.block _ (lt_row h.p5) (by omega) (by omega)).trans h.p5, (hw.block _ (lt_row h.p6) (by omega) (by omega)).trans h.p6, h1, h2⟩
theorem Mid.set5 {wr W : World} {g gl cap k : Nat} {m : List MT} {d : List Nat} {a5 b5 a6 b6 : Value} (h : Mid wr W g gl cap k m d a5 b5 a6 b6) (x y : Value) : Mid wr ((W.setCell ⟨wr.heap.size, 0, none⟩ x).setCell ⟨wr.heap.size, 1, none⟩ y) g gl cap k m d x y a6 b6 := by
  obtain ⟨cur, hb, hs, ht⟩ := h.row
  have h1 := h.hg
  have h2 := h.hl
  have e1 := heap_setCell_same W wr.heap.size 0 _ _ x h.p5
  have e2 := heap_setCell_same _ wr.heap.size 1 _ _ y e1
  refine ⟨⟨cur, ?_, hs, ht⟩, (h.len.set_other _ _ (by show gl ≠ wr.heap.size; omega)).set_other _ _ (by show gl ≠ wr.heap.size; omega), (h.wrt.new (Nat.le_refl _) _ _).new (Nat.le_refl _) _ _, (h.kp.trans (Keeps.set h.p5 (by decide) _ _)).trans (Keeps.set e1 (by decide) _ _), e2, ?_, h1, h2⟩
  · rw [heap_setCell_other _ _ _ _ (by show g ≠ wr.heap.size; omega), heap_setCell_other _ _ _ _ (by show g ≠ wr.heap.size; omega)]
    exact hb
  · rw [heap_setCell_other _ _ _ _ (by show wr.heap.size + 1 ≠ wr.heap.size; omega), heap_setCell_other _ _ _ _ (by show wr.heap.size + 1 ≠ wr.heap.size; omega)]
    exact h.p6
theorem Mid.set6 {wr W : World} {g gl cap k : Nat} {m : List MT} {d : List Nat} {a5 b5 a6 b6 : Value} (h : Mid wr W g gl cap k m d a5 b5 a6 b6) (x y : Value) : Mid wr ((W.setCell ⟨wr.heap.size + 1, 0, none⟩ x).setCell ⟨wr.heap.size + 1, 1, none⟩ y) g gl cap k m d a5 b5 x y := by
  obtain ⟨cur, hb, hs, ht⟩ := h.row
  have h1 := h.hg
  have h2 := h.hl
  have e1 := heap_setCell_same W (wr.heap.size + 1) 0 _ _ x h.p6
  have e2 := heap_setCell_same _ (wr.heap.size + 1) 1 _ _ y e1
  refine ⟨⟨cur, ?_, hs, ht⟩, (h.len.set_other _ _ (by show gl ≠ wr.heap.size + 1; omega)).set_other _ _ (by show gl ≠ wr.heap.size + 1; omega), (h.wrt.new (by omega) _ _).new (by omega) _ _, (h.kp.trans (Keeps.set h.p6 (by decide) _ _)).trans (Keeps.set e1 (by decide) _ _), ?_, e2, h1, h2⟩
  · rw [heap_setCell_other _ _ _ _ (by show g ≠ wr.heap.size + 1; omega), heap_setCell_other _ _ _ _ (by show g ≠ wr.heap.size + 1; omega)]
    exact hb
  · rw [heap_setCell_other _ _ _ _ (by show wr.heap.size ≠ wr.heap.size + 1; omega), heap_setCell_other _ _ _ _ (by show wr.heap.size ≠ wr.heap.size + 1; omega)]
    exact h.p5
theorem Mid.below {wr W W' : World} {g gl cap k : Nat} {m : List MT} {d : List Nat} {a5 b5 a6 b6 : Value} (h : Mid wr W g gl cap k m d a5 b5 a6 b6) (hb : Below W.heap.size W W') : Mid wr W' g gl cap k m d a5 b5 a6 b6 := by
  obtain ⟨cur, hc, hs, ht⟩ := h.row
  exact ⟨⟨cur, (hb.block g (lt_row hc)).trans hc, hs, ht⟩, h.len.below hb h.len.lt, h.wrt.more hb, h.kp.trans (Keeps.below hb), (hb.block _ (lt_row h.p5)).trans h.p5, (hb.block _ (lt_row h.p6)).trans h.p6, h.hg, h.hl⟩
theorem Mid.cells5 {wr W : World} {g gl cap k : Nat} {m : List MT} {d : List Nat} {a5 b5 a6 b6 : Value} (h : Mid wr W g gl cap k m d a5 b5 a6 b6) : W.cell? ⟨wr.heap.size, 0, none⟩ = some a5 ∧ W.cell? ⟨wr.heap.size, 1, none⟩ = some b5 ∧ W.frozen? ⟨wr.heap.size, 0, none⟩ = false ∧ W.frozen? ⟨wr.heap.size, 1, none⟩ = false :=
  ⟨cell_of_row W _ 0 _ _ _ h.p5, cell_of_row W _ 1 _ _ _ h.p5, frozen_of_row W _ 0 _ _ h.p5, frozen_of_row W _ 1 _ _ h.p5⟩
theorem Mid.cells6 {wr W : World} {g gl cap k : Nat} {m : List MT} {d : List Nat} {a5 b5 a6 b6 : Value} (h : Mid wr W g gl cap k m d a5 b5 a6 b6) : W.cell? ⟨wr.heap.size + 1, 0, none⟩ = some a6 ∧ W.cell? ⟨wr.heap.size + 1, 1, none⟩ = some b6 ∧ W.frozen? ⟨wr.heap.size + 1, 0, none⟩ = false ∧ W.frozen? ⟨wr.heap.size + 1, 1, none⟩ = false :=
  ⟨cell_of_row W _ 0 _ _ _ h.p6, cell_of_row W _ 1 _ _ _ h.p6, frozen_of_row W _ 0 _ _ h.p6, frozen_of_row W _ 1 _ _ h.p6⟩
end Go.Proofs.Ytmkpakhpjgocjaa.Hf
