/- What is kept: the blocks that a walk has laid; a Keep in memory. -/
import Derived.Test.YtikiihjabbmkcaaLsOut
import Derived.Deep.Cut
import Derived.RegionTactic
import Derived.BigRegion
import Derived.Deep.RegionWith
namespace Go.Proofs.Ytikiihjabbmkcaa.Kp
open Go.RowKit
open Go.Proofs.Ytikiihjabbmkcaa.Ls (blkL lowL blk_alloc)

theorem hideK {p : Prop} (h : p) : Hid p := h
/-- nothing that was there at first has turned, and these blocks are laid -/
structure Cx (w0 W : World) (l : List (Nat × Obj)) : Prop where
  low : Below w0.heap.size w0 W
  blk : ∀ x ∈ l, W.heap[x.1]? = some x.2
theorem Cx.nil (w : World) : Cx w w [] := ⟨Below.refl _ _, fun _ h => absurd h List.not_mem_nil⟩
theorem Cx.call {w0 W W' : World} {l : List (Nat × Obj)} (h : Cx w0 W l) (hb : Below W.heap.size W W') : Cx w0 W' l := ⟨lowL h.low hb, fun x hx => blkL (h.blk x hx) hb⟩
theorem Cx.new {w0 W : World} {l : List (Nat × Obj)} (h : Cx w0 W l) (o : Obj) : Cx w0 (W.alloc o) ((W.heap.size, o) :: l) :=
  ⟨h.low.alloc h.low.size o, fun x hx => by
    rcases List.mem_cons.1 hx with rfl | hx
    · exact heap_alloc_new W o
    · exact blk_alloc (h.blk x hx) o⟩
theorem Cx.drew {w0 W : World} {l : List (Nat × Obj)} (h : Cx w0 W l) : Cx w0 W.drew l := ⟨h.low.drew, h.blk⟩
theorem Cx.get {w0 W : World} {l : List (Nat × Obj)} (h : Cx w0 W l) (i : Nat) {g : Nat} {o : Obj} (hx : l[i]? = some (g, o)) : W.heap[g]? = some o := h.blk (g, o) (List.mem_of_getElem? hx)
theorem set3_low {w0 W : World} {g : Nat} (h : Below w0.heap.size w0 W) (hg : w0.heap.size ≤ g) (a b c : Value) : Below w0.heap.size w0 (((W.setCell ⟨g, 0, none⟩ a).setCell ⟨g, 1, none⟩ b).setCell ⟨g, 2, none⟩ c) :=
  ((h.setCell (p := ⟨g, 0, none⟩) hg a).setCell (p := ⟨g, 1, none⟩) hg b).setCell (p := ⟨g, 2, none⟩) hg c
theorem ty_ne {W : World} {g h : Nat} {cs ds : Array Value} {T U : TypeId} (hg : W.heap[g]? = some (.cells cs T (0, 0))) (hh : W.heap[h]? = some (.cells ds U (0, 0))) (hT : T ≠ U) : ¬ g = h := by
  rintro rfl
  rw [hg] at hh
  simp at hh
  exact hT hh.2
theorem lt_rowK {w : World} {g : Nat} {o : Obj} (h : w.heap[g]? = some o) : g < w.heap.size := (Array.getElem?_eq_some_iff.1 h).1
theorem Cx.grown {w W W' : World} {l : List (Nat × Obj)} {row : Option Nat} (h : Cx w W l) (hg : W.grownBy W' row) (hr : ∀ k, row = some k → w.heap.size ≤ k) (hne : ∀ x ∈ l, row ≠ some x.1) : Cx w W' l :=
  ⟨h.low.grown hg h.low.size hr, fun x hx => (hg.block x.1 (lt_rowK (h.blk x hx)) (fun e => hne x hx e.symm)).trans (h.blk x hx)⟩
theorem Cx.set {w W : World} {l : List (Nat × Obj)} {g : Nat} (h : Cx w W l) (hg : w.heap.size ≤ g) (hne : ∀ x ∈ l, x.1 ≠ g) (i : Nat) (v : Value) : Cx w (W.setCell ⟨g, i, none⟩ v) l :=
  ⟨h.low.setCell (p := ⟨g, i, none⟩) hg v, fun x hx => by rw [heap_setCell_other _ _ x.1 _ (by exact hne x hx)]; exact h.blk x hx⟩
def kV (z b : Int) (r s : ByteArray) (y : Int) : Value := .agg #[.int .i64 z, .int .i64 b, .string r, .string s, .int .i64 y]
def kB (z b : Int) (r s : ByteArray) (y : Int) : Obj := .cells #[.int .i64 z, .int .i64 b, .string r, .string s, .int .i64 y] 27
theorem k_cells {W : World} {g : Nat} {z b : Int} {r s : ByteArray} {y : Int} (h : W.heap[g]? = some (kB z b r s y)) : W.cell? ⟨g, 0, none⟩ = some (.int .i64 z) ∧ W.cell? ⟨g, 1, none⟩ = some (.int .i64 b) ∧ W.cell? ⟨g, 2, none⟩ = some (.string r) ∧ W.cell? ⟨g, 3, none⟩ = some (.string s) ∧ W.cell? ⟨g, 4, none⟩ = some (.int .i64 y) :=
  ⟨cell_of_row W g 0 _ _ _ h, cell_of_row W g 1 _ _ _ h, cell_of_row W g 2 _ _ _ h, cell_of_row W g 3 _ _ _ h, cell_of_row W g 4 _ _ _ h⟩
theorem set5 {W : World} {g : Nat} {x0 x1 x2 x3 x4 : Value} {T : TypeId} (h : W.heap[g]? = some (.cells #[x0, x1, x2, x3, x4] T (0, 0))) (a0 a1 a2 a3 a4 : Value) :
    (((((W.setCell ⟨g, 0, none⟩ a0).setCell ⟨g, 1, none⟩ a1).setCell ⟨g, 2, none⟩ a2).setCell ⟨g, 3, none⟩ a3).setCell ⟨g, 4, none⟩ a4).heap[g]? = some (.cells #[a0, a1, a2, a3, a4] T (0, 0)) := by
  have h0 : (W.setCell ⟨g, 0, none⟩ a0).heap[g]? = some (.cells #[a0, x1, x2, x3, x4] T (0, 0)) := by rw [heap_setCell_same W g 0 _ T a0 h]; rfl
  have h1 := heap_setCell_same _ g 1 _ T a1 h0
  have h2 := heap_setCell_same _ g 2 _ T a2 h1
  have h3 := heap_setCell_same _ g 3 _ T a3 h2
  have h4 := heap_setCell_same _ g 4 _ T a4 h3
  exact h4
theorem set5_low {w0 W : World} {g : Nat} (h : Below w0.heap.size w0 W) (hg : w0.heap.size ≤ g) (a0 a1 a2 a3 a4 : Value) :
    Below w0.heap.size w0 (((((W.setCell ⟨g, 0, none⟩ a0).setCell ⟨g, 1, none⟩ a1).setCell ⟨g, 2, none⟩ a2).setCell ⟨g, 3, none⟩ a3).setCell ⟨g, 4, none⟩ a4) :=
  ((((h.setCell (p := ⟨g, 0, none⟩) hg a0).setCell (p := ⟨g, 1, none⟩) hg a1).setCell (p := ⟨g, 2, none⟩) hg a2).setCell (p := ⟨g, 3, none⟩) hg a3).setCell (p := ⟨g, 4, none⟩) hg a4
theorem cells5 {W : World} {g : Nat} {x0 x1 x2 x3 x4 : Value} {T : TypeId} (h : W.heap[g]? = some (.cells #[x0, x1, x2, x3, x4] T (0, 0))) : W.cell? ⟨g, 0, none⟩ = some x0 ∧ W.cell? ⟨g, 1, none⟩ = some x1 ∧ W.cell? ⟨g, 2, none⟩ = some x2 ∧ W.cell? ⟨g, 3, none⟩ = some x3 ∧ W.cell? ⟨g, 4, none⟩ = some x4 :=
  ⟨cell_of_row W g 0 _ _ _ h, cell_of_row W g 1 _ _ _ h, cell_of_row W g 2 _ _ _ h, cell_of_row W g 3 _ _ _ h, cell_of_row W g 4 _ _ _ h⟩
/-- five cells that may be read and written -/
def Five (W : World) (g : Nat) (x0 x1 x2 x3 x4 : Value) : Prop :=
  (W.cell? ⟨g, 0, none⟩ = some x0 ∧ W.cell? ⟨g, 1, none⟩ = some x1 ∧ W.cell? ⟨g, 2, none⟩ = some x2 ∧ W.cell? ⟨g, 3, none⟩ = some x3 ∧ W.cell? ⟨g, 4, none⟩ = some x4) ∧ W.frozen? ⟨g, 0, none⟩ = false ∧ W.frozen? ⟨g, 1, none⟩ = false ∧ W.frozen? ⟨g, 2, none⟩ = false ∧ W.frozen? ⟨g, 3, none⟩ = false ∧ W.frozen? ⟨g, 4, none⟩ = false
theorem five_of {W : World} {g : Nat} {x0 x1 x2 x3 x4 : Value} {T : TypeId} (h : W.heap[g]? = some (.cells #[x0, x1, x2, x3, x4] T (0, 0))) : Five W g x0 x1 x2 x3 x4 :=
  ⟨cells5 h, frozen_of_row W g 0 _ _ h, frozen_of_row W g 1 _ _ h, frozen_of_row W g 2 _ _ h, frozen_of_row W g 3 _ _ h, frozen_of_row W g 4 _ _ h⟩
def kZ : Obj := .cells #[.int .i64 0, .int .i64 0, .string ⟨#[]⟩, .string ⟨#[]⟩, .int .i64 0] 27
/-- the answer is written -/
theorem ans5 {w W : World} {g : Nat} {x0 x1 x2 x3 x4 : Value} (h : W.heap[g]? = some (.cells #[x0, x1, x2, x3, x4] 27 (0, 0))) (hl : Below w.heap.size w W) (hg : w.heap.size ≤ g) (a0 a1 a2 a3 a4 : Value) :
    Below w.heap.size w (((((W.setCell ⟨g, 0, none⟩ a0).setCell ⟨g, 1, none⟩ a1).setCell ⟨g, 2, none⟩ a2).setCell ⟨g, 3, none⟩ a3).setCell ⟨g, 4, none⟩ a4) ∧ (((((W.setCell ⟨g, 0, none⟩ a0).setCell ⟨g, 1, none⟩ a1).setCell ⟨g, 2, none⟩ a2).setCell ⟨g, 3, none⟩ a3).setCell ⟨g, 4, none⟩ a4).heap[g]? = some (.cells #[a0, a1, a2, a3, a4] 27 (0, 0)) :=
  ⟨set5_low hl hg _ _ _ _ _, set5 h _ _ _ _ _⟩
end Go.Proofs.Ytikiihjabbmkcaa.Kp
