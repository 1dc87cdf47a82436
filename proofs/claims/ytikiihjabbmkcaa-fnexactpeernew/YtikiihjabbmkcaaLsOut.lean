/- A block of four cells that an answer is written into. -/
import Derived.Test.YtikiihjabbmkcaaLsArg
namespace Go.Proofs.Ytikiihjabbmkcaa.Ls
open Go.RowKit

def oV (z b : Int) (r : ByteArray) (c : Int) : Value := .agg #[.int .i64 z, .int .i64 b, .string r, .int .i64 c]
theorem cells4 {W : World} {g : Nat} {x y z u : Value} {t : TypeId} (h : W.heap[g]? = some (.cells #[x, y, z, u] t (0, 0))) : W.cell? ⟨g, 0, none⟩ = some x ∧ W.cell? ⟨g, 1, none⟩ = some y ∧ W.cell? ⟨g, 2, none⟩ = some z ∧ W.cell? ⟨g, 3, none⟩ = some u :=
  ⟨cell_of_row W g 0 _ _ _ h, cell_of_row W g 1 _ _ _ h, cell_of_row W g 2 _ _ _ h, cell_of_row W g 3 _ _ _ h⟩
theorem set_k4 {W : World} {g : Nat} {x y z u : Value} {T : TypeId} (h : W.heap[g]? = some (.cells #[x, y, z, u] T (0, 0))) (v : Value) : (W.setCell ⟨g, 0, none⟩ v).heap[g]? = some (.cells #[v, y, z, u] T (0, 0)) ∧ (W.setCell ⟨g, 1, none⟩ v).heap[g]? = some (.cells #[x, v, z, u] T (0, 0)) ∧ (W.setCell ⟨g, 2, none⟩ v).heap[g]? = some (.cells #[x, y, v, u] T (0, 0)) ∧ (W.setCell ⟨g, 3, none⟩ v).heap[g]? = some (.cells #[x, y, z, v] T (0, 0)) := by
  refine ⟨?_, ?_, ?_, ?_⟩
  · rw [heap_setCell_same W g 0 _ T v h]; rfl
  · rw [heap_setCell_same W g 1 _ T v h]; rfl
  · rw [heap_setCell_same W g 2 _ T v h]; rfl
  · rw [heap_setCell_same W g 3 _ T v h]; rfl
theorem set4_cells {W : World} {g : Nat} {x y z u : Value} {T : TypeId} (h : W.heap[g]? = some (.cells #[x, y, z, u] T (0, 0))) (a b c d : Value) :
    ((((W.setCell ⟨g, 0, none⟩ a).setCell ⟨g, 1, none⟩ b).setCell ⟨g, 2, none⟩ c).setCell ⟨g, 3, none⟩ d).cell? ⟨g, 0, none⟩ = some a ∧ ((((W.setCell ⟨g, 0, none⟩ a).setCell ⟨g, 1, none⟩ b).setCell ⟨g, 2, none⟩ c).setCell ⟨g, 3, none⟩ d).cell? ⟨g, 1, none⟩ = some b ∧ ((((W.setCell ⟨g, 0, none⟩ a).setCell ⟨g, 1, none⟩ b).setCell ⟨g, 2, none⟩ c).setCell ⟨g, 3, none⟩ d).cell? ⟨g, 2, none⟩ = some c ∧ ((((W.setCell ⟨g, 0, none⟩ a).setCell ⟨g, 1, none⟩ b).setCell ⟨g, 2, none⟩ c).setCell ⟨g, 3, none⟩ d).cell? ⟨g, 3, none⟩ = some d :=
  cells4 (set_k4 (set_k4 (set_k4 (set_k4 h a).1 b).2.1 c).2.2.1 d).2.2.2
theorem set4_low {B : Nat} {w W : World} (h : Below B w W) (a b c d : Value) : Below B w ((((W.setCell ⟨B, 0, none⟩ a).setCell ⟨B, 1, none⟩ b).setCell ⟨B, 2, none⟩ c).setCell ⟨B, 3, none⟩ d) := (((h.setCell (p := ⟨B, 0, none⟩) (Nat.le_refl _) a).setCell (p := ⟨B, 1, none⟩) (Nat.le_refl _) b).setCell (p := ⟨B, 2, none⟩) (Nat.le_refl _) c).setCell (p := ⟨B, 3, none⟩) (Nat.le_refl _) d
theorem lowB {B : Nat} {w0 w w' : World} (hB : w0.heap.size = B) (h : Below B w0 w) (hb : Below w.heap.size w w') : Below B w0 w' := h.trans (hb.mono (by rw [← hB]; exact h.size))
theorem lowB_alloc {B : Nat} {w0 w : World} (hB : w0.heap.size = B) (h : Below B w0 w) (o : Obj) : Below B w0 (w.alloc o) := h.alloc (by rw [← hB]; exact h.size) o
theorem blk_alloc {W : World} {g : Nat} {x : Obj} (h : W.heap[g]? = some x) (o : Obj) : (W.alloc o).heap[g]? = some x := blkL h ((Below.refl _ _).alloc (Nat.le_refl _) o)

set_option maxRecDepth 100000 in
set_option maxHeartbeats 1000000 in
theorem eqL_same (z b : Int) (r : ByteArray) (w : World) :
    Calls Try.prog 32 #[.agg #[.int .i64 z, .int .i64 b, .string r], .agg #[.int .i64 z, .int .i64 b, .string r]] w fun e w' => e = .returned (.bool true) ∧ Below w.heap.size w w' := by
  have h1 : (z != z) = false := by simp
  have h2 : (b != b) = false := by simp
  go_enter Try.func32, Try.ntmps32
  go_wp2
  go_ret
  exact ⟨rfl, ((Below.refl _ _).alloc (Nat.le_refl _) _).alloc (by simp) _⟩
end Go.Proofs.Ytikiihjabbmkcaa.Ls
