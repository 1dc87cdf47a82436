/- A List handed to a law: its bytes counted, and the List of impl made of it. -/
import Derived.Test.YtikiihjabbmkcaaLsRight
namespace Go.Proofs.Ytikiihjabbmkcaa.Ls
open Go.RowKit

set_option maxRecDepth 100000 in
theorem sz_yes (z b : Int) (r : ByteArray) (w : World) (h : r.size ≤ 1048576) :
    Calls Try.prog 4 #[lV z b r, .int .i64 1048576] w fun e w' => e = .returned (.int .i64 (1048576 - (r.size : Int))) ∧ Below w.heap.size w w' := by
  unfold lV
  have hwr : IntKind.i64.wrap (1048576 - (r.size : Int)) = 1048576 - (r.size : Int) := by rw [IntKind.wrap_i64]; omega
  have h1 : ¬ (1048576 - (r.size : Int)) < 0 := by omega
  have h2 : decide ((1048576 - (r.size : Int)) < 0) = false := by simp; omega
  go_enter Try.func4, Try.ntmps4
  go_wp2_with fail
  go_ret
  exact ⟨rfl, (Below.refl _ _).alloc (Nat.le_refl _) _⟩
set_option maxRecDepth 100000 in
theorem sz_no (z b : Int) (r : ByteArray) (w : World) (hr : r.size ≤ 9223372036854775807) (h : 1048576 < r.size) :
    Calls Try.prog 4 #[lV z b r, .int .i64 1048576] w fun e w' => e = .returned (.int .i64 (-1)) ∧ Below w.heap.size w w' := by
  unfold lV
  have hwr : IntKind.i64.wrap (1048576 - (r.size : Int)) = 1048576 - (r.size : Int) := by rw [IntKind.wrap_i64]; omega
  have h1 : (1048576 - (r.size : Int)) < 0 := by omega
  go_enter Try.func4, Try.ntmps4
  go_wp2_with fail
  go_ret
  exact ⟨rfl, (Below.refl _ _).alloc (Nat.le_refl _) _⟩

set_option maxRecDepth 100000 in
set_option maxHeartbeats 1000000 in
theorem to_any (z b : Int) (r : ByteArray) (w : World) :
    Calls Try.prog 6 #[lV z b r] w fun e w' => e = .returned (lV z b r) ∧ Below w.heap.size w w' := by
  unfold lV
  go_enter Try.func6, Try.ntmps6
  go_wp2
  refine bodyPost_ret (v := .agg #[.int .i64 z, .int .i64 b, .string r]) (by simp [results, Try.results6, go_sem]) rfl ⟨rfl, ?_⟩
  exact (((Below.refl _ _).alloc (Nat.le_refl _) _).alloc (by simp) _).alloc (by simp; omega) _
theorem blkL {w w' : World} {g : Nat} {x : Obj} (h : w.heap[g]? = some x) (hb : Below w.heap.size w w') : w'.heap[g]? = some x := (hb.block g (Array.getElem?_eq_some_iff.1 h).1).trans h
theorem lowL {w0 w w' : World} (h : Below w0.heap.size w0 w) (hb : Below w.heap.size w w') : Below w0.heap.size w0 w' := h.trans (hb.mono h.size)
theorem cells3 {W : World} {g : Nat} {x y z : Value} {t : TypeId} (h : W.heap[g]? = some (.cells #[x, y, z] t (0, 0))) : W.cell? ⟨g, 0, none⟩ = some x ∧ W.cell? ⟨g, 1, none⟩ = some y ∧ W.cell? ⟨g, 2, none⟩ = some z :=
  ⟨cell_of_row W g 0 _ _ _ h, cell_of_row W g 1 _ _ _ h, cell_of_row W g 2 _ _ _ h⟩
end Go.Proofs.Ytikiihjabbmkcaa.Ls
