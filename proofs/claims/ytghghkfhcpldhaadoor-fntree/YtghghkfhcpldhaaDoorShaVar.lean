/- A package variable that holds a row of numbers: its block bears whatever mark. -/
import Derived.Test.YtghghkfhcpldhaaDoorShaLaws
namespace Go.Proofs.YtghghkfhcpldhaaDoor.Sh
open Go.RowKit

def IsV (w : World) (g : Nat) (k : IntKind) (n : Nat) (f : Nat → Int) : Prop := ∃ t fr, w.heap[g]? = some (.cells (rowF k n f) t fr)

theorem IsV.cell {w : World} {g : Nat} {k : IntKind} {n : Nat} {f : Nat → Int} (h : IsV w g k n f) {j : Nat} (hj : j < n) : w.cell? ⟨g, j, none⟩ = some (.int k (f j)) := by
  obtain ⟨t, fr, h⟩ := h
  rw [cell_of_row w g j _ t fr h, rowF_get k n f j hj]
theorem IsV.lt {w : World} {g : Nat} {k : IntKind} {n : Nat} {f : Nat → Int} (h : IsV w g k n f) : g < w.heap.size := by
  obtain ⟨t, fr, h⟩ := h
  exact (Array.getElem?_eq_some_iff.1 h).1
theorem IsV.of_heap {w w' : World} {g : Nat} {k : IntKind} {n : Nat} {f : Nat → Int} (h : IsV w g k n f) (e : w'.heap[g]? = w.heap[g]?) : IsV w' g k n f := by
  obtain ⟨t, fr, h⟩ := h
  exact ⟨t, fr, by rw [e]; exact h⟩
theorem IsV.below {w w' : World} {g B : Nat} {k : IntKind} {n : Nat} {f : Nat → Int} (h : IsV w g k n f) (b : Below B w w') (hg : g < B) : IsV w' g k n f := h.of_heap (b.block g hg)

theorem wpList_load_var {P : Program} {w : World} {ops : Array Oper} {rest : List Oper} {a : Act} {Q : Exit → Act → World → Prop} {d : Tmp} {p : Operand} {ty tt : TypeId} {pos : String} {af : Array Edge}
    {g : Nat} {k : IntKind} {n : Nat} {f : Nat → Int} {e : TypeId} (hb : IsV w g k n f) (hu : P.underlying ty = some (.array n e)) (hi : (P.info? ty).map (·.size) = some n)
    (hp : a.eval p = .pointer (some ⟨g, 0, none⟩)) (h : wpList P ops Q rest (a.put (some d) (.agg (rowF k n f))) w) :
    wpList P ops Q (⟨some d, .load ty p, tt, pos, af, none⟩ :: rest) a w := by
  refine wpList_plain rfl fun K hK => ?_
  obtain ⟨t, fr, hb⟩ := hb
  have hl : (Instr.loadAt ty (.pointer (some ⟨g, 0, none⟩))).run P w = .ok (.agg (rowF k n f)) w := by
    simp only [Instr.loadAt, Instr.sureAddr, Sem.run_bind, Sem.run_pure, Result.andThen]
    exact run_loadVar_row w g t ty _ fr _ hb hu rfl (by rw [rowF_size]; exact hi)
  unfold Oper.wp
  simp [execOp, hp, hl, Result.andThen]
  exact hK _ _ h
end Go.Proofs.YtghghkfhcpldhaaDoor.Sh
