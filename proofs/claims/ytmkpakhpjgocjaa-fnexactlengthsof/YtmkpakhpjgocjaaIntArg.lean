/- A slice of numbers that came in. -/
import Derived.Test.YtmkpakhpjgocjaaIntRow
namespace Go.Proofs.Ytmkpakhpjgocjaa.In
open Go.RowKit

def IsNums (w : World) (a : Option Addr) (len cap : Nat) (zs : List Int) : Prop :=
  (a = none ∧ len = 0 ∧ cap = 0 ∧ zs = []) ∨
  ∃ x, a = some x ∧ len ≤ cap ∧ cap ≤ maxLen ∧ zs.length = cap ∧ (∀ i, i < zs.length → w.cell? (x.add i) = some (.int .i64 (zs.getD i 0))) ∧ ∀ n ∈ zs, (Lit.int .i64 n).wf = true
/-- numbers of 64 bits -/
def Wf (l : List Int) : Prop := ∀ n ∈ l, -9223372036854775808 ≤ n ∧ n ≤ 9223372036854775807
theorem Wf.get {l : List Int} (h : Wf l) (j : Nat) (hj : j < l.length) : -9223372036854775808 ≤ l[j] ∧ l[j] ≤ 9223372036854775807 := h _ (List.getElem_mem hj)

theorem ints_of {w : World} {a : Option Addr} {len cap : Nat} {ss : List Int} (h : IsNums w a len cap ss) :
    ∃ l : List Int, l.length = len ∧ Ints w w.heap.size a l ∧ len ≤ maxLen ∧ len ≤ cap ∧ Wf l := by
  rcases h with ⟨_, rfl, rfl, _⟩ | ⟨x, rfl, hlc, hm, hz, hc, hw⟩
  · exact ⟨[], rfl, .inl rfl, by decide, Nat.le_refl _, fun s hs => by cases hs⟩
  · refine ⟨ss.take len, by rw [List.length_take]; omega, ?_, by omega, hlc, fun s hs => by
      have := hw s (List.mem_of_mem_take hs)
      simpa [Lit.wf, IntKind.min, IntKind.max, IntKind.signed, IntKind.bits] using this⟩
    rcases Nat.eq_zero_or_pos len with h0 | h0
    · subst h0
      exact .inl rfl
    · obtain ⟨b, off, spot⟩ := x
      have hc0 := hc 0 (by omega)
      have hspot : spot = none := by simpa [Addr.add] using World.cell?_spot hc0
      subst hspot
      have e : ∀ i, (⟨b, off, none⟩ : Addr).add i = ⟨b, off + i, none⟩ := fun i => by unfold Addr.add; split <;> simp_all
      have hlt := World.block_lt_of_cell? w _ hc0
      rw [e 0] at hlt
      refine .inr ⟨b, off, rfl, hlt, fun j hj => ?_⟩
      rw [List.length_take] at hj
      have hj' : j < ss.length := by omega
      rw [← e j, hc j hj', List.getElem_take, List.getD_eq_getElem?_getD, List.getElem?_eq_getElem hj']
      rfl
end Go.Proofs.Ytmkpakhpjgocjaa.In
