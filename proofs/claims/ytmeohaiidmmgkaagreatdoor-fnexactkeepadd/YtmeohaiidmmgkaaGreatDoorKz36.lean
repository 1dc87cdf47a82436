/- Texts put together: TreeWalks, TreeSpec, StrArg, TreeTop. -/
import Derived.Test.YtmeohaiidmmgkaaGreatDoorKz35
import Derived.Deep.RegionWith
import Derived.BigRegion
import Derived.Test.YtmeohaiidmmgkaaGreatDoorKz13
/- The walk of impl.treeOf: of right entries it answers their tree, and writes nothing that was there. -/
namespace Go.Proofs.YtmeohaiidmmgkaaGreatDoor.Tr
open Go.RowKit
open Go.Proofs.YtmeohaiidmmgkaaGreatDoor.St
open Go.Proofs.YtmeohaiidmmgkaaGreatDoor.Sh (Vars leafV nodeV leafR nodeR leaf_impl node_impl digest_impl digestV leafR_yes nodeR_yes below3)
end Go.Proofs.YtmeohaiidmmgkaaGreatDoor.Tr


/- The walk of spec.l03Tree: of right entries it answers their tree, and writes nothing that was there. -/
namespace Go.Proofs.YtmeohaiidmmgkaaGreatDoor.Tr
open Go.RowKit
open Go.Proofs.YtmeohaiidmmgkaaGreatDoor.St
open Go.Proofs.YtmeohaiidmmgkaaGreatDoor.Sh (leafV nodeV all_any l03Leaf_any l03Node_any)
end Go.Proofs.YtmeohaiidmmgkaaGreatDoor.Tr


/- A slice of texts that came in. -/
namespace Go.Proofs.YtmeohaiidmmgkaaGreatDoor.St
open Go.RowKit
def IsStrs (w : World) (a : Option Addr) (len cap : Nat) (ss : List ByteArray) : Prop :=
 (a = none ∧ len = 0 ∧ cap = 0 ∧ ss = []) ∨
 ∃ x, a = some x ∧ len ≤ cap ∧ cap ≤ maxLen ∧ ss.length = cap ∧ (∀ i, i < ss.length → w.cell? (x.add i) = some (.string (ss.getD i ByteArray.empty))) ∧ ∀ s ∈ ss, s.size ≤ maxLen
theorem strs_of {w : World} {a : Option Addr} {len cap : Nat} {ss : List ByteArray} (h : IsStrs w a len cap ss) :
  ∃ l : List ByteArray, l.length = len ∧ Strs w w.heap.size a l ∧ len ≤ maxLen ∧ len ≤ cap ∧ ∀ s ∈ l, s.size ≤ maxLen := by
 rcases h with ⟨_, rfl, rfl, _⟩ | ⟨x, rfl, hlc, hm, hz, hc, hw⟩
 ·exact ⟨[], rfl, .inl rfl, by decide, Nat.le_refl _, fun s hs => by cases hs⟩
 ·refine ⟨ss.take len, by rw [List.length_take]; omega, ?_, by omega, hlc, fun s hs => hw s (List.mem_of_mem_take hs)⟩
  rcases Nat.eq_zero_or_pos len with h0 | h0
  ·subst h0
   exact .inl rfl
  ·obtain ⟨b, off, spot⟩ := x
   have hc0 := hc 0 (by omega)
   have hspot : spot = none := by simpa [Addr.add] using World.cell?_spot hc0
   subst hspot
   have e : ∀ i, (⟨b, off, none⟩ : Addr).add i = ⟨b, off + i, none⟩ := fun i => by unfold Addr.add; split <;> simp_all
   have hlt := World.block_lt_of_cell? w _ hc0
   rw [e 0] at hlt
   refine .inr ⟨b, off, rfl, hlt, fun j hj => ?_⟩
   rw [List.length_take] at hj
   have hj' : j < ss.length := by omega
   rw [← e j, hc j hj', List.getElem_take, List.getD_eq_getElem?_getD, List.getElem?_eq_getElem hj']
   rfl
end Go.Proofs.YtmeohaiidmmgkaaGreatDoor.St


/- What both TreeHash answer, and the law on it. -/
namespace Go.Proofs.YtmeohaiidmmgkaaGreatDoor.Tr
open Go.RowKit
open Go.Proofs.YtmeohaiidmmgkaaGreatDoor.St
open Go.Proofs.YtmeohaiidmmgkaaGreatDoor.Sh (Vars)
theorem below2 {w w1 w2 : World} (h1 : Below w.heap.size w w1) (h2 : Below w1.heap.size w1 w2) : Below w.heap.size w w2 := h1.trans (h2.mono h1.size)
end Go.Proofs.YtmeohaiidmmgkaaGreatDoor.Tr

