/- A drawn number at some limit: some number; the source can be drawn from again. -/
import Derived.Test.YtghghkfhcpldhaaDoorDrawEdge
namespace Go.Proofs.YtghghkfhcpldhaaDoor.Dr
open Go.RowKit

set_option maxRecDepth 100000 in
set_option maxHeartbeats 2000000 in
theorem edge_src (B : Nat) (a : Option Addr) (len cap : Nat) (w : World) (hl : len ≤ 1048576) (hs : Src w B a len cap) :
    Calls Tryd.prog 40 #[.pointer (some ⟨B, 0, none⟩)] w fun e w' => ∃ v : Int, e = .returned (.int .i64 v) ∧ -9223372036854775808 ≤ v ∧ v ≤ 9223372036854775807 ∧ Src w' B a len cap ∧ Aft B w w' := by
  have hB := hs.lt
  have HS := hideD hs
  clear hs
  go_enter Tryd.func40, Tryd.ntmps40
  go_wp2_with fail
  refine (n_any B a len cap 14 _ hl (by omega) (HS.out.below ((Below.refl _ _).alloc (Nat.le_refl _) _))).mono ?_
  rintro e w1 ⟨r, rfl, r0, r1, hs1, ho1⟩
  obtain ⟨j, rfl⟩ := Int.eq_ofNat_of_zero_le r0
  have hj : j < 14 := by omega
  have hcell : w1.cell? ⟨w.heap.size, j, none⟩ = some (.int .i64 (edges.getD j 0)) := by
    refine (World.cell?_of_block (w := w.alloc _) (a := ⟨w.heap.size, j, none⟩) (ho1.2.2.2.2 w.heap.size (by omega))).trans ?_
    rw [cell_of_row _ _ j _ _ _ (heap_alloc_new w _)]
    show ((edges.map (Value.int .i64)).toArray)[j]? = _
    have hj' : j < edges.length := hj
    rw [List.getElem?_toArray, List.getElem?_map, List.getElem?_eq_getElem hj', List.getD_eq_getElem?_getD, List.getElem?_eq_getElem hj']
    rfl
  have HA := hideD ((aft_below (B := B) ((Below.refl w.heap.size w).alloc (Nat.le_refl _) _)).trans ho1.aft)
  have hbd := edges_bd j hj
  have g1 : (j : Int) < 14 := by omega
  generalize edges.getD j 0 = v at hcell hbd
  have HS1 := hideD hs1
  clear hs1 ho1 r1
  go_wp2
  go_ret
  exact ⟨v, rfl, hbd.1, hbd.2, HS1.out, HA.out⟩
end Go.Proofs.YtghghkfhcpldhaaDoor.Dr
