/- The drawn number of the law on numbers: some number; nothing that was there turns. -/
import Derived.Test.YtkkoeaohmfdlgaaDoorDrawEdge
namespace Go.Proofs.YtkkoeaohmfdlgaaDoor.Dr
open Go.RowKit

set_option maxRecDepth 100000 in
set_option maxHeartbeats 2000000 in
theorem any_any (B : Nat) (a : Option Addr) (len cap : Nat) (w : World) (hl : len ≤ 1048576) (hs : Src w B a len cap) :
    Calls Tryd.prog 13 #[.pointer (some ⟨B, 0, none⟩)] w fun e w' => ∃ v : Int, e = .returned (.int .i64 v) ∧ -9223372036854775808 ≤ v ∧ v ≤ 9223372036854775807 ∧ Aft B w w' := by
  go_enter Tryd.func13, Tryd.ntmps13
  go_wp2_with fail
  refine (one_any B a len cap 4 _ hl (by omega) hs).mono ?_
  rintro e w1 ⟨c, rfl, hs1, ho1⟩
  have HA := hideD ho1.aft
  clear ho1 hs
  cases c
  · go_wp2_with fail
    refine (n_any B a len cap 1099511627776 _ hl (by omega) hs1).mono ?_
    rintro e w2 ⟨r, rfl, r0, r1, hs2, ho2⟩
    have HA2 := hideD (HA.out.trans ho2.aft)
    have hr1 : r ≤ 1099511627776 := by omega
    clear ho2 hs2 hs1 r1
    go_wp2
    go_ret
    exact ⟨_, rfl, by omega, by omega, HA2.out⟩
  · go_wp2_with fail
    refine (edge_any B a len cap _ hl hs1).mono ?_
    rintro e w2 ⟨v, rfl, v1, v2, ha2⟩
    have HA2 := hideD (HA.out.trans ha2)
    clear ha2 hs1
    go_wp2
    go_ret
    exact ⟨v, rfl, v1, v2, HA2.out⟩

set_option maxRecDepth 100000 in
set_option maxHeartbeats 2000000 in
theorem drawPutNum_any (a : Option Addr) (len cap : Nat) (w : World) (hl : len ≤ 1048576) (hr : Row w w.heap.size a len) :
    Calls Tryd.prog 4 #[.slice a len cap] w fun e w' => ∃ n : Int, e = .returned (.int .i64 n) ∧ -9223372036854775808 ≤ n ∧ n ≤ 9223372036854775807 ∧ Below w.heap.size w w' := by
  have HR := hideD hr
  clear hr
  go_enter Tryd.func4, Tryd.ntmps4
  go_wp2_with fail
  refine (source_any a len cap _ hl HR.out).mono ?_
  rintro e w1 ⟨rfl, hs1, hb1, hz⟩
  have HB1 := hideD hb1
  have hz1 : w.heap.size ≤ w1.heap.size := hb1.size
  clear hb1
  go_wp2_with fail
  refine (any_any w.heap.size a len cap _ hl hs1).mono ?_
  rintro e w2 ⟨v, rfl, v1, v2, ha2⟩
  have HB2 := hideD (ha2.below HB1.out (Nat.le_refl _) hz1)
  clear ha2 hs1
  go_wp2
  go_ret
  exact ⟨v, rfl, v1, v2, HB2.out⟩
end Go.Proofs.YtkkoeaohmfdlgaaDoor.Dr
