/- A Keep handed to a law: its bytes counted, the Keep of impl made of it, two of them compared. -/
import Derived.Test.YtikiihjabbmkcaaKpCx
namespace Go.Proofs.Ytikiihjabbmkcaa.Kp
open Go.RowKit
open Go.Proofs.Ytikiihjabbmkcaa.Ls (lV sz_yes sz_no to_any eqL_same cells3)

set_option maxRecDepth 100000 in
set_option maxHeartbeats 1000000 in
theorem eqK_same (z b : Int) (r s : ByteArray) (y : Int) (w : World) :
    Calls Try.prog 24 #[kV z b r s y, kV z b r s y] w fun e w' => e = .returned (.bool true) ∧ Below w.heap.size w w' := by
  have HL := hideK (fun W => eqL_same z b r W)
  have h1 : (y != y) = false := by simp
  have C0 := hideK (((Cx.nil w).new (kB z b r s y)).new (kB z b r s y))
  simp only [World.size_alloc] at C0
  unfold kV
  unfold kB at C0
  go_enter Try.func24, Try.ntmps24
  go_wp2_with fail
  generalize (w.alloc _).alloc _ = W0 at C0 ⊢
  refine (HL.out _).mono ?_
  rintro e w1 ⟨rfl, hb⟩
  have C1 := hideK (C0.out.call hb)
  clear hb C0
  obtain ⟨l0, l1, l2, l3, l4⟩ := k_cells (C1.out.get 0 rfl)
  obtain ⟨k0, k1, k2, k3, k4⟩ := k_cells (C1.out.get 1 rfl)
  go_wp2_with fail
  go_ret
  exact ⟨rfl, C1.out.low⟩
end Go.Proofs.Ytikiihjabbmkcaa.Kp
