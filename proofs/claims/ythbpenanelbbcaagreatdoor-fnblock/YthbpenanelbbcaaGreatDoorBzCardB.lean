/- The row of the law on blocks, out of its walk. -/
import Derived.Test.YthbpenanelbbcaaGreatDoorBzCardA
namespace Go.Proofs.YthbpenanelbbcaaGreatDoor.fnBlock
open Go.ChangeShapes Go.WideShapes Go.ChangeAt Go.RowKit
open Go.ChangeMaps (open_string shut_string)
open Go.Proofs.YthbpenanelbbcaaGreatDoor.Dr (IsRow)
set_option linter.unusedVariables false
theorem over : Rows.fnBlockRow.holds Tryz.pinned (OpenSpec.ofChange Rows.fnBlockSpec) :=
 OpenClaim.holds_of_wide 3 Tryz.f3 rfl rfl rfl rfl rfl rfl rfl ⟨rfl, rfl, rfl, rfl, rfl⟩ rfl rfl rfl rfl rfl (by kernel_rfl) Tryz.func3 (by kernel_rfl)
  (of_decide_eq_true (by kernel_rfl)) (by unfold Func.isWrapper; first | (rw [if_pos (by decide +kernel)]; kernel_rfl) | (rw [if_neg (by decide +kernel)]; exact ⟨rfl, rfl⟩))
  (fun os started H enc _ => lifted os started H enc)
end Go.Proofs.YthbpenanelbbcaaGreatDoor.fnBlock
