/- Blocks: a law that holds of the drawn blocks, files and pieces. -/
import Derived.Test.YthbpenanelbbcaaGreatDoorBzCardB
namespace Go.Proofs.YthbpenanelbbcaaGreatDoor.fnBlock
open Go.ChangeShapes Go.WideShapes Go.ChangeAt Go.RowKit
open Go.ChangeMaps (open_string shut_string)
open Go.Proofs.YthbpenanelbbcaaGreatDoor.Dr (IsRow)
set_option linter.unusedVariables false
theorem plain (f : FuncId) (fn : Func) (hf : Tryz.pinned.checked.prog.funcNamed "loop.example/g00550/laws.FnBlock" = some f) (hfn : Tryz.pinned.checked.prog.funcs[f]? = some fn) :
  true = Tryz.pinned.checked.prog.looks [] ∧ ∀ (j : Nat) t, fn.params[j]? = some t → Tryz.pinned.checked.prog.wantsStandIn t = false := by
 obtain rfl : f = 3 := Option.some.inj ((show Tryz.prog.funcNamed "loop.example/g00550/laws.FnBlock" = some 3 by kernel_rfl).symm.trans hf) |>.symm
 obtain rfl : fn = Tryz.f3 := (Option.some.inj (Tryz.func3.symm.trans hfn)).symm
 refine ⟨by kernel_rfl, fun j t ht => ?_⟩
 rw [Tryz.params3] at ht
 have hm : t = 22 := by simpa [or_comm, or_left_comm] using Array.mem_of_getElem? ht
 rcases hm with rfl
 ·exact (show Tryz.prog.wantsStandIn 22 = false by kernel_rfl)
end Go.Proofs.YthbpenanelbbcaaGreatDoor.fnBlock
namespace Go.Proofs.YthbpenanelbbcaaGreatDoor
theorem fnBlock_holds : Rows.FnBlockCardSaid :=
 Claim7.holds_tied_plain_at .later [] _ _ _ _ fnBlock.over (fun _ h => by cases h) (by kernel_rfl) (fun _ h => by cases h) fnBlock_row_tie rfl ⟨rfl, rfl⟩ (by kernel_rfl) rfl fnBlock.plain (by kernel_rfl)
end Go.Proofs.YthbpenanelbbcaaGreatDoor

