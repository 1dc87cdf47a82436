/- Texts put together: FnExactKeepRecoverCard. -/
import Derived.Test.YtmeohaiidmmgkaaGreatDoorKz51
/- At every Keep KeepRecover answers as the specification, field by field: FnExactKeepRecover holds of every argument. -/
namespace Go.Proofs.YtmeohaiidmmgkaaGreatDoor.fnExactKeepRecover
open Go.ChangeShapes Go.WideShapes Go.ChangeAt Go.RowKit
set_option linter.unusedVariables false
theorem over : Rows.fnExactKeepRecoverRow.holds Tryz.pinned (OpenSpec.ofChange Rows.fnExactKeepRecoverSpec) :=
 OpenClaim.holds_of_wide 6 Tryz.f6 rfl rfl rfl rfl rfl rfl rfl ⟨rfl, rfl, rfl, rfl, rfl⟩ rfl rfl rfl rfl rfl (by kernel_rfl) Tryz.func6 (by kernel_rfl)
  (of_decide_eq_true (by kernel_rfl)) (by unfold Func.isWrapper; first | (rw [if_pos (by decide +kernel)]; kernel_rfl) | (rw [if_neg (by decide +kernel)]; exact ⟨rfl, rfl⟩))
  (fun os started H enc _ => lifted os started H enc)
theorem plain (f : FuncId) (fn : Func) (hf : Tryz.pinned.checked.prog.funcNamed "loop.example/g00550/laws.FnExactKeepRecover" = some f) (hfn : Tryz.pinned.checked.prog.funcs[f]? = some fn) :
  true = Tryz.pinned.checked.prog.looks [] ∧ ∀ (j : Nat) t, fn.params[j]? = some t → Tryz.pinned.checked.prog.wantsStandIn t = false := by
 obtain rfl : f = 6 := Option.some.inj ((show Tryz.prog.funcNamed "loop.example/g00550/laws.FnExactKeepRecover" = some 6 by kernel_rfl).symm.trans hf) |>.symm
 obtain rfl : fn = Tryz.f6 := (Option.some.inj (Tryz.func6.symm.trans hfn)).symm
 refine ⟨by kernel_rfl, fun j t ht => ?_⟩
 rw [Tryz.params6] at ht
 have hm : t = 25 := by simpa [or_comm, or_left_comm] using Array.mem_of_getElem? ht
 rcases hm with rfl
 ·exact (show Tryz.prog.wantsStandIn 25 = false by kernel_rfl)
end Go.Proofs.YtmeohaiidmmgkaaGreatDoor.fnExactKeepRecover
namespace Go.Proofs.YtmeohaiidmmgkaaGreatDoor
theorem fnExactKeepRecover_holds : Rows.FnExactKeepRecoverCardSaid :=
 Claim7.holds_tied_plain_at .later [] _ _ _ _ fnExactKeepRecover.over (fun _ h => by cases h) (by kernel_rfl) (fun _ h => by cases h) fnExactKeepRecover_row_tie rfl ⟨rfl, rfl⟩ (by kernel_rfl) rfl fnExactKeepRecover.plain (by kernel_rfl)
end Go.Proofs.YtmeohaiidmmgkaaGreatDoor

