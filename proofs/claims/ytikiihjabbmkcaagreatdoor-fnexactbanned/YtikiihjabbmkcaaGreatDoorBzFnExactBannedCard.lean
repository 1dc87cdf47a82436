/- Banned answers as the specification at every Peer that the budget lets in, writes into no argument, and its answer owns its memory. -/
import Derived.Test.YtikiihjabbmkcaaGreatDoorBz50
namespace Go.Proofs.YtikiihjabbmkcaaGreatDoor.fnExactBanned
open Go.ChangeShapes Go.WideShapes Go.ChangeAt Go.RowKit
set_option linter.unusedVariables false
theorem over:Rows.fnExactBannedRow.holds Tryz.pinned (OpenSpec.ofChange Rows.fnExactBannedSpec) :=
 OpenClaim.holds_of_wide 8 Tryz.f8 rfl rfl rfl rfl rfl rfl rfl ⟨rfl,rfl,rfl,rfl,rfl⟩ rfl rfl rfl rfl rfl (by kernel_rfl) Tryz.func8 (by kernel_rfl)
  (of_decide_eq_true (by kernel_rfl)) (by unfold Func.isWrapper;first|(rw[if_pos (by decide +kernel)];kernel_rfl)|(rw[if_neg (by decide +kernel)];exact⟨rfl,rfl⟩))
  (fun os started H enc _=>lifted os started H enc)
theorem plain (f:FuncId) (fn:Func) (hf:Tryz.pinned.checked.prog.funcNamed "loop.example/g00550/laws.FnExactBanned"=some f) (hfn:Tryz.pinned.checked.prog.funcs[f]? = some fn) :
  true=Tryz.pinned.checked.prog.looks []/\∀ (j:Nat) t,fn.params[j]? = some t->Tryz.pinned.checked.prog.wantsStandIn t=false:=by
 obtain rfl:f=8:=Option.some.inj ((show Tryz.prog.funcNamed "loop.example/g00550/laws.FnExactBanned"=some 8 by kernel_rfl).symm.trans hf) |>.symm
 obtain rfl:fn=Tryz.f8:=(Option.some.inj (Tryz.func8.symm.trans hfn)).symm
 refine⟨by kernel_rfl,fun j t ht=>?_⟩
 rw[Tryz.params8]at ht
 have hm:t=38:=by simpa [or_comm,or_left_comm] using Array.mem_of_getElem? ht
 rcases hm with rfl
 ·exact(show Tryz.prog.wantsStandIn 38=false by kernel_rfl)
end Go.Proofs.YtikiihjabbmkcaaGreatDoor.fnExactBanned
namespace Go.Proofs.YtikiihjabbmkcaaGreatDoor
theorem fnExactBanned_holds:Rows.FnExactBannedCardSaid :=
 Claim7.holds_tied_plain_at .later [] _ _ _ _ fnExactBanned.over (fun _ h=>by cases h) (by kernel_rfl) (fun _ h=>by cases h) fnExactBanned_row_tie rfl ⟨rfl,rfl⟩ (by kernel_rfl) rfl fnExactBanned.plain (by kernel_rfl)
end Go.Proofs.YtikiihjabbmkcaaGreatDoor

