/- Tick answers as the specification at every Peer and time that the budget lets in, writes into no argument, and its answer owns its memory. -/
import Derived.Test.YtpddanmnlkcdpaaGreatDoorTz52
namespace Go.Proofs.YtpddanmnlkcdpaaGreatDoor.fnExactTick
open Go.ChangeShapes Go.WideShapes Go.ChangeAt Go.RowKit
set_option linter.unusedVariables false
theorem over:Rows.fnExactTickRow.holds Tryz.pinned (OpenSpec.ofChange Rows.fnExactTickSpec) :=
 OpenClaim.holds_of_wide 5 Tryz.f5 rfl rfl rfl rfl rfl rfl rfl ⟨rfl,rfl,rfl,rfl,rfl⟩ rfl rfl rfl rfl rfl (by kernel_rfl) Tryz.func5 (by kernel_rfl)
  (of_decide_eq_true (by kernel_rfl)) (by unfold Func.isWrapper;first|(rw[if_pos (by decide +kernel)];kernel_rfl)|(rw[if_neg (by decide +kernel)];exact⟨rfl,rfl⟩))
  (fun os started H enc _=>lifted os started H enc)
theorem plain (f:FuncId) (fn:Func) (hf:Tryz.pinned.checked.prog.funcNamed "loop.example/g00550/laws.FnExactTick"=some f) (hfn:Tryz.pinned.checked.prog.funcs[f]? = some fn) :
  true=Tryz.pinned.checked.prog.looks []/\∀ (j:Nat) t,fn.params[j]? = some t->Tryz.pinned.checked.prog.wantsStandIn t=false:=by
 obtain rfl:f=5:=Option.some.inj ((show Tryz.prog.funcNamed "loop.example/g00550/laws.FnExactTick"=some 5 by kernel_rfl).symm.trans hf) |>.symm
 obtain rfl:fn=Tryz.f5:=(Option.some.inj (Tryz.func5.symm.trans hfn)).symm
 refine⟨by kernel_rfl,fun j t ht=>?_⟩
 rw[Tryz.params5]at ht
 have hm:t=2∨t=28:=by simpa [or_comm,or_left_comm] using Array.mem_of_getElem? ht
 rcases hm with rfl|rfl
 ·exact(show Tryz.prog.wantsStandIn 2=false by kernel_rfl)
 ·exact(show Tryz.prog.wantsStandIn 28=false by kernel_rfl)
end Go.Proofs.YtpddanmnlkcdpaaGreatDoor.fnExactTick
namespace Go.Proofs.YtpddanmnlkcdpaaGreatDoor
theorem fnExactTick_holds:Rows.FnExactTickCardSaid :=
 Claim7.holds_tied_plain_at .later [] _ _ _ _ fnExactTick.over (fun _ h=>by cases h) (by kernel_rfl) (fun _ h=>by cases h) fnExactTick_row_tie rfl ⟨rfl,rfl⟩ (by kernel_rfl) rfl fnExactTick.plain (by kernel_rfl)
end Go.Proofs.YtpddanmnlkcdpaaGreatDoor

