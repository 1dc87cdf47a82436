/- Hear answers as the specification at every Peer, name and word that the budget lets in, writes into no argument, and its answer owns its memory. -/
import Derived.Test.YtpddanmnlkcdpaaGreatDoorHz52
namespace Go.Proofs.YtpddanmnlkcdpaaGreatDoor.fnExactHear
open Go.ChangeShapes Go.WideShapes Go.ChangeAt Go.RowKit
set_option linter.unusedVariables false
theorem over:Rows.fnExactHearRow.holds Tryz.pinned (OpenSpec.ofChange Rows.fnExactHearSpec) :=
 OpenClaim.holds_of_wide 4 Tryz.f4 rfl rfl rfl rfl rfl rfl rfl ⟨rfl,rfl,rfl,rfl,rfl⟩ rfl rfl rfl rfl rfl (by kernel_rfl) Tryz.func4 (by kernel_rfl)
  (of_decide_eq_true (by kernel_rfl)) (by unfold Func.isWrapper;first|(rw[if_pos (by decide +kernel)];kernel_rfl)|(rw[if_neg (by decide +kernel)];exact⟨rfl,rfl⟩))
  (fun os started H enc _=>lifted os started H enc)
theorem plain (f:FuncId) (fn:Func) (hf:Tryz.pinned.checked.prog.funcNamed "loop.example/g00550/laws.FnExactHear"=some f) (hfn:Tryz.pinned.checked.prog.funcs[f]? = some fn) :
  true=Tryz.pinned.checked.prog.looks []/\∀ (j:Nat) t,fn.params[j]? = some t->Tryz.pinned.checked.prog.wantsStandIn t=false:=by
 obtain rfl:f=4:=Option.some.inj ((show Tryz.prog.funcNamed "loop.example/g00550/laws.FnExactHear"=some 4 by kernel_rfl).symm.trans hf) |>.symm
 obtain rfl:fn=Tryz.f4:=(Option.some.inj (Tryz.func4.symm.trans hfn)).symm
 refine⟨by kernel_rfl,fun j t ht=>?_⟩
 rw[Tryz.params4]at ht
 have hm:t=9∨t=28∨t=48:=by rcases j with _|_|_|j<;>simp at ht<;>(try subst ht)<;>simp
 rcases hm with rfl|rfl|rfl
 ·exact(show Tryz.prog.wantsStandIn 9=false by kernel_rfl)
 ·exact(show Tryz.prog.wantsStandIn 28=false by kernel_rfl)
 ·exact(show Tryz.prog.wantsStandIn 48=false by kernel_rfl)
end Go.Proofs.YtpddanmnlkcdpaaGreatDoor.fnExactHear
namespace Go.Proofs.YtpddanmnlkcdpaaGreatDoor
theorem fnExactHear_holds:Rows.FnExactHearCardSaid :=
 Claim7.holds_tied_plain_at .later [] _ _ _ _ fnExactHear.over (fun _ h=>by cases h) (by kernel_rfl) (fun _ h=>by cases h) fnExactHear_row_tie rfl ⟨rfl,rfl⟩ (by kernel_rfl) rfl fnExactHear.plain (by kernel_rfl)
end Go.Proofs.YtpddanmnlkcdpaaGreatDoor

