/- Meet answers as the specification at every Peer and name that the budget lets in, writes into no argument, and its answer owns its memory. -/
import Derived.Test.YtpddanmnlkcdpaaGreatDoorMz51
namespace Go.Proofs.YtpddanmnlkcdpaaGreatDoor.fnExactMeet
open Go.ChangeShapes Go.WideShapes Go.ChangeAt Go.RowKit
set_option linter.unusedVariables false
theorem over:Rows.fnExactMeetRow.holds Tryz.pinned (OpenSpec.ofChange Rows.fnExactMeetSpec) :=
 OpenClaim.holds_of_wide 3 Tryz.f3 rfl rfl rfl rfl rfl rfl rfl ⟨rfl,rfl,rfl,rfl,rfl⟩ rfl rfl rfl rfl rfl (by kernel_rfl) Tryz.func3 (by kernel_rfl)
  (of_decide_eq_true (by kernel_rfl)) (by unfold Func.isWrapper;first|(rw[if_pos (by decide +kernel)];kernel_rfl)|(rw[if_neg (by decide +kernel)];exact⟨rfl,rfl⟩))
  (fun os started H enc _=>lifted os started H enc)
theorem plain (f:FuncId) (fn:Func) (hf:Tryz.pinned.checked.prog.funcNamed "loop.example/g00550/laws.FnExactMeet"=some f) (hfn:Tryz.pinned.checked.prog.funcs[f]? = some fn) :
  true=Tryz.pinned.checked.prog.looks []/\∀ (j:Nat) t,fn.params[j]? = some t->Tryz.pinned.checked.prog.wantsStandIn t=false:=by
 obtain rfl:f=3:=Option.some.inj ((show Tryz.prog.funcNamed "loop.example/g00550/laws.FnExactMeet"=some 3 by kernel_rfl).symm.trans hf) |>.symm
 obtain rfl:fn=Tryz.f3:=(Option.some.inj (Tryz.func3.symm.trans hfn)).symm
 refine⟨by kernel_rfl,fun j t ht=>?_⟩
 rw[Tryz.params3]at ht
 have hm:t=28∨t=9:=by simpa [or_comm,or_left_comm] using Array.mem_of_getElem? ht
 rcases hm with rfl|rfl
 ·exact(show Tryz.prog.wantsStandIn 28=false by kernel_rfl)
 ·exact(show Tryz.prog.wantsStandIn 9=false by kernel_rfl)
end Go.Proofs.YtpddanmnlkcdpaaGreatDoor.fnExactMeet
namespace Go.Proofs.YtpddanmnlkcdpaaGreatDoor
theorem fnExactMeet_holds:Rows.FnExactMeetCardSaid :=
 Claim7.holds_tied_plain_at .later [] _ _ _ _ fnExactMeet.over (fun _ h=>by cases h) (by kernel_rfl) (fun _ h=>by cases h) fnExactMeet_row_tie rfl ⟨rfl,rfl⟩ (by kernel_rfl) rfl fnExactMeet.plain (by kernel_rfl)
end Go.Proofs.YtpddanmnlkcdpaaGreatDoor

