/- PeerRight answers as the specification at every Peer that the budget lets in, and writes into no argument. -/
import Derived.Test.YtikiihjabbmkcaaGreatDoorPz48
namespace Go.Proofs.YtikiihjabbmkcaaGreatDoor.fnExactPeerRight
open Go.ChangeShapes Go.WideShapes Go.ChangeAt Go.RowKit
set_option linter.unusedVariables false
theorem over:Rows.fnExactPeerRightRow.holds Tryz.pinned (OpenSpec.ofChange Rows.fnExactPeerRightSpec) :=
 OpenClaim.holds_of_wide 4 Tryz.f4 rfl rfl rfl rfl rfl rfl rfl ⟨rfl,rfl,rfl,rfl,rfl⟩ rfl rfl rfl rfl rfl (by kernel_rfl) Tryz.func4 (by kernel_rfl)
  (of_decide_eq_true (by kernel_rfl)) (by unfold Func.isWrapper;first|(rw[if_pos (by decide +kernel)];kernel_rfl)|(rw[if_neg (by decide +kernel)];exact⟨rfl,rfl⟩))
  (fun os started H enc _=>lifted os started H enc)
theorem plain (f:FuncId) (fn:Func) (hf:Tryz.pinned.checked.prog.funcNamed "loop.example/g00550/laws.FnExactPeerRight"=some f) (hfn:Tryz.pinned.checked.prog.funcs[f]? = some fn) :
  true=Tryz.pinned.checked.prog.looks []/\∀ (j:Nat) t,fn.params[j]? = some t->Tryz.pinned.checked.prog.wantsStandIn t=false:=by
 obtain rfl:f=4:=Option.some.inj ((show Tryz.prog.funcNamed "loop.example/g00550/laws.FnExactPeerRight"=some 4 by kernel_rfl).symm.trans hf) |>.symm
 obtain rfl:fn=Tryz.f4:=(Option.some.inj (Tryz.func4.symm.trans hfn)).symm
 refine⟨by kernel_rfl,fun j t ht=>?_⟩
 rw[Tryz.params4]at ht
 have hm:t=38:=by simpa [or_comm,or_left_comm] using Array.mem_of_getElem? ht
 rcases hm with rfl
 ·exact(show Tryz.prog.wantsStandIn 38=false by kernel_rfl)
end Go.Proofs.YtikiihjabbmkcaaGreatDoor.fnExactPeerRight
namespace Go.Proofs.YtikiihjabbmkcaaGreatDoor
theorem fnExactPeerRight_holds:Rows.FnExactPeerRightCardSaid :=
 Claim7.holds_tied_plain_at .later [] _ _ _ _ fnExactPeerRight.over (fun _ h=>by cases h) (by kernel_rfl) (fun _ h=>by cases h) fnExactPeerRight_row_tie rfl ⟨rfl,rfl⟩ (by kernel_rfl) rfl fnExactPeerRight.plain (by kernel_rfl)
end Go.Proofs.YtikiihjabbmkcaaGreatDoor

