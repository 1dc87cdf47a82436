/- Proved: whatever bytes it draws from, the law FnKeep answers true: a piece that is added to a drawn right keep is there and can not be added twice, nothing that does not fit is, a crash leaves what was there at some piece behind what was synced, and found again once more it is the same; no conditions. -/
import Derived.Test.YtoojegpaofdbfaaGreatDoorKz47
set_option maxRecDepth 100000
set_option maxHeartbeats 8000000
namespace Go.Proofs.YtoojegpaofdbfaaGreatDoor
namespace fnKeep
open Go.ChangeShapes Go.WideShapes Go.ChangeAt Go.RowKit
set_option linter.unusedVariables false
theorem zzx{a b:Bool}(h:a=true)(k:b=true):(a && b)=true:=by rw[h,k];rfl
theorem closed:joinedFacts Tryz.pinned.checked.prog 3 Tryz.f3 Rows.fnKeepSpec Rows.fnKeepRow=true:=by unfold joinedFacts;(repeat' (with_reducible refine zzx ?_ ?_));all_goals as_aux_lemma=>kernel_rfl
theorem over:Rows.fnKeepRow.holds Tryz.pinned (OpenSpec.ofChange Rows.fnKeepSpec) :=
 OpenClaim.holds_of_wide 3 Tryz.f3 rfl rfl rfl rfl rfl rfl rfl ⟨rfl,rfl,rfl,rfl,rfl⟩ rfl rfl rfl rfl rfl (by kernel_rfl) Tryz.func3 closed
  (Fh (by kernel_rfl)) (by unfold Func.isWrapper;first|(rw[Ei (by decide +kernel)];kernel_rfl)|(rw[Eh (by decide +kernel)];exact⟨rfl,rfl⟩))
  (fun os a H enc _=>lifted os a H enc)
theorem plain(f:FuncId)(a:Func)(d:Tryz.pinned.checked.prog.funcNamed "loop.example/g00550/laws.FnKeep"=some f)(b:Tryz.pinned.checked.prog.funcs[f]?=some a): true=Tryz.pinned.checked.prog.looks []/\∀(j:Nat) t,a.params[j]?=some t->Tryz.pinned.checked.prog.wantsStandIn t=false:=by obtain rfl:f=3:=Fv ((show Tryz.prog.funcNamed "loop.example/g00550/laws.FnKeep"=some 3 by kernel_rfl).symm.trans d) |>.symm;obtain rfl:a=Tryz.f3:=(Fv (Tryz.func3.symm.trans b)).symm;refine⟨by kernel_rfl,fun j t c=>?_⟩;rw[Tryz.params3]at c;have e:t=22:=by{simpa [or_comm,or_left_comm] using Array.mem_of_getElem? c};rcases e with rfl;{exact(show Tryz.prog.wantsStandIn 22=false by kernel_rfl)}
end fnKeep
theorem fnKeep_holds:Rows.FnKeepCardSaid :=
 Claim7.holds_tied_plain_at .later [] _ _ _ _ fnKeep.over (fun _ h=>by cases h) (by kernel_rfl) (fun _ h=>by cases h) fnKeep_row_tie rfl ⟨rfl,rfl⟩ (by kernel_rfl) rfl fnKeep.plain (by kernel_rfl)
end Go.Proofs.YtoojegpaofdbfaaGreatDoor
