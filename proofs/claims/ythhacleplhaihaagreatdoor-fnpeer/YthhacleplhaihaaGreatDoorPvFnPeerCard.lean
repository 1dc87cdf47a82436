/- Proved: whatever bytes it draws from, the law FnPeer answers true: a drawn right peer stays right, a strike has who hands it a piece that does not fit and nobody else, who is banned changes nothing, and what it had put away stays; no conditions. -/
import Derived.Test.YthhacleplhaihaaGreatDoorPv28
set_option maxRecDepth 100000
set_option maxHeartbeats 8000000
namespace Go.Proofs.YthhacleplhaihaaGreatDoor
open Go.ChangeShapes Go.WideShapes Go.ChangeAt Go.RowKit
set_option linter.unusedVariables false
theorem zBn{a b:Bool}(h:a=true)(k:b=true):(a && b)=true:=by rw[h,k];rfl
theorem closed:joinedFacts Tryz.pinned.checked.prog 3 Tryz.f3 Rows.fnPeerSpec Rows.fnPeerRow=true:=by unfold joinedFacts;(repeat' (with_reducible refine zBn ?_ ?_));all_goals as_aux_lemma=>kernel_rfl
theorem zlo:Rows.fnPeerRow.holds Tryz.pinned (OpenSpec.ofChange Rows.fnPeerSpec) :=
 OpenClaim.holds_of_wide 3 Tryz.f3 rfl rfl rfl rfl rfl rfl rfl ⟨rfl,rfl,rfl,rfl,rfl⟩ rfl rfl rfl rfl rfl (by kernel_rfl) Tryz.func3 closed
  (Fy (by kernel_rfl)) (by unfold Func.isWrapper;first|(rw[Em (by decide +kernel)];kernel_rfl)|(rw[Ej (by decide +kernel)];exact⟨rfl,rfl⟩))
  (fun os a H enc _=>lifted os a H enc)
theorem zjG(f:FuncId)(a:Func)(d:Tryz.pinned.checked.prog.funcNamed "loop.example/g00550/laws.FnPeer"=some f)(b:Tryz.pinned.checked.prog.funcs[f]?=some a): true=Tryz.pinned.checked.prog.looks []/\∀(j:Nat) t,a.params[j]?=some t->Tryz.pinned.checked.prog.wantsStandIn t=false:=by obtain rfl:f=3:=Km ((show Tryz.prog.funcNamed "loop.example/g00550/laws.FnPeer"=some 3 by kernel_rfl).symm.trans d) |>.symm;obtain rfl:a=Tryz.f3:=(Km (Tryz.func3.symm.trans b)).symm;refine⟨by kernel_rfl,fun j t c=>?_⟩;rw[Tryz.params3]at c;have e:t=22:=by{simpa [or_comm,or_left_comm] using Array.mem_of_getElem? c};rcases e with rfl;{exact(show Tryz.prog.wantsStandIn 22=false by kernel_rfl)}
theorem fnPeer_holds:Rows.FnPeerCardSaid :=
 Claim7.holds_tied_plain_at .later [] _ _ _ _ zlo (fun _ h=>by cases h) (by kernel_rfl) (fun _ h=>by cases h) fnPeer_row_tie rfl ⟨rfl,rfl⟩ (by kernel_rfl) rfl zjG (by kernel_rfl)
end Go.Proofs.YthhacleplhaihaaGreatDoor
