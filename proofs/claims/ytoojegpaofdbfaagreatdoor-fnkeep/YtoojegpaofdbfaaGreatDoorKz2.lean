import Derived.Test.YtoojegpaofdbfaaGreatDoorKz1
set_option linter.unusedSimpArgs false
namespace Go.Proofs.YtoojegpaofdbfaaGreatDoor
open Go.RowKit
namespace Sh
theorem wpList_load_row{P:Program}{w:zW}{b:Array Oper}{rest:List Oper}{a:Act}{Q:Exit->Act->zW->Prop}{d:Tmp}{p:Operand}{ty s:TypeId}{c:String}{i:Array Edge}{g:Nat}{t:TypeId}{k:IntKind}{n:Nat}{f:Nat->Int}{e:TypeId}(l:IsB w g t k n f)(r:P.underlying ty=some (.array n e))(m:(P.info? ty).map (·.size)=some n)(q:a.eval p=.pointer (some ⟨g,0,none⟩))(h:wpList P b Q rest (a.put (some d) (.agg (qN k n f))) w): wpList P b Q (⟨some d,.load ty p,s,c,i,none⟩ :: rest) a w:=by refine N4 rfl fun K j=>?_;have o:=l.loadAt (P:=P) ty e r m;unfold Oper.wp;simp[execOp,q,o,Result.andThen];exact j _ _ h
theorem wpList_store_row{P:Program}{w:zW}{b:Array Oper}{rest:List Oper}{a:Act}{Q:Exit->Act->zW->Prop}{p v:Operand}{ty q:TypeId}{c:String}{d:Array Edge}{g:Nat}{t:TypeId}{k:IntKind}{n:Nat}{f:Nat->Int}(i:IsB w g t k n f)(j:(P.info? ty).map (·.size)=some n)(f':Nat->Int)(m:a.eval p=.pointer (some ⟨g,0,none⟩))(o:a.eval v=.agg (qN k n f'))(h:wpList P b Q rest a (w.setRow g (qN k n f'))): wpList P b Q (⟨none,.store ty p v,q,c,d,none⟩ :: rest) a w:=by refine N4 rfl fun K e=>?_;have l:(Instr.storeAt ty (.pointer (some ⟨g,0,none⟩)) (.agg (qN k n f'))).run P w=.ok () (w.setRow g (qN k n f')):=by{simp only[Instr.storeAt,Instr.sureAddr,Nf,Oh,Result.andThen];exact run_storeVar_row w g t ty _ _ i (by rw[Zo];exact j) (by rw[Zo,Zo]) (znf _ _ _)};unfold Oper.wp;simp[execOp,m,o,l,Result.andThen];exact e _ _ h
theorem jK{P:Program}{w:zW}{b:Array Oper}{rest:List Oper}{a:Act}{Q:Exit->Act->zW->Prop}{p v:Operand}{ty r:TypeId}{c:String}{e:Array Edge}
  {g:Nat} {t:TypeId} {k:IntKind} {n:Nat} {f:Nat->Int} (d:IsB w g t k n f) (l:(P.info? ty).map (·.size)=some n) (f':Nat->Int)
  (o:a.eval p=.pointer (some ⟨g,0,none⟩)) (q:a.eval v=.agg (qN k n f'))
  (h:∀w',IsB w' g t k n f'->(∀B,B<=g->Below B w w')->w'.heap.size=w.heap.size->(∀j,j≠g->w'.heap[j]?=w.heap[j]?)->wpList P b Q rest a w') :
  wpList P b Q (⟨none,.store ty p v,r,c,e,none⟩ :: rest) a w :=
 wpList_store_row d l f' o q (h _ (d.row f') (fun _ i=>za8 (Eb _ _) i _) (zmk _ _ _) (fun j m=>Ro w g j _ m))
theorem zay{P:Program}{a:Func}{p:Tmp}{ty e:TypeId}{w:zW}{g:Nat}{t:TypeId}{k:IntKind}{n:Nat}{f:Nat->Int}(h:a.results=#[.cell p ty])(tmps:Array Value)(b:tmps.getD p undef=.pointer (some ⟨g,0,none⟩))(c:IsB w g t k n f)(j:P.underlying ty=some (.array n e))(d:(P.info? ty).map (·.size)=some n): (results a tmps).run P w=.ok (.agg (qN k n f)) w:=by have i:=c.loadVar (P:=P) ty e j d;simp only[results,h];simp only[Array.getD_eq_getD_getElem?]at b;simp[b,asAddr,i]
end Sh
end Go.Proofs.YtoojegpaofdbfaaGreatDoor
