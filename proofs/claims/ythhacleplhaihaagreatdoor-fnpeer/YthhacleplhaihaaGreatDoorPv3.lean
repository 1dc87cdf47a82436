import Derived.Test.YthhacleplhaihaaGreatDoorPv2
set_option linter.unusedSimpArgs false
set_option linter.defProp false
namespace Go.Proofs.YthhacleplhaihaaGreatDoor
open Go.RowKit
variable{P:Program}{Q:Exit->Act->zW->Prop}{a:Act}{b:Array Oper}{c:String}{e t ty:TypeId}{f:Nat->Int}{g n:Nat}{k:IntKind}{p v:Operand}{w:zW}
def wpList_load_row{rest:List Oper}{d:Tmp}{s:TypeId}{i:Array Edge}(l:IsB w g t k n f)(r:P.underlying ty=some (.array n e))(m:(P.info? ty).map (·.size)=some n)(q:a.eval p=.pointer (zx g))(h:wpList P b Q rest (a.put (some d) (.agg (Zl k n f))) w): wpList P b Q (⟨some d,.load ty p,s,c,i,none⟩ :: rest) a w:=by refine Ow rfl fun K j=>?_;have o:=l.loadAt (P:=P) ty e r m;unfold Oper.wp;simp[execOp,q,o,Result.andThen];exact j _ _ h
def wpList_store_row{rest:List Oper}{q:TypeId}{d:Array Edge}(i:IsB w g t k n f)(j:(P.info? ty).map (·.size)=some n)(f':Nat->Int)(m:a.eval p=.pointer (zx g))(o:a.eval v=.agg (Zl k n f'))(h:wpList P b Q rest a (w.setRow g (Zl k n f'))): wpList P b Q (⟨none,.store ty p v,q,c,d,none⟩ :: rest) a w:=by refine Ow rfl fun K e=>?_;have l:(Instr.storeAt ty (.pointer (zx g)) (.agg (Zl k n f'))).run P w=.ok () (w.setRow g (Zl k n f')):=by{simp only[Instr.storeAt,Instr.sureAddr,Mu,Nu,Result.andThen];exact run_storeVar_row w g t ty _ _ i (by rw[QI];exact j) (by rw[QI,QI]) (zwi _ _ _)};unfold Oper.wp;simp[execOp,m,o,l,Result.andThen];exact e _ _ h
def QY{rest:List Oper}{r:TypeId}{e:Array Edge}
  {g:Nat} {t:TypeId} {k:IntKind} {n:Nat} {f:Nat->Int} (d:IsB w g t k n f) (l:(P.info? ty).map (·.size)=some n) (f':Nat->Int)
  (o:a.eval p=.pointer (zx g)) (q:a.eval v=.agg (Zl k n f'))
  (h:∀w',IsB w' g t k n f'->(∀B,B<=g->Below B w w')->w'.heap.size=w.heap.size->(∀j,j≠g->w'.heap[j]?=w.heap[j]?)->wpList P b Q rest a w') :
  wpList P b Q (⟨none,.store ty p v,r,c,e,none⟩ :: rest) a w :=
 wpList_store_row d l f' o q (h _ (d.row f') (fun _ i=>zfM (Eb _ _) i _) (zvn _ _ _) (fun j m=>Ma w g j _ m))
def zfw{a:Func}{p:Tmp}(h:a.results=#[.cell p ty])(tmps:Array Value)(b:tmps.getD p undef=.pointer (zx g))(c:IsB w g t k n f)(j:P.underlying ty=some (.array n e))(d:(P.info? ty).map (·.size)=some n): (results a tmps).run P w=.ok (.agg (Zl k n f)) w:=by have i:=c.loadVar (P:=P) ty e j d;simp only[results,h];simp only[Array.getD_eq_getD_getElem?]at b;simp[b,asAddr,i]
