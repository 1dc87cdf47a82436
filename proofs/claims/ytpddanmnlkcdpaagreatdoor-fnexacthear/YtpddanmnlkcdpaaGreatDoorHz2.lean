/- Texts put together: ShaLaws. -/
import Derived.Test.YtpddanmnlkcdpaaGreatDoorHz1
/- Two laws on a walk's single operations, over any program: a whole array of numbers loaded out of its block, and stored into one. -/
namespace Go.Proofs.YtpddanmnlkcdpaaGreatDoor.Sh
open Go.RowKit
theorem wpList_load_row {P:Program} {w:World} {ops:Array Oper} {rest:List Oper} {a:Act} {Q:Exit->Act->World->Prop} {d:Tmp} {p:Operand} {ty tt:TypeId} {pos:String} {af:Array Edge}
  {g:Nat} {t:TypeId} {k:IntKind} {n:Nat} {f:Nat->Int} {e:TypeId} (hb:IsB w g t k n f) (hu:P.underlying ty=some (.array n e)) (hi:(P.info? ty).map (·.size)=some n)
  (hp:a.eval p=.pointer (some ⟨g,0,none⟩)) (h:wpList P ops Q rest (a.put (some d) (.agg (rowF k n f))) w) :
  wpList P ops Q (⟨some d,.load ty p,tt,pos,af,none⟩ :: rest) a w:=by
 refine wpList_plain rfl fun K hK=>?_
 have hl:=hb.loadAt (P:=P) ty e hu hi
 unfold Oper.wp
 simp[execOp,hp,hl,Result.andThen]
 exact hK _ _ h
theorem wpList_store_row {P:Program} {w:World} {ops:Array Oper} {rest:List Oper} {a:Act} {Q:Exit->Act->World->Prop} {p v:Operand} {ty tt:TypeId} {pos:String} {af:Array Edge}
  {g:Nat} {t:TypeId} {k:IntKind} {n:Nat} {f:Nat->Int} (hb:IsB w g t k n f) (hi:(P.info? ty).map (·.size)=some n) (f':Nat->Int)
  (hp:a.eval p=.pointer (some ⟨g,0,none⟩)) (hv:a.eval v=.agg (rowF k n f')) (h:wpList P ops Q rest a (w.setRow g (rowF k n f'))) :
  wpList P ops Q (⟨none,.store ty p v,tt,pos,af,none⟩ :: rest) a w:=by
 refine wpList_plain rfl fun K hK=>?_
 have hl:(Instr.storeAt ty (.pointer (some ⟨g,0,none⟩)) (.agg (rowF k n f'))).run P w=.ok () (w.setRow g (rowF k n f')):=by
  simp only[Instr.storeAt,Instr.sureAddr,Sem.run_bind,Sem.run_pure,Result.andThen]
  exact run_storeVar_row w g t ty _ _ hb (by rw[rowF_size];exact hi) (by rw[rowF_size,rowF_size]) (rowF_one _ _ _)
 unfold Oper.wp
 simp[execOp,hp,hv,hl,Result.andThen]
 exact hK _ _ h
theorem wpList_store_row' {P:Program} {w:World} {ops:Array Oper} {rest:List Oper} {a:Act} {Q:Exit->Act->World->Prop} {p v:Operand} {ty tt:TypeId} {pos:String} {af:Array Edge}
  {g:Nat} {t:TypeId} {k:IntKind} {n:Nat} {f:Nat->Int} (hb:IsB w g t k n f) (hi:(P.info? ty).map (·.size)=some n) (f':Nat->Int)
  (hp:a.eval p=.pointer (some ⟨g,0,none⟩)) (hv:a.eval v=.agg (rowF k n f'))
  (h:∀ w',IsB w' g t k n f'->(∀ B,B<=g->Below B w w')->w'.heap.size=w.heap.size->(∀ j,j≠g->w'.heap[j]? = w.heap[j]?)->wpList P ops Q rest a w') :
  wpList P ops Q (⟨none,.store ty p v,tt,pos,af,none⟩ :: rest) a w :=
 wpList_store_row hb hi f' hp hv (h _ (hb.row f') (fun _ hB=>below_row (Below.refl _ _) hB _) (row_size _ _ _) (fun j hj=>setRow_other w g j _ hj))
theorem results_row {P:Program} {fn:Func} {p:Tmp} {ty e:TypeId} {w:World} {g:Nat} {t:TypeId} {k:IntKind} {n:Nat} {f:Nat->Int} (h:fn.results=#[.cell p ty]) (tmps:Array Value)
  (hp:tmps.getD p undef=.pointer (some ⟨g,0,none⟩)) (hb:IsB w g t k n f) (hu:P.underlying ty=some (.array n e)) (hi:(P.info? ty).map (·.size)=some n) :
  (results fn tmps).run P w=.ok (.agg (rowF k n f)) w:=by
 have hl:=hb.loadVar (P:=P) ty e hu hi
 simp only[results,h]
 simp only[Array.getD_eq_getD_getElem?]at hp
 simp[hp,asAddr,hl]
end Go.Proofs.YtpddanmnlkcdpaaGreatDoor.Sh

