/- Texts put together: ShaLaid. -/
import Derived.Test.YtikiihjabbmkcaaGreatDoorRows
import Derived.Test.YtikiihjabbmkcaaGreatDoorBz9
import Derived.OpenShut
import Derived.MakeChecks
import Derived.LaidLaws
import Derived.LaidHandle
/- What a row's list of the two variables gives a walk: their blocks' numbers. -/
namespace Go.Proofs.YtikiihjabbmkcaaGreatDoor.Sh
open Go.RowKit
theorem arr_cells {H:Type} {enc:TypeId × Value->H} {P:Program} {w:World} {base:Nat} {sp:Nat->Bool} {held:Bool} {fuel:Nat} {t e:TypeId} {n:Nat} {k:IntKind} {cs:Array Value} {zs:List Int} {p:List MemPlace}
  (ht:P.underlying t=some (.array n e)) (he:P.underlying e=some (.int k)) (hc:P.cellsOf e=1) (hct:P.cellsOf t=n) (hz:zs.length=n)
  (h:DataW.trod enc P w base sp held fuel t cs.toList=some (.agg (zs.map fun z=>.lit (.int k z)),p)):cs=rowF k n (fun j=>zs.getD j 0):=by
 obtain⟨xs,m,rfl,hx,hl,hxl,hall⟩:=DataW.trod_array ht h
 have hxs:xs.map (·.1)=zs.map fun z=>(DataW.lit (.int k z):DataW H):=by
  have:=congrArg Prod.fst hx
  simpa using this.symm
 apply Array.ext_getElem?
 intro i
 by_cases hi:i<n
 ·rw[rowF_get k n _ i hi]
  have h1:=hall i hi
  obtain⟨b,hb⟩:∃ b,xs[i]? = some b:=⟨xs[i]'(by omega),List.getElem?_eq_getElem (by omega)⟩
  rw[hb,hc]at h1
  obtain⟨z,hcz,rfl,_⟩:=DataW.trod_int he h1
  have h2:cs.toList[i]? = some (.int k z):=by
   have:=congrArg (·[0]?) hcz
   simpa [List.getElem?_take,List.getElem?_drop] using this
  have h3:(xs.map (·.1))[i]? = some (DataW.lit (.int k z):DataW H):=by simp[hb]
  rw[hxs]at h3
  simp only[List.getElem?_map,Option.map_eq_some_iff,DataW.lit.injEq,Lit.int.injEq,true_and]at h3
  obtain⟨z',hz',rfl⟩:=h3
  rw[<-Array.getElem?_toList,h2]
  simp[List.getD,hz']
 ·have h1:(rowF k n (fun j=>zs.getD j 0))[i]? = none:=by simp[rowF,hi]
  rw[h1,<-Array.getElem?_toList]
  exact List.getElem?_eq_none (by omega)
theorem var_block {P:Program} {w:World} {n:String} {g:Nat} {cs:Array Value} (hg:P.globalNamed n=some g) (h:w.var? P n=some cs):∃ t fr,w.heap[g]? = some (.cells cs t fr):=by
 unfold World.var? at h
 rw[hg]at h
 simp only[Option.bind_some]at h
 split at h
 ·rename_i c t fr hh
  obtain rfl:=Option.some.inj h
  exact⟨t,fr,hh⟩
 ·cases h
theorem gFirst:Tryz.prog.globalNamed "loop.example/g00550/impl.firstState"=some 2:=by kernel_rfl
theorem gRound:Tryz.prog.globalNamed "loop.example/g00550/impl.roundNumbers"=some 3:=by kernel_rfl
theorem tFirst:(Tryz.prog.globals[2]?).map (·.type)=some 292:=by kernel_rfl
theorem tRound:(Tryz.prog.globals[3]?).map (·.type)=some 302:=by kernel_rfl
theorem vars_of_laid {W:World} (h:laidMetH Tryz.prog [("loop.example/g00550/impl.firstState",Rows.laid_loop_example_g00550_impl_firstState),("loop.example/g00550/impl.roundNumbers",Rows.laid_loop_example_g00550_impl_roundNumbers)] W):Vars W:=by
 rw[MakeChecks.laidMetH_plain _ _ _ (by kernel_rfl)]at h
 obtain⟨ps,⟨g0,t0,cs0,f0,p0,q0,hg0,ht0,hv0,hd0,⟨g1,t1,cs1,f1,p1,q1,hg1,ht1,hv1,hd1,_,_⟩,_⟩,_,_⟩:=h
 obtain rfl:=Option.some.inj (gFirst.symm.trans hg0)
 obtain rfl:=Option.some.inj (gRound.symm.trans hg1)
 obtain rfl:=Option.some.inj (tFirst.symm.trans ht0)
 obtain rfl:=Option.some.inj (tRound.symm.trans ht1)
 have e0:=arr_cells (zs:=firstL) Tryz.underlying292 Tryz.underlying214 (by kernel_rfl) (by kernel_rfl) rfl hd0
 have e1:=arr_cells (zs:=keyL) Tryz.underlying302 Tryz.underlying214 (by kernel_rfl) (by kernel_rfl) rfl hd1
 subst e0
 subst e1
 exact⟨var_block hg0 hv0,var_block hg1 hv1⟩
end Go.Proofs.YtikiihjabbmkcaaGreatDoor.Sh

