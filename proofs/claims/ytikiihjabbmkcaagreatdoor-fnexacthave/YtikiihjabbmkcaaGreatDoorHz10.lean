/- Texts put together: ShaDigest, ShaLaid. -/
import Derived.Test.YtikiihjabbmkcaaGreatDoorHz4
import Derived.Test.YtikiihjabbmkcaaGreatDoorHz9
import Derived.Test.YtikiihjabbmkcaaGreatDoorRows
import Derived.OpenShut
import Derived.MakeChecks
import Derived.LaidLaws
import Derived.LaidHandle
set_option maxRecDepth 100000
set_option maxHeartbeats 8000000
namespace Go.Proofs.YtikiihjabbmkcaaGreatDoor.Sh
open Go.RowKit
def Vars (w:World):Prop:=IsV w 2 .u32 8 firstF/\IsV w 3 .u32 64 keyF
theorem Vars.below {w w':World} {B:Nat} (h:Vars w) (b:Below B w w') (hB:3 + 1<=B):Vars w':=⟨h.1.below b (by omega),h.2.below b (by omega)⟩
theorem Vars.two {w:World} (h:Vars w):3 + 1<=w.heap.size:=h.2.lt
theorem zero8:(#[.int .u32 0,.int .u32 0,.int .u32 0,.int .u32 0,.int .u32 0,.int .u32 0,.int .u32 0,.int .u32 0]:Array Value)=rowF .u32 8 (fun _=>0):=by rfl
theorem digestOf_any (t:ByteArray) (w:World) (ht:t.size<=1048576) (hV:Vars w) :
  Calls Tryz.prog 225 #[.string t] w fun e w'=>e=.returned (.string (sha t))/\Below w.heap.size w w':=by
 have HV:=hideS hV
 have HF:=hideS hV.1
 have HK:=hideS hV.2
 have h2:=hV.two
 clear hV
 go_enter Tryz.func225,Tryz.ntmps225
 go_wp2_with (first|((with_reducible refine wpList_load_var HF.out Tryz.underlying292 Tryz.size292 ?_ ?_);(· rfl))|((with_reducible refine wpList_store_row' (IsB.of_list w 292 .u32 8 (fun _=>0) _ zero8) Tryz.size292 firstF ?_ ?_ ?_);(· rfl);(· rfl);intro w2 hi2 hB2 hz2 ho2;have HS2:=hideS hi2;have HZ2:=hideS (show w2.heap.size=w.heap.size+1 by rw[hz2];simp);have HW2:=hideS (((Below.refl w.heap.size w).alloc (Nat.le_refl _) _).trans (hB2 _ (Nat.le_refl _)));clear hi2 hB2 hz2 ho2))
 have hz:=HZ2.out
 obtain⟨ch,hch⟩:∃ c,c=chunks t.size:=⟨_,rfl⟩
 have hr:=chunks_room t.size
 have hti:=chunks_tight t.size
 refine(fill_any t w2 ht).mono ?_
 rw[hz,<-hch]
 rw[<-hch]at hr hti
 rintro e w3 ⟨rfl,hp3,hb3⟩
 have HCH:=hideS hch
 have HP3:=hideS hp3
 have HS3:=hideS (HS2.out.below hb3 (by omega))
 have HW3:=hideS (HW2.out.trans (hb3.mono (by omega)))
 have HZ3:=hideS (show w.heap.size+2<=w3.heap.size from hp3.lt)
 clear hp3 hb3 hch hz HS2 HW2
 go_wp2_with fail
 go_loopw [5] (fun i wr=>∃ k:Nat,i=.int .i64 (64*(k:Int))/\k<=ch/\IsB wr w.heap.size 292 .u32 8 (shaS t k)/\IsB wr (w.heap.size+1) 5 .u8 (ch*64) (fun j=>(pad t j:Nat))/\Below w.heap.size w wr/\w.heap.size+2<=wr.heap.size) (fun i _=>ch*64-(intOf i).toNat)
 case atStart=>exact⟨0,rfl,Nat.zero_le _,HS3.out,HP3.out,HW3.out,HZ3.out⟩
 case round =>
  obtain⟨k,rfl,hk,h1,hp,hbel,hsz⟩:=hrel
  have G1:=hideS h1
  have GP:=hideS hp
  have GW:=hideS hbel
  have GK:=hideS (HK.out.below hbel (by omega))
  clear h1 hp hbel
  by_cases hlt:k<ch
  ·have e1:64*(k:Int)<(ch:Int)*64:=by omega
   have e2:(64*(k:Int)).toNat=64*k:=by omega
   have e3:(64*(k:Int)+64).toNat=64*k+64:=by omega
   have e4:64*k+64-64*k=64:=by omega
   have e5:IntKind.i64.wrap (64*(k:Int)+64)=64*(k:Int)+64:=by simp[IntKind.wrap,IntKind.bits,IntKind.signed];omega
   have e6:64*(k:Int)+64<=(ch:Int)*64:=by omega
   have e7:0<=64*(k:Int)+64:=by omega
   have e8:0<=64*(k:Int):=by omega
   have e9:64*(k:Int)<=64*(k:Int)+64:=by omega
   have e10:¬ch*64=64*k:=by omega
   have HC:Hid (∀ j,j<64->wr.cell? ⟨w.heap.size+1,64*k+j,none⟩=some (.int .u8 (blkB t k j:Nat))):=fun j hj=>GP.out.cell (by omega)
   go_wp2_with fail
   refine wp_region_still_tail 6 Tryz.checked.mixed (by kernel_rfl) ?_
   simp only[List.take_succ_cons,List.take_zero,List.drop_succ_cons,List.drop_zero]
   refine wpStill_load_row (show IsB _ w.heap.size 292 .u32 8 (shaS t k) from G1.out) Tryz.underlying292 Tryz.size292 rfl ?_
   repeat still_step
   refine wpStill_nil ?_
   go_wp2_with fail
   refine(take_any (shaS t k) (w.heap.size+1) (64*k) (ch*64-64*k) (blkB t k) wr.drew (blkB_lt t k) (show w.heap.size+1<wr.heap.size by omega) HC.out (by omega) (show IsV wr 3 _ _ _ from GK.out)).mono ?_
   rintro e w4 ⟨rfl,hb4⟩
   have hb5:Below wr.heap.size wr w4:=⟨hb4.os,hb4.tape,hb4.output,hb4.size,hb4.block⟩
   have J1:=hideS (G1.out.below hb5 (by omega))
   have JP:=hideS (GP.out.below hb5 (by omega))
   have JW:=hideS (GW.out.trans (hb5.mono (by omega)))
   have hsz4:w.heap.size+2<=w4.heap.size:=by have:=hb5.size;omega
   clear hb4 hb5
   go_wp2_with ((with_reducible refine wpList_store_row' J1.out Tryz.size292 (blk (blkB t k) (shaS t k)) ?_ ?_ ?_);(· rfl);(· rfl);intro w5 hi5 hB5 hz5 ho5;have L1:=hideS hi5;have LP:=hideS (JP.out.of_heap (ho5 _ (by omega)));have LW:=hideS (JW.out.trans (hB5 _ (Nat.le_refl _)));have LZ:=hideS (show w.heap.size+2<=w5.heap.size by omega);clear hi5 hB5 hz5 ho5)
   go_roundw
   case rel=>exact⟨k+1,by go_num,by omega,L1.out,LP.out,LW.out,LZ.out⟩
   case measure=>simp[intOf];omega
  ·have HS:Hid (shaS t k=shaS t (chunks t.size)):=by
    unfold Hid
    rw[<-HCH.out]
    congr 1
    omega
   have e1:¬64*(k:Int)<(ch:Int)*64:=by omega
   go_wp2_with fail
   go_loopw [24] (fun i wo=>∃ m:Nat,i=.int .i64 m/\m<=32/\IsB wo wr.heap.size 295 .u8 32 (fun j=>(outK (shaS t k) m j:Nat))/\IsB wo w.heap.size 292 .u32 8 (shaS t k)/\Below w.heap.size w wo) (fun i _=>32-(intOf i).toNat)
   case atStart=>exact⟨0,rfl,by omega,IsB.of_list wr 295 .u8 32 _ _ (by rfl),G1.out.alloc _,GW.out.alloc (by omega) _⟩
   case round =>
    obtain⟨m,rfl,hm,o1,o2,o3⟩:=hrel
    have O1:=hideS o1
    have O2:=hideS o2
    by_cases hl32:m<32
    ·obtain⟨x,hx⟩:∃ x,x=shaS t k (m/4):=⟨_,rfl⟩
     have HV:Hid (x/2 ^ (24-8*(m%4))%256=((outF (shaS t k) m:Nat):Int)):=by
      unfold Hid
      rw[hx]
      exact outF_cast _ _
     have d1:((m:Int)/4).toNat=m/4:=by omega
     have d2:(24-8*((m:Int)%4)).toNat=24-8*(m%4):=by omega
     have d3:0<=24-8*((m:Int)%4):=by omega
     have d4:(m:Int)/4<8:=by omega
     have d5:0<=(m:Int)/4:=by omega
     have cs:wr.cell? ⟨w.heap.size,m/4,none⟩=some (.int .u32 x):=by rw[o2.cell (by omega),hx]
     have co:=o1.cell hl32
     have cf:=o1.frozen m
     clear o1 o2 hx
     go_wp2_with fail
     go_roundw
     case rel =>
      rw[HV.out]
      exact⟨m+1,by go_num,by omega,IsB.congr (O1.out.set m _) (fun j _=>outK_next _ m j _ rfl),O2.out.set_other _ _ (by simp;omega),o3.setCell (by simp;omega) _⟩
     case measure=>simp[intOf];omega
    ·obtain rfl:m=32:=by omega
     have hcv:=o1.str (P:=Tryz.prog) (src:=168) (dst:=9) 32 32 (Nat.le_refl _) (fun j _=>outK_lt _ _ _) Tryz.underlying168 Tryz.underlying5 Tryz.underlying9
     have HR:=hideS (outK_all (shaS t k))
     clear o1 o2
     go_wp2_with fail
     go_ret
     refine⟨Nu.ret_strJ ?_,o3⟩
     rw[HR.out,HS.out]
     rfl
end Go.Proofs.YtikiihjabbmkcaaGreatDoor.Sh


/- What a row's list of the two variables gives a walk: their blocks' numbers. -/
namespace Go.Proofs.YtikiihjabbmkcaaGreatDoor.Sh
open Go.RowKit
theorem arr_cells {H:Type} {enc:TypeId × Value->H} {P:Program} {w:World} {base:Nat} {sp:Nat->Bool} {held:Bool} {fuel:Nat} {t e:TypeId} {n:Nat} {k:IntKind} {cs:Array Value} {zs:List Int} {p:List MemPlace}
  (ht:P.underlying t=some (.array n e)) (he:P.underlying e=some (.int k)) (hc:P.cellsOf e=1) (hct:P.cellsOf t=n) (hz:zs.length=n)
  (h:DataW.trod enc P w base sp held fuel t cs.toList=some (.agg (zs.map fun z=>.lit (.int k z)),p)):cs=rowF k n (fun j=>zs.getD j 0):=by
 obtain⟨xs,m,rfl,hx,hl,hxl,hall⟩:=DataW.trod_array ht h
 have hxs:xs.map (·.1)=zs.map fun z=>(DataW.lit (.int k z):DataW H):=by
  have:=congrArg Prod.fst hx
  simpa using this.symm
 apply Array.ext_getElem?
 intro i
 by_cases hi:i<n
 ·rw[rowF_get k n _ i hi]
  have h1:=hall i hi
  obtain⟨b,hb⟩:∃ b,xs[i]? = some b:=⟨xs[i]'(by omega),List.getElem?_eq_getElem (by omega)⟩
  rw[hb,hc]at h1
  obtain⟨z,hcz,rfl,_⟩:=DataW.trod_int he h1
  have h2:cs.toList[i]? = some (.int k z):=by
   have:=congrArg (·[0]?) hcz
   simpa [List.getElem?_take,List.getElem?_drop] using this
  have h3:(xs.map (·.1))[i]? = some (DataW.lit (.int k z):DataW H):=by simp[hb]
  rw[hxs]at h3
  simp only[List.getElem?_map,Option.map_eq_some_iff,DataW.lit.injEq,Lit.int.injEq,true_and]at h3
  obtain⟨z',hz',rfl⟩:=h3
  rw[<-Array.getElem?_toList,h2]
  simp[List.getD,hz']
 ·have h1:(rowF k n (fun j=>zs.getD j 0))[i]? = none:=by simp[rowF,hi]
  rw[h1,<-Array.getElem?_toList]
  exact List.getElem?_eq_none (by omega)
theorem var_block {P:Program} {w:World} {n:String} {g:Nat} {cs:Array Value} (hg:P.globalNamed n=some g) (h:w.var? P n=some cs):∃ t fr,w.heap[g]? = some (.cells cs t fr):=by
 unfold World.var? at h
 rw[hg]at h
 simp only[Option.bind_some]at h
 split at h
 ·rename_i c t fr hh
  obtain rfl:=Option.some.inj h
  exact⟨t,fr,hh⟩
 ·cases h
theorem gFirst:Tryz.prog.globalNamed "loop.example/g00550/impl.firstState"=some 2:=by kernel_rfl
theorem gRound:Tryz.prog.globalNamed "loop.example/g00550/impl.roundNumbers"=some 3:=by kernel_rfl
theorem tFirst:(Tryz.prog.globals[2]?).map (·.type)=some 292:=by kernel_rfl
theorem tRound:(Tryz.prog.globals[3]?).map (·.type)=some 302:=by kernel_rfl
theorem vars_of_laid {W:World} (h:laidMetH Tryz.prog [("loop.example/g00550/impl.firstState",Rows.laid_loop_example_g00550_impl_firstState),("loop.example/g00550/impl.roundNumbers",Rows.laid_loop_example_g00550_impl_roundNumbers)] W):Vars W:=by
 rw[MakeChecks.laidMetH_plain _ _ _ (by kernel_rfl)]at h
 obtain⟨ps,⟨g0,t0,cs0,f0,p0,q0,hg0,ht0,hv0,hd0,⟨g1,t1,cs1,f1,p1,q1,hg1,ht1,hv1,hd1,_,_⟩,_⟩,_,_⟩:=h
 obtain rfl:=Option.some.inj (gFirst.symm.trans hg0)
 obtain rfl:=Option.some.inj (gRound.symm.trans hg1)
 obtain rfl:=Option.some.inj (tFirst.symm.trans ht0)
 obtain rfl:=Option.some.inj (tRound.symm.trans ht1)
 have e0:=arr_cells (zs:=firstL) Tryz.underlying292 Tryz.underlying214 (by kernel_rfl) (by kernel_rfl) rfl hd0
 have e1:=arr_cells (zs:=keyL) Tryz.underlying302 Tryz.underlying214 (by kernel_rfl) (by kernel_rfl) rfl hd1
 subst e0
 subst e1
 exact⟨var_block hg0 hv0,var_block hg1 hv1⟩
end Go.Proofs.YtikiihjabbmkcaaGreatDoor.Sh

