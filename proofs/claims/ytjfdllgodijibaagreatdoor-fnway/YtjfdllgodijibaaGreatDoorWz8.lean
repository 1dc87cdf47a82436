/- Texts put together: ShaPad, ShaFill, ShaSum, ShaLaws2, ShaDigest, ShaLaid, ShaMade, ShaSpecA, ShaStill. -/
import Derived.Test.YtjfdllgodijibaaGreatDoorWz7
import Derived.Test.YtjfdllgodijibaaGreatDoorWz3
import Derived.Test.YtjfdllgodijibaaGreatDoorWz2
import Derived.StillTailTactics
import Derived.Test.YtjfdllgodijibaaGreatDoorRows
import Derived.OpenShut
import Derived.MakeChecks
import Derived.LaidLaws
import Derived.LaidHandle
import Derived.Test.YtjfdllgodijibaaGreatDoorWz0
set_option maxRecDepth 100000
set_option maxHeartbeats 8000000
/- Plain mathematics of SHA-256: a text filled up to whole blocks. -/
namespace Go.Proofs.YtjfdllgodijibaaGreatDoor.Sh
def chunks (m:Nat):Nat:=(m+72)/64
def padK (t:ByteArray) (k j:Nat):Nat :=
 if j<t.size then bt t j else if j=t.size then 128 else if chunks t.size*64<=j+k then t.size*8/2 ^ (8*(chunks t.size*64-1-j))%256 else 0
def pad (t:ByteArray) (j:Nat):Nat:=padK t 8 j
theorem padK_lt (t:ByteArray) (k j:Nat):padK t k j<256:=by
 unfold padK
 have:=bt_lt t j
 split
 ·exact this
 ·split
  ·decide
  ·split
   ·exact Nat.mod_lt _ (by decide)
   ·decide
theorem pad_lt (t:ByteArray) (j:Nat):pad t j<256:=padK_lt t 8 j
theorem chunks_room (m:Nat):m+9<=chunks m*64:=by unfold chunks;omega
theorem chunks_tight (m:Nat):chunks m*64<=m+72:=by unfold chunks;omega
theorem pad_start (t:ByteArray) (j:Nat):j<chunks t.size*64->upd (fun j=>if j<t.size then ((bt t j:Nat):Int) else 0) t.size 128 j=((padK t 0 j:Nat):Int):=by
 intro hj
 unfold upd padK
 by_cases e:j=t.size
 ·subst e;simp
 ·by_cases h:j<t.size
  ·simp[e,h]
  ·have:¬chunks t.size*64<=j:=by omega
   simp[e,h,this]
theorem pad_next (t:ByteArray) (k:Nat) (hk:k<8) (v:Int) (hv:v=((t.size*8/2 ^ (8*k)%256:Nat):Int)) (j:Nat) (hj:j<chunks t.size*64) :
  upd (fun j=>((padK t k j:Nat):Int)) (chunks t.size*64-1-k) v j=((padK t (k+1) j:Nat):Int):=by
 subst hv
 have hr:=chunks_room t.size
 unfold upd padK
 by_cases e:j=chunks t.size*64-1-k
 ·have h1:¬j<t.size:=by omega
  have h2:¬j=t.size:=by omega
  have h3:chunks t.size*64<=j+(k+1):=by omega
  have h4:chunks t.size*64-1-j=k:=by omega
  rw[if_pos e,if_neg h1,if_neg h2,if_pos h3,h4]
 ·rw[if_neg e]
  have:(chunks t.size*64<=j+(k+1))=(chunks t.size*64<=j+k):=propext ⟨fun h=>by omega,fun h=>by omega⟩
  simp only[this]
end Go.Proofs.YtjfdllgodijibaaGreatDoor.Sh


namespace Go.Proofs.YtjfdllgodijibaaGreatDoor.Sh
open Go.RowKit
open Nu (bv hideJ run_copy_string)
theorem fill_any (t:ByteArray) (w:World) (ht:t.size<=1048576) :
  Calls Tryz.prog 41 #[.string t] w fun e w'=>e=.returned (.slice (some ⟨w.heap.size,0,none⟩) (chunks t.size*64) (chunks t.size*64)) /\
   IsB w' w.heap.size 5 .u8 (chunks t.size*64) (fun j=>(pad t j:Nat))/\Below w.heap.size w w':=by
 obtain⟨i0,hi,hz0,hz1,hz2⟩:=info_parts Nu.Tryz.infoJ5
 obtain⟨ch,hch⟩:∃ c,c=chunks t.size:=⟨_,rfl⟩
 have hr:=chunks_room t.size
 have hti:=chunks_tight t.size
 have hc:((t.size:Int)+1+8+64-1)/64=(ch:Int):=by rw[hch];unfold chunks;omega
 have hcw:((ch:Int)*64).toNat=ch*64:=by omega
 rw[<-hch]at hr hti ⊢
 have HCH:=hideJ hch
 clear hch
 go_enter Tryz.func41,Tryz.ntmps41
 go_wp2_with (at_make;refine wpList_make_full _ rfl (.tmp 15) (.tmp 15) 22 rfl w.heap.size 5 i0 (.int .u8 0) 1 Tryz.underlying22 hi hz0 hz1 .i64 .i64 _ _ (ch*64) rfl rfl (by simp) (by simp) (by rw[hz2];omega) (by unfold maxLen;omega) (Nat.le_refl _) ?_;intro w1 hown1 hgrow1;have hrow:=made_row hown1;have hbel1:=(Below.refl w.heap.size w).grown hgrow1 (Nat.le_refl _) (by simp);obtain⟨w2,c1,hrow2,k1,k2,k3,k4,k5⟩:=run_copy_string (P:=Tryz.prog) w1 22 9 3 5 (some ⟨w.heap.size,0,none⟩) w.heap.size 0 (ch*64) (ch*64) t (rowF .u8 (ch*64) (fun _=>0)).toList 5 Tryz.underlying22 Nu.Tryz.sizeJ5 (by unfold IsB at hrow;simpa using hrow) (fun _=>rfl) (by omega) (by simp[rowF_size];omega);rw[splice_row _ _ _ (by omega)]at hrow2;have hrow3:IsB w2 w.heap.size 5 .u8 (ch*64) (fun j=>if j<t.size then (bt t j:Nat) else 0):=hrow2;have HB:=hideJ hrow3;have HL:=hideJ (Nu.copy_below hbel1 k1 k2 k3 k4 k5);have hce:=hrow3.cell (j:=t.size) (by omega);have hfz:=hrow3.frozen t.size;clear hown1 hgrow1 hrow hbel1 k1 k2 k3 k4 k5 hrow2 hrow3)
 go_loopw [28] (fun i wr=>∃ k:Nat,i=.int .i64 k/\k<=8/\IsB wr w.heap.size 5 .u8 (ch*64) (fun j=>(padK t k j:Nat))/\Below w.heap.size w wr) (fun i _=>8-(intOf i).toNat)
 case atStart =>
  refine⟨0,rfl,by omega,IsB.congr (HB.out.set t.size 128) (fun j hj=>pad_start t j (by rw[<-HCH.out];exact hj)),HL.out.setCell (Nat.le_refl _) _⟩
 case round =>
  obtain⟨k,rfl,hk,h1,hbel⟩:=hrel
  have G1:=hideJ h1
  by_cases hlt:k<8
  ·have e1:((ch:Int)*64-1-(k:Int)).toNat=ch*64-1-k:=by omega
   have ce:=h1.cell (j:=ch*64-1-k) (by omega)
   have cf:=h1.frozen (ch*64-1-k)
   have HV:Hid (((t.size:Int)*8/2 ^ (8*k))%256=((t.size*8/2 ^ (8*k)%256:Nat):Int)):=by
    unfold Hid
    simp
   clear h1
   go_wp2_with fail
   go_roundw
   case rel =>
    refine⟨k+1,by go_num,by omega,IsB.congr (G1.out.set (ch*64-1-k) _) (fun j hj=>?_),hbel.setCell (Nat.le_refl _) _⟩
    rw[HCH.out]at hj ⊢
    exact pad_next t k hlt _ HV.out j hj
   case measure=>simp[intOf];omega
  ·obtain rfl:k=8:=by omega
   clear h1
   go_wp2_with fail
   go_ret
   exact⟨rfl,G1.out,hbel⟩
end Go.Proofs.YtjfdllgodijibaaGreatDoor.Sh


/- Plain mathematics of SHA-256: the digest of a text. -/
namespace Go.Proofs.YtjfdllgodijibaaGreatDoor.Sh
def blkB (t:ByteArray) (k j:Nat):Nat:=pad t (64*k+j)
theorem blkB_lt (t:ByteArray) (k j:Nat):blkB t k j<256:=pad_lt t _
def shaS (t:ByteArray):Nat->Nat->Int
 |0=>firstF
 |k+1=>blk (blkB t k) (shaS t k)
def outF (s:Nat->Int) (j:Nat):Nat:=(s (j/4)/2 ^ (24-8*(j%4))%256).toNat
theorem outF_lt (s:Nat->Int) (j:Nat):outF s j<256:=by unfold outF;omega
def sha (t:ByteArray):ByteArray:=strF 32 (outF (shaS t (chunks t.size)))
theorem sha_size (t:ByteArray):(sha t).size=32:=strF_size 32 _
def outK (s:Nat->Int) (m j:Nat):Nat:=if j<m then outF s j else 0
theorem outK_next (s:Nat->Int) (m j:Nat) (v:Int) (hv:v=((outF s m:Nat):Int)):upd (fun j=>((outK s m j:Nat):Int)) m v j=((outK s (m+1) j:Nat):Int):=by
 subst hv
 unfold upd outK
 by_cases e:j=m
 ·subst e;simp
 ·have:(j<m+1)=(j<m):=propext ⟨fun h=>by omega,fun h=>by omega⟩
  simp[e,this]
theorem outK_all (s:Nat->Int):strF 32 (outK s 32)=strF 32 (outF s):=strF_congr 32 _ _ (fun j hj=>by simp[outK,hj])
theorem outK_lt (s:Nat->Int) (m j:Nat):outK s m j<256:=by
 unfold outK
 split
 ·exact outF_lt s j
 ·decide
theorem outF_cast (s:Nat->Int) (m:Nat):s (m/4)/2 ^ (24-8*(m%4))%256=((outF s m:Nat):Int):=by
 unfold outF
 rw[Int.toNat_of_nonneg]
 omega
end Go.Proofs.YtjfdllgodijibaaGreatDoor.Sh


/- A law on one operation in the still head of a region that draws its order: a whole array of numbers loaded out of its block. -/
namespace Go.Proofs.YtjfdllgodijibaaGreatDoor.Sh
open Go.RowKit
theorem wpStill_load_row {P:Program} {w:World} {ops:Array Oper} {rest:List Oper} {a:Act} {Q:Act->Prop} {d:Tmp} {p:Operand} {ty tt:TypeId} {pos:String} {af:Array Edge}
  {g:Nat} {t:TypeId} {k:IntKind} {n:Nat} {f:Nat->Int} {e:TypeId} (hb:IsB w g t k n f) (hu:P.underlying ty=some (.array n e)) (hi:(P.info? ty).map (·.size)=some n)
  (hp:a.eval p=.pointer (some ⟨g,0,none⟩)) (h:wpStill P ops w Q rest (a.put (some d) (.agg (rowF k n f)))) :
  wpStill P ops w Q (⟨some d,.load ty p,tt,pos,af,none⟩ :: rest) a:=by
 refine wpStill_step fun K hK=>?_
 have hl:=hb.loadAt (P:=P) ty e hu hi
 simp[Region.wanted,Oper.still,Oper.stillUpon,execOp,hp,hl,Result.andThen]
 exact hK _ h
end Go.Proofs.YtjfdllgodijibaaGreatDoor.Sh


namespace Go.Proofs.YtjfdllgodijibaaGreatDoor.Sh
open Go.RowKit
def Vars (w:World):Prop:=IsV w 0 .u32 8 firstF/\IsV w 1 .u32 64 keyF
theorem Vars.below {w w':World} {B:Nat} (h:Vars w) (b:Below B w w') (hB:1 + 1<=B):Vars w':=⟨h.1.below b (by omega),h.2.below b (by omega)⟩
theorem Vars.two {w:World} (h:Vars w):1 + 1<=w.heap.size:=h.2.lt
theorem zero8:(#[.int .u32 0,.int .u32 0,.int .u32 0,.int .u32 0,.int .u32 0,.int .u32 0,.int .u32 0,.int .u32 0]:Array Value)=rowF .u32 8 (fun _=>0):=by rfl
theorem digestOf_any (t:ByteArray) (w:World) (ht:t.size<=1048576) (hV:Vars w) :
  Calls Tryz.prog 24 #[.string t] w fun e w'=>e=.returned (.string (sha t))/\Below w.heap.size w w':=by
 have HV:=hideS hV
 have HF:=hideS hV.1
 have HK:=hideS hV.2
 have h2:=hV.two
 clear hV
 go_enter Tryz.func24,Tryz.ntmps24
 go_wp2_with (first|((with_reducible refine wpList_load_var HF.out Tryz.underlying82 Tryz.size82 ?_ ?_);(· rfl))|((with_reducible refine wpList_store_row' (IsB.of_list w 82 .u32 8 (fun _=>0) _ zero8) Tryz.size82 firstF ?_ ?_ ?_);(· rfl);(· rfl);intro w2 hi2 hB2 hz2 ho2;have HS2:=hideS hi2;have HZ2:=hideS (show w2.heap.size=w.heap.size+1 by rw[hz2];simp);have HW2:=hideS (((Below.refl w.heap.size w).alloc (Nat.le_refl _) _).trans (hB2 _ (Nat.le_refl _)));clear hi2 hB2 hz2 ho2))
 have hz:=HZ2.out
 obtain⟨ch,hch⟩:∃ c,c=chunks t.size:=⟨_,rfl⟩
 have hr:=chunks_room t.size
 have hti:=chunks_tight t.size
 refine(fill_any t w2 ht).mono ?_
 rw[hz,<-hch]
 rw[<-hch]at hr hti
 rintro e w3 ⟨rfl,hp3,hb3⟩
 have HCH:=hideS hch
 have HP3:=hideS hp3
 have HS3:=hideS (HS2.out.below hb3 (by omega))
 have HW3:=hideS (HW2.out.trans (hb3.mono (by omega)))
 have HZ3:=hideS (show w.heap.size+2<=w3.heap.size from hp3.lt)
 clear hp3 hb3 hch hz HS2 HW2
 go_wp2_with fail
 go_loopw [5] (fun i wr=>∃ k:Nat,i=.int .i64 (64*(k:Int))/\k<=ch/\IsB wr w.heap.size 82 .u32 8 (shaS t k)/\IsB wr (w.heap.size+1) 5 .u8 (ch*64) (fun j=>(pad t j:Nat))/\Below w.heap.size w wr/\w.heap.size+2<=wr.heap.size) (fun i _=>ch*64-(intOf i).toNat)
 case atStart=>exact⟨0,rfl,Nat.zero_le _,HS3.out,HP3.out,HW3.out,HZ3.out⟩
 case round =>
  obtain⟨k,rfl,hk,h1,hp,hbel,hsz⟩:=hrel
  have G1:=hideS h1
  have GP:=hideS hp
  have GW:=hideS hbel
  have GK:=hideS (HK.out.below hbel (by omega))
  clear h1 hp hbel
  by_cases hlt:k<ch
  ·have e1:64*(k:Int)<(ch:Int)*64:=by omega
   have e2:(64*(k:Int)).toNat=64*k:=by omega
   have e3:(64*(k:Int)+64).toNat=64*k+64:=by omega
   have e4:64*k+64-64*k=64:=by omega
   have e5:IntKind.i64.wrap (64*(k:Int)+64)=64*(k:Int)+64:=by simp[IntKind.wrap,IntKind.bits,IntKind.signed];omega
   have e6:64*(k:Int)+64<=(ch:Int)*64:=by omega
   have e7:0<=64*(k:Int)+64:=by omega
   have e8:0<=64*(k:Int):=by omega
   have e9:64*(k:Int)<=64*(k:Int)+64:=by omega
   have e10:¬ch*64=64*k:=by omega
   have HC:Hid (∀ j,j<64->wr.cell? ⟨w.heap.size+1,64*k+j,none⟩=some (.int .u8 (blkB t k j:Nat))):=fun j hj=>GP.out.cell (by omega)
   go_wp2_with fail
   refine wp_region_still_tail 6 Tryz.checked.mixed (by kernel_rfl) ?_
   simp only[List.take_succ_cons,List.take_zero,List.drop_succ_cons,List.drop_zero]
   refine wpStill_load_row (show IsB _ w.heap.size 82 .u32 8 (shaS t k) from G1.out) Tryz.underlying82 Tryz.size82 rfl ?_
   repeat still_step
   refine wpStill_nil ?_
   go_wp2_with fail
   refine(take_any (shaS t k) (w.heap.size+1) (64*k) (ch*64-64*k) (blkB t k) wr.drew (blkB_lt t k) (show w.heap.size+1<wr.heap.size by omega) HC.out (by omega) (show IsV wr 1 _ _ _ from GK.out)).mono ?_
   rintro e w4 ⟨rfl,hb4⟩
   have hb5:Below wr.heap.size wr w4:=⟨hb4.os,hb4.tape,hb4.output,hb4.size,hb4.block⟩
   have J1:=hideS (G1.out.below hb5 (by omega))
   have JP:=hideS (GP.out.below hb5 (by omega))
   have JW:=hideS (GW.out.trans (hb5.mono (by omega)))
   have hsz4:w.heap.size+2<=w4.heap.size:=by have:=hb5.size;omega
   clear hb4 hb5
   go_wp2_with ((with_reducible refine wpList_store_row' J1.out Tryz.size82 (blk (blkB t k) (shaS t k)) ?_ ?_ ?_);(· rfl);(· rfl);intro w5 hi5 hB5 hz5 ho5;have L1:=hideS hi5;have LP:=hideS (JP.out.of_heap (ho5 _ (by omega)));have LW:=hideS (JW.out.trans (hB5 _ (Nat.le_refl _)));have LZ:=hideS (show w.heap.size+2<=w5.heap.size by omega);clear hi5 hB5 hz5 ho5)
   go_roundw
   case rel=>exact⟨k+1,by go_num,by omega,L1.out,LP.out,LW.out,LZ.out⟩
   case measure=>simp[intOf];omega
  ·have HS:Hid (shaS t k=shaS t (chunks t.size)):=by
    unfold Hid
    rw[<-HCH.out]
    congr 1
    omega
   have e1:¬64*(k:Int)<(ch:Int)*64:=by omega
   go_wp2_with fail
   go_loopw [24] (fun i wo=>∃ m:Nat,i=.int .i64 m/\m<=32/\IsB wo wr.heap.size 85 .u8 32 (fun j=>(outK (shaS t k) m j:Nat))/\IsB wo w.heap.size 82 .u32 8 (shaS t k)/\Below w.heap.size w wo) (fun i _=>32-(intOf i).toNat)
   case atStart=>exact⟨0,rfl,by omega,IsB.of_list wr 85 .u8 32 _ _ (by rfl),G1.out.alloc _,GW.out.alloc (by omega) _⟩
   case round =>
    obtain⟨m,rfl,hm,o1,o2,o3⟩:=hrel
    have O1:=hideS o1
    have O2:=hideS o2
    by_cases hl32:m<32
    ·obtain⟨x,hx⟩:∃ x,x=shaS t k (m/4):=⟨_,rfl⟩
     have HV:Hid (x/2 ^ (24-8*(m%4))%256=((outF (shaS t k) m:Nat):Int)):=by
      unfold Hid
      rw[hx]
      exact outF_cast _ _
     have d1:((m:Int)/4).toNat=m/4:=by omega
     have d2:(24-8*((m:Int)%4)).toNat=24-8*(m%4):=by omega
     have d3:0<=24-8*((m:Int)%4):=by omega
     have d4:(m:Int)/4<8:=by omega
     have d5:0<=(m:Int)/4:=by omega
     have cs:wr.cell? ⟨w.heap.size,m/4,none⟩=some (.int .u32 x):=by rw[o2.cell (by omega),hx]
     have co:=o1.cell hl32
     have cf:=o1.frozen m
     clear o1 o2 hx
     go_wp2_with fail
     go_roundw
     case rel =>
      rw[HV.out]
      exact⟨m+1,by go_num,by omega,IsB.congr (O1.out.set m _) (fun j _=>outK_next _ m j _ rfl),O2.out.set_other _ _ (by simp;omega),o3.setCell (by simp;omega) _⟩
     case measure=>simp[intOf];omega
    ·obtain rfl:m=32:=by omega
     have hcv:=o1.str (P:=Tryz.prog) (src:=22) (dst:=9) 32 32 (Nat.le_refl _) (fun j _=>outK_lt _ _ _) Tryz.underlying22 Tryz.underlying5 Tryz.underlying9
     have HR:=hideS (outK_all (shaS t k))
     clear o1 o2
     go_wp2_with fail
     go_ret
     refine⟨Nu.ret_strJ ?_,o3⟩
     rw[HR.out,HS.out]
     rfl
end Go.Proofs.YtjfdllgodijibaaGreatDoor.Sh


/- What a row's list of the two variables gives a walk: their blocks' numbers. -/
namespace Go.Proofs.YtjfdllgodijibaaGreatDoor.Sh
open Go.RowKit
theorem arr_cells {H:Type} {enc:TypeId × Value->H} {P:Program} {w:World} {base:Nat} {sp:Nat->Bool} {held:Bool} {fuel:Nat} {t e:TypeId} {n:Nat} {k:IntKind} {cs:Array Value} {zs:List Int} {p:List MemPlace}
  (ht:P.underlying t=some (.array n e)) (he:P.underlying e=some (.int k)) (hc:P.cellsOf e=1) (hct:P.cellsOf t=n) (hz:zs.length=n)
  (h:DataW.trod enc P w base sp held fuel t cs.toList=some (.agg (zs.map fun z=>.lit (.int k z)),p)):cs=rowF k n (fun j=>zs.getD j 0):=by
 obtain⟨xs,m,rfl,hx,hl,hxl,hall⟩:=DataW.trod_array ht h
 have hxs:xs.map (·.1)=zs.map fun z=>(DataW.lit (.int k z):DataW H):=by
  have:=congrArg Prod.fst hx
  simpa using this.symm
 apply Array.ext_getElem?
 intro i
 by_cases hi:i<n
 ·rw[rowF_get k n _ i hi]
  have h1:=hall i hi
  obtain⟨b,hb⟩:∃ b,xs[i]? = some b:=⟨xs[i]'(by omega),List.getElem?_eq_getElem (by omega)⟩
  rw[hb,hc]at h1
  obtain⟨z,hcz,rfl,_⟩:=DataW.trod_int he h1
  have h2:cs.toList[i]? = some (.int k z):=by
   have:=congrArg (·[0]?) hcz
   simpa [List.getElem?_take,List.getElem?_drop] using this
  have h3:(xs.map (·.1))[i]? = some (DataW.lit (.int k z):DataW H):=by simp[hb]
  rw[hxs]at h3
  simp only[List.getElem?_map,Option.map_eq_some_iff,DataW.lit.injEq,Lit.int.injEq,true_and]at h3
  obtain⟨z',hz',rfl⟩:=h3
  rw[<-Array.getElem?_toList,h2]
  simp[List.getD,hz']
 ·have h1:(rowF k n (fun j=>zs.getD j 0))[i]? = none:=by simp[rowF,hi]
  rw[h1,<-Array.getElem?_toList]
  exact List.getElem?_eq_none (by omega)
theorem var_block {P:Program} {w:World} {n:String} {g:Nat} {cs:Array Value} (hg:P.globalNamed n=some g) (h:w.var? P n=some cs):∃ t fr,w.heap[g]? = some (.cells cs t fr):=by
 unfold World.var? at h
 rw[hg]at h
 simp only[Option.bind_some]at h
 split at h
 ·rename_i c t fr hh
  obtain rfl:=Option.some.inj h
  exact⟨t,fr,hh⟩
 ·cases h
theorem gFirst:Tryz.prog.globalNamed "loop.example/g00550/impl.firstState"=some 0:=by kernel_rfl
theorem gRound:Tryz.prog.globalNamed "loop.example/g00550/impl.roundNumbers"=some 1:=by kernel_rfl
theorem tFirst:(Tryz.prog.globals[0]?).map (·.type)=some 82:=by kernel_rfl
theorem tRound:(Tryz.prog.globals[1]?).map (·.type)=some 102:=by kernel_rfl
theorem vars_of_laid {W:World} (h:laidMetH Tryz.prog [("loop.example/g00550/impl.firstState",Rows.laid_loop_example_g00550_impl_firstState),("loop.example/g00550/impl.roundNumbers",Rows.laid_loop_example_g00550_impl_roundNumbers)] W):Vars W:=by
 rw[MakeChecks.laidMetH_plain _ _ _ (by kernel_rfl)]at h
 obtain⟨ps,⟨g0,t0,cs0,f0,p0,q0,hg0,ht0,hv0,hd0,⟨g1,t1,cs1,f1,p1,q1,hg1,ht1,hv1,hd1,_,_⟩,_⟩,_,_⟩:=h
 obtain rfl:=Option.some.inj (gFirst.symm.trans hg0)
 obtain rfl:=Option.some.inj (gRound.symm.trans hg1)
 obtain rfl:=Option.some.inj (tFirst.symm.trans ht0)
 obtain rfl:=Option.some.inj (tRound.symm.trans ht1)
 have e0:=arr_cells (zs:=firstL) Tryz.underlying82 Tryz.underlying81 (by kernel_rfl) (by kernel_rfl) rfl hd0
 have e1:=arr_cells (zs:=keyL) Tryz.underlying102 Tryz.underlying81 (by kernel_rfl) (by kernel_rfl) rfl hd1
 subst e0
 subst e1
 exact⟨var_block hg0 hv0,var_block hg1 hv1⟩
end Go.Proofs.YtjfdllgodijibaaGreatDoor.Sh


/- A row of numbers that make has just made. -/
namespace Go.Proofs.YtjfdllgodijibaaGreatDoor.Sh
open Go.RowKit
theorem made_zerosK (k:IntKind) (n:Nat):(madeCells (Value.int k 0).cells (n*1)).toList=(rowF k n (fun _=>0)).toList:=by
 apply List.ext_getElem?
 intro i
 by_cases hi:i<n
 ·simp[madeCells,rowF,hi,Value.cells,Nat.mod_one]
 ·simp[madeCells,rowF,hi,Value.cells]
theorem made_rowK {k:IntKind} {w:World} {base e g n:Nat} (h:w.ownsRow base e 1 (.slice (some ⟨g,0,none⟩) n n) n (madeCells (Value.int k 0).cells (n*1)).toList):IsB w g e k n (fun _=>0):=by
 obtain⟨_,h⟩:=h
 rcases h with⟨h,_⟩|⟨g',cap,cur,hv,_,hb,_,_,hsz,htk⟩
 ·simp at h
 ·simp at hv
  obtain⟨rfl,rfl⟩:=hv
  rw[made_zerosK,List.take_of_length_le (by simp[hsz])]at htk
  have:cur=rowF k n (fun _=>0):=by simpa using htk
  rw[this]at hb
  exact hb
theorem own_cells {w:World} {base e n:Nat} {v:Value} {k:IntKind} {f:Nat->Int} (hn:0<n) (h:w.ownsRow base e 1 v n (rowF k n f).toList) :
  ∃ g c,v=.slice (some ⟨g,0,none⟩) n c/\base<=g/\g<w.heap.size/\∀ j,j<n->w.cell? ⟨g,j,none⟩=some (.int k (f j)):=by
 obtain⟨_,h⟩:=h
 rcases h with⟨_,h⟩|⟨g,cap,cur,hv,hg,hb,hnc,_,hsz,htk⟩
 ·omega
 ·refine⟨g,cap,hv,hg,(Array.getElem?_eq_some_iff.1 hb).1,fun j hj=>?_⟩
  rw[cell_of_row w g j cur e (0,0) hb]
  have h1:cur.toList[j]? = (cur.toList.take (n*1))[j]?:=by rw[List.getElem?_take_of_lt (by omega)]
  rw[<-Array.getElem?_toList,h1,htk,Array.getElem?_toList]
  exact rowF_get k n f j hj
theorem rowF_snoc (k:IntKind) (n:Nat) (f:Nat->Int):(rowF k n f).toList++[.int k (f n)]=(rowF k (n+1) f).toList:=by
 simp[rowF,List.range_succ]
theorem byte_at (t:ByteArray) (j:Nat) (h:j<t.size):∃ y:UInt8,t[j]=y/\y.toNat=bt t j:=⟨t[j],rfl,bt_get t j h⟩
theorem word_spec (B:Nat->Nat) (k:Nat) (y0 y1 y2 y3:Nat) (h0:y0=B (4*k)) (h1:y1=B (4*k+1)) (h2:y2=B (4*k+2)) (h3:y3=B (4*k+3)) (hB:∀ j,B j<256) :
  bits BinOp.or IntKind.u32 (bits BinOp.or IntKind.u32 (bits BinOp.or IntKind.u32 ((y0:Int)*16777216) ((y1:Int)*65536))
   ((y2:Int)*256)) (y3:Int)=((word B k:Nat):Int):=by
 have b0:=hB (4*k)
 have b1:=hB (4*k+1)
 have b2:=hB (4*k+2)
 have b3:=hB (4*k+3)
 rw[<-h0]at b0
 rw[<-h1]at b1
 rw[<-h2]at b2
 rw[<-h3]at b3
 rw[show (y0:Int)*16777216=((y0*16777216:Nat):Int) by simp,show (y1:Int)*65536=((y1*65536:Nat):Int) by simp,show (y2:Int)*256=((y2*256:Nat):Int) by simp]
 rw[u32_or_nat _ _ (by omega) (by omega),nat_join 24 (y0*16777216) (y1*65536) (by omega) (by omega),
  u32_or_nat _ _ (by omega) (by omega),nat_join 16 (y0*16777216+y1*65536) (y2*256) (by omega) (by omega),
  u32_or_nat _ _ (by omega) (by omega),nat_join 8 (y0*16777216+y1*65536+y2*256) y3 (by omega) (by omega)]
 simp only[word,part,Nat.add_zero,<-h0,<-h1,<-h2,<-h3]
 omega
end Go.Proofs.YtjfdllgodijibaaGreatDoor.Sh


namespace Go.Proofs.YtjfdllgodijibaaGreatDoor.Sh
open Go.RowKit
theorem keys_any (w:World):Calls Tryz.prog 73 #[] w fun e w'=>e=.returned (.slice (some ⟨w.heap.size,0,none⟩) 64 64)/\w'=w.alloc (.cells (rowF .u32 64 keyF) 81):=by
 go_enter Tryz.func73,Tryz.ntmps73
 go_wp2
 go_ret
 exact⟨rfl,rfl⟩
theorem start_any (w:World):Calls Tryz.prog 57 #[] w fun e w'=>e=.returned (.slice (some ⟨w.heap.size,0,none⟩) 8 8)/\w'=w.alloc (.cells (rowF .i64 8 firstF) 2):=by
 go_enter Tryz.func57,Tryz.ntmps57
 go_wp2
 go_ret
 exact⟨rfl,rfl⟩
end Go.Proofs.YtjfdllgodijibaaGreatDoor.Sh


/- Two laws of the library on regions that draw their order and only read, the world spelled as a walk spells it. -/
namespace Go.Proofs.YtjfdllgodijibaaGreatDoor.Sh
theorem still_lit {P:Program} {id:Nat} {Q:Exit->Act->World->Prop} {a:Act} {w:World} {l:List Oper} (hm:P.follows .mixedOrders=true) (hB:Region.lexB .any l.toArray=true)
  (h:wpStill P l.toArray w.drew (fun a'=>Q .normal a' w.drew) l a):(Code.region id l.toArray true).wp P Q a w :=
 wp_region_still_lit hm hB h
theorem still_tail {P:Program} {id:Nat} {Q:Exit->Act->World->Prop} {a:Act} {w:World} {l:List Oper} (n:Nat) (hm:P.follows .mixedOrders=true) (hB:Region.lexTailB .any l.toArray n=true)
  (h:wpStill P l.toArray w.drew (fun a'=>wpList P l.toArray Q (l.drop n) a' w.drew) (l.take n) a):(Code.region id l.toArray true).wp P Q a w :=
 wp_region_still_tail n hm hB h
end Go.Proofs.YtjfdllgodijibaaGreatDoor.Sh

