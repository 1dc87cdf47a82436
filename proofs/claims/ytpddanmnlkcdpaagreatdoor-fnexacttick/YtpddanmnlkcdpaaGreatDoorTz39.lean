/- Texts put together: ShaDigest, ShaTop, NodeTop, TreePlain, TreeHalf, OnesWalks, TreeLen, TreeRight, TreeWalks, TreeSpec, TreeTop, InclPlain, Digs, RangeRight, RangeRoot, AddPlain, AppOpt, PeCopy, KpTop, KhSort, TkStill. -/
import Derived.Test.YtpddanmnlkcdpaaGreatDoorTz3
import Derived.Test.YtpddanmnlkcdpaaGreatDoorTz21
import Derived.Test.YtpddanmnlkcdpaaGreatDoorTz0
import Derived.Test.YtpddanmnlkcdpaaGreatDoorTz38
import Derived.Test.YtpddanmnlkcdpaaGreatDoorTz35
import Derived.Test.YtpddanmnlkcdpaaGreatDoorTz10
import Derived.Test.YtpddanmnlkcdpaaGreatDoorTz22
import Derived.Test.YtpddanmnlkcdpaaGreatDoorChecked
import Derived.Shelf.Strconv.Itoa0
import Derived.BigRegion
import Derived.BigQuiet
import Derived.Deep.QuietTactic
import Derived.Deep.RegionWith
import Derived.Test.YtpddanmnlkcdpaaGreatDoorTz18
import Derived.Test.YtpddanmnlkcdpaaGreatDoorTz12
import Derived.Test.YtpddanmnlkcdpaaGreatDoorTz33
import Derived.ArgAppend
import Derived.Laws.OwnMore
import Derived.Test.YtpddanmnlkcdpaaGreatDoorTz37
import Derived.Deep.RegionHeld3
import Derived.Shelf.SortG.Plain
import Derived.Shelf.SortG.SortNone
import Derived.Shelf.SlGeneric
import Derived.Ground.SlgnProg
import Derived.Sort.OwnSortedInts
import Derived.StillTail
import Derived.OrdersIn
import Derived.CallsIn
import Derived.WalkKit
import Derived.OwnWalkIn
import Derived.TacticsInMore
import Derived.RangeFuncCalls
set_option maxRecDepth 100000
set_option maxHeartbeats 8000000
namespace Go.Proofs.YtpddanmnlkcdpaaGreatDoor.Sh
open Go.RowKit
def Vars (w:World):Prop:=IsV w 2 .u32 8 firstF/\IsV w 3 .u32 64 keyF
theorem Vars.below {w w':World} {B:Nat} (h:Vars w) (b:Below B w w') (hB:3 + 1<=B):Vars w':=⟨h.1.below b (by omega),h.2.below b (by omega)⟩
theorem Vars.two {w:World} (h:Vars w):3 + 1<=w.heap.size:=h.2.lt
theorem zero8:(#[.int .u32 0,.int .u32 0,.int .u32 0,.int .u32 0,.int .u32 0,.int .u32 0,.int .u32 0,.int .u32 0]:Array Value)=rowF .u32 8 (fun _=>0):=by rfl
theorem digestOf_any (t:ByteArray) (w:World) (ht:t.size<=1048576) (hV:Vars w) :
  Calls Tryz.prog 222 #[.string t] w fun e w'=>e=.returned (.string (sha t))/\Below w.heap.size w w':=by
 have HV:=hideS hV
 have HF:=hideS hV.1
 have HK:=hideS hV.2
 have h2:=hV.two
 clear hV
 go_enter Tryz.func222,Tryz.ntmps222
 go_wp2_with (first|((with_reducible refine wpList_load_var HF.out Tryz.underlying293 Tryz.size293 ?_ ?_);(· rfl))|((with_reducible refine wpList_store_row' (IsB.of_list w 293 .u32 8 (fun _=>0) _ zero8) Tryz.size293 firstF ?_ ?_ ?_);(· rfl);(· rfl);intro w2 hi2 hB2 hz2 ho2;have HS2:=hideS hi2;have HZ2:=hideS (show w2.heap.size=w.heap.size+1 by rw[hz2];simp);have HW2:=hideS (((Below.refl w.heap.size w).alloc (Nat.le_refl _) _).trans (hB2 _ (Nat.le_refl _)));clear hi2 hB2 hz2 ho2))
 have hz:=HZ2.out
 obtain⟨ch,hch⟩:∃ c,c=chunks t.size:=⟨_,rfl⟩
 have hr:=chunks_room t.size
 have hti:=chunks_tight t.size
 refine(fill_any t w2 ht).mono ?_
 rw[hz,<-hch]
 rw[<-hch]at hr hti
 rintro e w3 ⟨rfl,hp3,hb3⟩
 have HCH:=hideS hch
 have HP3:=hideS hp3
 have HS3:=hideS (HS2.out.below hb3 (by omega))
 have HW3:=hideS (HW2.out.trans (hb3.mono (by omega)))
 have HZ3:=hideS (show w.heap.size+2<=w3.heap.size from hp3.lt)
 clear hp3 hb3 hch hz HS2 HW2
 go_wp2_with fail
 go_loopw [5] (fun i wr=>∃ k:Nat,i=.int .i64 (64*(k:Int))/\k<=ch/\IsB wr w.heap.size 293 .u32 8 (shaS t k)/\IsB wr (w.heap.size+1) 5 .u8 (ch*64) (fun j=>(pad t j:Nat))/\Below w.heap.size w wr/\w.heap.size+2<=wr.heap.size) (fun i _=>ch*64-(intOf i).toNat)
 case atStart=>exact⟨0,rfl,Nat.zero_le _,HS3.out,HP3.out,HW3.out,HZ3.out⟩
 case round =>
  obtain⟨k,rfl,hk,h1,hp,hbel,hsz⟩:=hrel
  have G1:=hideS h1
  have GP:=hideS hp
  have GW:=hideS hbel
  have GK:=hideS (HK.out.below hbel (by omega))
  clear h1 hp hbel
  by_cases hlt:k<ch
  ·have e1:64*(k:Int)<(ch:Int)*64:=by omega
   have e2:(64*(k:Int)).toNat=64*k:=by omega
   have e3:(64*(k:Int)+64).toNat=64*k+64:=by omega
   have e4:64*k+64-64*k=64:=by omega
   have e5:IntKind.i64.wrap (64*(k:Int)+64)=64*(k:Int)+64:=by simp[IntKind.wrap,IntKind.bits,IntKind.signed];omega
   have e6:64*(k:Int)+64<=(ch:Int)*64:=by omega
   have e7:0<=64*(k:Int)+64:=by omega
   have e8:0<=64*(k:Int):=by omega
   have e9:64*(k:Int)<=64*(k:Int)+64:=by omega
   have e10:¬ch*64=64*k:=by omega
   have HC:Hid (∀ j,j<64->wr.cell? ⟨w.heap.size+1,64*k+j,none⟩=some (.int .u8 (blkB t k j:Nat))):=fun j hj=>GP.out.cell (by omega)
   go_wp2_with fail
   refine wp_region_still_tail 6 Tryz.checked.mixed (by kernel_rfl) ?_
   simp only[List.take_succ_cons,List.take_zero,List.drop_succ_cons,List.drop_zero]
   refine wpStill_load_row (show IsB _ w.heap.size 293 .u32 8 (shaS t k) from G1.out) Tryz.underlying293 Tryz.size293 rfl ?_
   repeat still_step
   refine wpStill_nil ?_
   go_wp2_with fail
   refine(take_any (shaS t k) (w.heap.size+1) (64*k) (ch*64-64*k) (blkB t k) wr.drew (blkB_lt t k) (show w.heap.size+1<wr.heap.size by omega) HC.out (by omega) (show IsV wr 3 _ _ _ from GK.out)).mono ?_
   rintro e w4 ⟨rfl,hb4⟩
   have hb5:Below wr.heap.size wr w4:=⟨hb4.os,hb4.tape,hb4.output,hb4.size,hb4.block⟩
   have J1:=hideS (G1.out.below hb5 (by omega))
   have JP:=hideS (GP.out.below hb5 (by omega))
   have JW:=hideS (GW.out.trans (hb5.mono (by omega)))
   have hsz4:w.heap.size+2<=w4.heap.size:=by have:=hb5.size;omega
   clear hb4 hb5
   go_wp2_with ((with_reducible refine wpList_store_row' J1.out Tryz.size293 (blk (blkB t k) (shaS t k)) ?_ ?_ ?_);(· rfl);(· rfl);intro w5 hi5 hB5 hz5 ho5;have L1:=hideS hi5;have LP:=hideS (JP.out.of_heap (ho5 _ (by omega)));have LW:=hideS (JW.out.trans (hB5 _ (Nat.le_refl _)));have LZ:=hideS (show w.heap.size+2<=w5.heap.size by omega);clear hi5 hB5 hz5 ho5)
   go_roundw
   case rel=>exact⟨k+1,by go_num,by omega,L1.out,LP.out,LW.out,LZ.out⟩
   case measure=>simp[intOf];omega
  ·have HS:Hid (shaS t k=shaS t (chunks t.size)):=by
    unfold Hid
    rw[<-HCH.out]
    congr 1
    omega
   have e1:¬64*(k:Int)<(ch:Int)*64:=by omega
   go_wp2_with fail
   go_loopw [24] (fun i wo=>∃ m:Nat,i=.int .i64 m/\m<=32/\IsB wo wr.heap.size 296 .u8 32 (fun j=>(outK (shaS t k) m j:Nat))/\IsB wo w.heap.size 293 .u32 8 (shaS t k)/\Below w.heap.size w wo) (fun i _=>32-(intOf i).toNat)
   case atStart=>exact⟨0,rfl,by omega,IsB.of_list wr 296 .u8 32 _ _ (by rfl),G1.out.alloc _,GW.out.alloc (by omega) _⟩
   case round =>
    obtain⟨m,rfl,hm,o1,o2,o3⟩:=hrel
    have O1:=hideS o1
    have O2:=hideS o2
    by_cases hl32:m<32
    ·obtain⟨x,hx⟩:∃ x,x=shaS t k (m/4):=⟨_,rfl⟩
     have HV:Hid (x/2 ^ (24-8*(m%4))%256=((outF (shaS t k) m:Nat):Int)):=by
      unfold Hid
      rw[hx]
      exact outF_cast _ _
     have d1:((m:Int)/4).toNat=m/4:=by omega
     have d2:(24-8*((m:Int)%4)).toNat=24-8*(m%4):=by omega
     have d3:0<=24-8*((m:Int)%4):=by omega
     have d4:(m:Int)/4<8:=by omega
     have d5:0<=(m:Int)/4:=by omega
     have cs:wr.cell? ⟨w.heap.size,m/4,none⟩=some (.int .u32 x):=by rw[o2.cell (by omega),hx]
     have co:=o1.cell hl32
     have cf:=o1.frozen m
     clear o1 o2 hx
     go_wp2_with fail
     go_roundw
     case rel =>
      rw[HV.out]
      exact⟨m+1,by go_num,by omega,IsB.congr (O1.out.set m _) (fun j _=>outK_next _ m j _ rfl),O2.out.set_other _ _ (by simp;omega),o3.setCell (by simp;omega) _⟩
     case measure=>simp[intOf];omega
    ·obtain rfl:m=32:=by omega
     have hcv:=o1.str (P:=Tryz.prog) (src:=168) (dst:=9) 32 32 (Nat.le_refl _) (fun j _=>outK_lt _ _ _) Tryz.underlying168 Tryz.underlying5 Tryz.underlying9
     have HR:=hideS (outK_all (shaS t k))
     clear o1 o2
     go_wp2_with fail
     go_ret
     refine⟨Nu.ret_strJ ?_,o3⟩
     rw[HR.out,HS.out]
     rfl
end Go.Proofs.YtpddanmnlkcdpaaGreatDoor.Sh


/- What both Digest answer, and the law on it. -/
namespace Go.Proofs.YtpddanmnlkcdpaaGreatDoor.Sh
open Go.RowKit
theorem all_any (t:ByteArray) (w:World) (ht:t.size<=1048576) :
  Calls Tryz.prog 167 #[.string t] w fun e w'=>e=.returned (.string (sha t))/\Below w.heap.size w w' :=
 all_of (fun s gs c t w h1 h2 h3 h4=>block_any s gs c t w h1 h2 h3 h4) t w ht
def digestV (t:ByteArray):ByteArray:=if t.size<=8000 then sha t else ⟨#[]⟩
theorem digest_impl (t:ByteArray) (w:World) (ht:t.size<=maxLen) (hV:Vars w) :
  Calls Tryz.prog 200 #[.string t] w fun e w'=>e=.returned (.string (digestV t))/\Below w.heap.size w w':=by
 unfold maxLen at ht
 have HV:=hideS hV
 clear hV
 by_cases h:8000<t.size
 ·have HP:=hideS (show digestV t=⟨#[]⟩ by unfold digestV;rw[if_neg (by omega)])
  go_enter Tryz.func200,Tryz.ntmps200
  go_wp2_with fail
  go_ret
  exact⟨Nu.ret_strJ HP.out.symm,Below.refl _ _⟩
 ·have HP:=hideS (show digestV t=sha t by unfold digestV;rw[if_pos (by omega)])
  go_enter Tryz.func200,Tryz.ntmps200
  go_wp2_with fail
  refine(digestOf_any t w (by omega) HV.out).mono ?_
  rintro e w1 ⟨rfl,hb1⟩
  go_wp2_with fail
  go_ret
  exact⟨Nu.ret_strJ HP.out.symm,hb1⟩
end Go.Proofs.YtpddanmnlkcdpaaGreatDoor.Sh


/- What both LeafHash and both NodeHash answer. -/
namespace Go.Proofs.YtpddanmnlkcdpaaGreatDoor.Sh
open Go.RowKit
theorem below3 {w w1 w2 w3:World} (h1:Below w.heap.size w w1) (h2:Below w1.heap.size w1 w2) (h3:Below w2.heap.size w2 w3):Below w.heap.size w w3 :=
 have a:=h1.trans (h2.mono h1.size)
 a.trans (h3.mono a.size)
def leafV (t:ByteArray):ByteArray:=sha (⟨#[0]⟩++t)
def nodeV (a b:ByteArray):ByteArray:=sha (⟨#[1]⟩++a++b)
theorem nodeV_size (a b:ByteArray):(nodeV a b).size=32:=sha_size _
theorem mark0_size (t:ByteArray):((⟨#[0]⟩:ByteArray)++t).size=1+t.size:=by
 rw[ByteArray.size_append]
 rfl
theorem mark1_size (t:ByteArray):((⟨#[1]⟩:ByteArray)++t).size=1+t.size:=by
 rw[ByteArray.size_append]
 rfl
theorem l03Leaf_any (t:ByteArray) (w:World) (ht:t.size<=8000) :
  Calls Tryz.prog 134 #[.string t] w fun e w'=>e=.returned (.string (leafV t))/\Below w.heap.size w w':=by
 go_enter Tryz.func134,Tryz.ntmps134
 go_wp2_with fail
 refine(all_any _ w (by rw[mark0_size];omega)).mono ?_
 rintro e w1 ⟨rfl,hb1⟩
 go_wp2_with fail
 go_ret
 exact⟨rfl,hb1⟩
theorem l03Node_any (a b:ByteArray) (w:World) (ha:a.size<=8000) (hb:b.size<=8000) :
  Calls Tryz.prog 166 #[.string a,.string b] w fun e w'=>e=.returned (.string (nodeV a b))/\Below w.heap.size w w':=by
 go_enter Tryz.func166,Tryz.ntmps166
 go_wp2_with fail
 refine(all_any _ w (by rw[ByteArray.size_append,mark1_size];omega)).mono ?_
 rintro e w1 ⟨rfl,hb1⟩
 go_wp2_with fail
 go_ret
 exact⟨rfl,hb1⟩
def leafR (t:ByteArray):ByteArray:=if 100<t.size then ⟨#[]⟩ else leafV t
theorem leafR_no (t:ByteArray) (h:100<t.size):leafR t=⟨#[]⟩:=if_pos h
theorem leafR_yes (t:ByteArray) (h:¬100<t.size):leafR t=leafV t:=if_neg h
def nodeR (a b:ByteArray):ByteArray:=if a.size=32/\b.size=32 then nodeV a b else ⟨#[]⟩
theorem nodeR_no (a b:ByteArray) (h:¬(a.size=32/\b.size=32)):nodeR a b=⟨#[]⟩:=if_neg h
theorem nodeR_yes (a b:ByteArray) (h:a.size=32) (h':b.size=32):nodeR a b=nodeV a b:=if_pos ⟨h,h'⟩
theorem leaf_impl (t:ByteArray) (w:World) (ht:t.size<=maxLen) (hV:Vars w) :
  Calls Tryz.prog 175 #[.string t] w fun e w'=>e=.returned (.string (leafR t))/\Below w.heap.size w w':=by
 have HT:=hideS ht
 unfold maxLen at ht
 have HV:=hideS hV
 have h2:=hV.two
 clear hV
 by_cases h:100<t.size
 ·have HP:=hideS (leafR_no t h)
  go_enter Tryz.func175,Tryz.ntmps175
  go_wp2_with fail
  go_ret
  exact⟨Nu.ret_strJ HP.out.symm,Below.refl _ _⟩
 ·have HP:=hideS (leafR_yes t h)
  have HD:=hideS (show digestV (⟨#[0]⟩++t)=leafV t by unfold digestV leafV;rw[if_pos (by rw[mark0_size];omega)])
  go_enter Tryz.func175,Tryz.ntmps175
  go_wp2_with fail
  refine(Nu.join_any ⟨#[0]⟩ t w (by rw[show (⟨#[0]⟩:ByteArray).size=1 from rfl];omega)).mono ?_
  rintro e w1 ⟨rfl,hb1⟩
  go_wp2_with fail
  refine(digest_impl _ _ (by rw[mark0_size];unfold maxLen;omega) (HV.out.below hb1 h2)).mono ?_
  rintro e w2 ⟨rfl,hb2⟩
  have HB:=hideS (hb1.trans (hb2.mono hb1.size))
  clear hb1 hb2
  go_wp2_with fail
  go_ret
  exact⟨Nu.ret_strJ (HD.out.trans HP.out.symm),HB.out⟩
theorem node_impl (a b:ByteArray) (w:World) (hV:Vars w) :
  Calls Tryz.prog 233 #[.string a,.string b] w fun e w'=>e=.returned (.string (nodeR a b))/\Below w.heap.size w w':=by
 have HV:=hideS hV
 have h2:=hV.two
 clear hV
 by_cases h:a.size=32
 ·by_cases h':b.size=32
  ·have HP:=hideS (nodeR_yes a b h h')
   have HD:=hideS (show digestV (⟨#[1]⟩++(a++b))=nodeV a b by unfold digestV nodeV;rw[if_pos (by rw[mark1_size,ByteArray.size_append];omega),ByteArray.append_assoc])
   go_enter Tryz.func233,Tryz.ntmps233
   go_wp2_with fail
   refine(Nu.join_any a b w (by omega)).mono ?_
   rintro e w1 ⟨rfl,hb1⟩
   go_wp2_with fail
   refine(Nu.join_any ⟨#[1]⟩ (a++b) _ (by rw[show (⟨#[1]⟩:ByteArray).size=1 from rfl,ByteArray.size_append];omega)).mono ?_
   rintro e w2 ⟨rfl,hb2⟩
   go_wp2_with fail
   refine(digest_impl _ _ (by rw[mark1_size,ByteArray.size_append];unfold maxLen;omega) ((HV.out.below hb1 h2).below hb2 (by have:=hb1.size;omega))).mono ?_
   rintro e w3 ⟨rfl,hb3⟩
   have HB:=hideS (below3 hb1 hb2 hb3)
   clear hb1 hb2 hb3
   go_wp2_with fail
   go_ret
   exact⟨Nu.ret_strJ (HD.out.trans HP.out.symm),HB.out⟩
  ·have HP:=hideS (nodeR_no a b (fun x=>h' x.2))
   go_enter Tryz.func233,Tryz.ntmps233
   go_wp2_with fail
   go_ret
   exact⟨Nu.ret_strJ HP.out.symm,Below.refl _ _⟩
 ·have HP:=hideS (nodeR_no a b (fun x=>h x.1))
  go_enter Tryz.func233,Tryz.ntmps233
  go_wp2_with fail
  go_ret
  exact⟨Nu.ret_strJ HP.out.symm,Below.refl _ _⟩
end Go.Proofs.YtpddanmnlkcdpaaGreatDoor.Sh


/- Plain mathematics of trees of digests: where a list is cut, the tree of a list of texts. -/
namespace Go.Proofs.YtpddanmnlkcdpaaGreatDoor.Tr
open Sh (sha sha_size leafV nodeV nodeV_size)
def half (n:Nat):Nat:=2 ^ Nat.log2 (n-1)
theorem half_pos (n:Nat):1<=half n:=Nat.one_le_two_pow
theorem half_lt (n:Nat) (h:2<=n):half n<n:=by
 have:=Nat.log2_self_le (n:=n-1) (by omega)
 unfold half
 omega
theorem half_two (n:Nat) (h:2<=n):n<=2*half n:=by
 have:=Nat.lt_log2_self (n:=n-1)
 unfold half
 rw[Nat.pow_succ]at this
 omega
def tree (l:List ByteArray):ByteArray :=
 if h0:l.length=0 then sha ⟨#[]⟩
 else if h1:l.length=1 then leafV (l[0]'(by omega))
 else nodeV (tree (l.take (half l.length))) (tree (l.drop (half l.length)))
termination_by l.length
decreasing_by
 ·have:=half_lt l.length (by omega)
  simp
  omega
 ·have:=half_pos l.length
  simp
  omega
def right (l:List ByteArray):Bool:=decide (l.length<=64) && l.all (fun s=>decide (s.size<=100))
def treeR (l:List ByteArray):ByteArray:=if right l=true then tree l else ⟨#[]⟩
end Go.Proofs.YtpddanmnlkcdpaaGreatDoor.Tr


/- Where a list is cut: spec.l03Half by doubling, impl.firstPart by the number of bits (math/bits.Len64). -/
namespace Go.Proofs.YtpddanmnlkcdpaaGreatDoor.Tr
open Go.RowKit
open St (hideT)
theorem ret_int {a b:Int} (h:a=b):Ending.returned (.int .i64 a)=.returned (.int .i64 b):=by rw[h]
def len (x:Nat):Nat:=if x=0 then 0 else Nat.log2 x+1
end Go.Proofs.YtpddanmnlkcdpaaGreatDoor.Tr


/- The walks of math/bits.OnesCount64 (for small numbers) and spec.l03Ones. -/
namespace Go.Proofs.YtpddanmnlkcdpaaGreatDoor.Tr
open Go.RowKit
open St (hideT)
end Go.Proofs.YtpddanmnlkcdpaaGreatDoor.Tr


namespace Go.Proofs.YtpddanmnlkcdpaaGreatDoor.Tr
open Go.RowKit
open St (hideT)
def renL:Go.Shelf.Ren:=⟨fun _=>153,fun k=>if k=53 then 201 else if k=46 then 164 else if k=3 then 3 else if k=4 then 4 else if k=5 then 5 else 9,fun k=>k⟩
theorem laysL:Lays.n129 Tryz.prog renL where
 mixed:=by kernel_rfl
 f129:=by kernel_rfl
 t3:=by kernel_rfl
 a3:=fun w=>by kernel_rfl
 z3:=fun w=>by kernel_rfl
 v3:=fun w=>by kernel_rfl
 t4:=by kernel_rfl
 a4:=fun w=>by kernel_rfl
 z4:=fun w=>by kernel_rfl
 v4:=fun w=>by kernel_rfl
 t5:=by kernel_rfl
 a5:=fun w=>by kernel_rfl
 z5:=fun w=>by kernel_rfl
 v5:=fun w=>by kernel_rfl
 t9:=by kernel_rfl
 a9:=fun w=>by kernel_rfl
 z9:=fun w=>by kernel_rfl
 v9:=fun w=>by kernel_rfl
 t46:=by kernel_rfl
 a46:=fun w=>by kernel_rfl
 z46:=fun w=>by kernel_rfl
 v46:=fun w=>by kernel_rfl
 t53:=by kernel_rfl
 a53:=fun w=>by kernel_rfl
 z53:=fun w=>by kernel_rfl
 v53:=fun w=>by kernel_rfl
theorem len64_any (x:Nat) (w:World) (h:x<18446744073709551616) :
  Calls Tryz.prog 153 #[.int .u64 x] w fun e w'=>e=.returned (.int .i64 (Lib.bitLen x))/\w'=w:=by
 have:=Any.bits_Len64 laysL x w (by omega) (by omega)
 rw[Int.toNat_natCast]at this
 exact this
theorem bitLen_log (x:Nat) (h0:x≠0) (h:x<18446744073709551616):Lib.bitLen x=Nat.log2 x+1:=by
 induction x using Nat.strongRecOn with
 |ind x ih =>
  rw[Lib.bitLen_half x h0 h]
  by_cases h1:x/2=0
  ·have:x=1:=by omega
   subst this
   rfl
  ·rw[ih (x/2) (by omega) h1 (by omega)]
   have:Nat.log2 x=Nat.log2 (x/2)+1:=by
    refine(Nat.log2_eq_iff h0).2 ⟨?_,?_⟩
    ·have:=Nat.log2_self_le h1
     rw[Nat.pow_succ]
     omega
    ·have:=Nat.lt_log2_self (n:=x/2)
     rw[Nat.pow_succ]at this ⊢
     omega
   omega
theorem half_impl (n:Nat) (w:World) (h2:2<=n) (hn:n<9223372036854775808) :
  Calls Tryz.prog 219 #[.int .i64 n] w fun e w'=>e=.returned (.int .i64 (half n))/\w'=w:=by
 have e1:IntKind.u64.wrap ((n:Int)-1)=((n-1:Nat):Int):=by
  rw[IntKind.wrap_u64]
  omega
 have HL:=hideT (bitLen_log (n-1) (by omega) (by omega))
 obtain⟨k,hk⟩:∃ k,k=Nat.log2 (n-1):=⟨_,rfl⟩
 have HH:=hideT (show half n=2 ^ k by rw[hk];rfl)
 have hk62:k<=62:=by
  rw[hk]
  have:Nat.log2 (n-1)<63:=(Nat.log2_lt (by omega)).2 (by omega)
  omega
 rw[<-hk]at HL
 clear hk
 go_enter Tryz.func219,Tryz.ntmps219
 go_wp2_with fail
 refine(len64_any (n-1) w (by omega)).mono ?_
 rw[HL.out]
 rintro e w1 ⟨rfl,hw⟩
 subst w1
 go_wp2_with fail
 go_ret
 refine⟨ret_int ?_,rfl⟩
 have h3:(2:Nat) ^ k<=2 ^ 62:=Nat.pow_le_pow_right (by decide) hk62
 rw[HH.out]
 have h4:((2:Int) ^ k)=((2 ^ k:Nat):Int):=by simp
 rw[h4]
 generalize (2:Nat) ^ k=y at h3 ⊢
 unfold wrap64
 omega
end Go.Proofs.YtpddanmnlkcdpaaGreatDoor.Tr


/- The walks of impl.entriesRight and spec.l03Entries: whether entries are right. -/
namespace Go.Proofs.YtpddanmnlkcdpaaGreatDoor.Tr
open Go.RowKit
open St
end Go.Proofs.YtpddanmnlkcdpaaGreatDoor.Tr


/- The walk of impl.treeOf: of right entries it answers their tree, and writes nothing that was there. -/
namespace Go.Proofs.YtpddanmnlkcdpaaGreatDoor.Tr
open Go.RowKit
open St
open Sh (Vars leafV nodeV leafR nodeR leaf_impl node_impl digest_impl digestV leafR_yes nodeR_yes below3)
end Go.Proofs.YtpddanmnlkcdpaaGreatDoor.Tr


/- The walk of spec.l03Tree: of right entries it answers their tree, and writes nothing that was there. -/
namespace Go.Proofs.YtpddanmnlkcdpaaGreatDoor.Tr
open Go.RowKit
open St
open Sh (leafV nodeV all_any l03Leaf_any l03Node_any)
end Go.Proofs.YtpddanmnlkcdpaaGreatDoor.Tr


/- What both TreeHash answer, and the law on it. -/
namespace Go.Proofs.YtpddanmnlkcdpaaGreatDoor.Tr
open Go.RowKit
open St
open Sh (Vars)
theorem below2 {w w1 w2:World} (h1:Below w.heap.size w w1) (h2:Below w1.heap.size w1 w2):Below w.heap.size w w2:=h1.trans (h2.mono h1.size)
end Go.Proofs.YtpddanmnlkcdpaaGreatDoor.Tr


/- Plain mathematics of inclusion: climbing from a leaf down from the root's step, and up from the leaf's own, come to the same. -/
namespace Go.Proofs.YtpddanmnlkcdpaaGreatDoor.Tr
open Sh (nodeV)
def climbR:Nat->Nat->Nat->List ByteArray->ByteArray->Option ByteArray
 |0,_,_,_,_=>none
 |f+1,n,i,p,h =>
  if n<=1 then (if p=[] then some h else none)
  else match p.getLast? with
   |none=>none
   |some s=>if i<half n then (climbR f (half n) i p.dropLast h).map (fun x=>nodeV x s) else (climbR f (n-half n) (i-half n) p.dropLast h).map (fun x=>nodeV s x)
def od (a:Nat):Nat:=if _h:a%2=0/\0<a then od (a/2) else a
termination_by a
decreasing_by omega
theorem od_even (a:Nat) (h:a%2=0) (h0:0<a):od a=od (a/2):=by rw[od,dif_pos ⟨h,h0⟩]
theorem od_odd (a:Nat) (h:¬(a%2=0/\0<a)):od a=a:=by rw[od,dif_neg h]
def climbS:Nat->Nat->List ByteArray->ByteArray->Option ByteArray
 |_,last,[],h=>if last=0 then some h else none
 |a,last,p :: ps,h =>
  if last=0 then none
  else if a%2=1 then climbS (a/2) (last/2) ps (nodeV p h)
  else if a=last then climbS (od a/2) (od a/2) ps (nodeV p h)
  else climbS (a/2) (last/2) ps (nodeV h p)
theorem climbS_zero (a:Nat) (p:List ByteArray) (h:ByteArray) (hp:p≠[]):climbS a 0 p h=none:=by
 cases p with
 |nil=>exact absurd rfl hp
 |cons x xs=>rw[climbS,if_pos rfl]
theorem climbS_odd (a last:Nat) (x:ByteArray) (xs:List ByteArray) (h:ByteArray) (h0:last≠0) (h1:a%2=1):climbS a last (x :: xs) h=climbS (a/2) (last/2) xs (nodeV x h):=by
 rw[climbS,if_neg h0,if_pos h1]
theorem climbS_end (a:Nat) (x:ByteArray) (xs:List ByteArray) (h:ByteArray) (h0:a≠0) (h1:a%2=0):climbS a a (x :: xs) h=climbS (od a/2) (od a/2) xs (nodeV x h):=by
 rw[climbS,if_neg h0,if_neg (by omega),if_pos rfl]
theorem climbS_even (a last:Nat) (x:ByteArray) (xs:List ByteArray) (h:ByteArray) (h0:last≠0) (h1:a%2=0) (h2:a≠last):climbS a last (x :: xs) h=climbS (a/2) (last/2) xs (nodeV h x):=by
 rw[climbS,if_neg h0,if_neg (by omega),if_neg h2]
theorem climbS_nil (a last:Nat) (h:ByteArray):climbS a last [] h=if last=0 then some h else none:=by rw[climbS]
theorem pow_half (t:Nat) (h:0<t):2 ^ t/2=2 ^ (t-1)/\2 ^ t=2*2 ^ (t-1):=by
 obtain⟨s,rfl⟩:∃ s,t=s+1:=⟨t-1,by omega⟩
 rw[Nat.pow_succ]
 simp
 omega
theorem pow_pos2 (t:Nat):1<=2 ^ t:=Nat.one_le_two_pow
theorem climb_left:∀ (p:List ByteArray) (t a last:Nat) (s h:ByteArray),a<2 ^ t->2 ^ t<=last->last<2 ^ (t+1) ->
  climbS a last (p++[s]) h=(climbS a (2 ^ t-1) p h).map (fun x=>nodeV x s)
 |[],t,a,last,s,h,h1,h2,h3=>by
  have hp:=pow_pos2 t
  rw[List.nil_append,climbS_nil]
  rcases Nat.eq_zero_or_pos t with h0|h0
  ·subst h0
   rw[climbS_even a last s [] h (by omega) (by omega) (by omega),climbS_nil,if_pos (by omega),if_pos (by omega)]
   rfl
  ·obtain⟨e1,e2⟩:=pow_half t h0
   have hq:=pow_pos2 (t-1)
   rw[if_neg (by omega)]
   by_cases ha:a%2=1
   ·rw[climbS_odd a last s [] h (by omega) ha,climbS_nil,if_neg (by omega)]
    rfl
   ·rw[climbS_even a last s [] h (by omega) (by omega) (by omega),climbS_nil,if_neg (by omega)]
    rfl
 |x :: xs,t,a,last,s,h,h1,h2,h3=>by
  have hp:=pow_pos2 t
  rw[List.cons_append]
  rcases Nat.eq_zero_or_pos t with h0|h0
  ·subst h0
   rw[climbS_even a last x (xs++[s]) h (by omega) (by omega) (by omega)]
   rw[show last/2=0 by omega,climbS_zero _ _ _ (by simp)]
   rw[show 2 ^ 0-1=0 by omega,climbS_zero _ _ _ (by simp)]
   rfl
  ·obtain⟨e1,e2⟩:=pow_half t h0
   have hq:=pow_pos2 (t-1)
   have e3:(2 ^ t-1)/2=2 ^ (t-1)-1:=by omega
   have e4:2 ^ (t+1)=2*2 ^ t:=by rw[Nat.pow_succ];omega
   have e5:2 ^ (t-1+1)=2 ^ t:=by rw[show t-1+1=t by omega]
   by_cases ha:a%2=1
   ·rw[climbS_odd a last x _ h (by omega) ha,climbS_odd a (2 ^ t-1) x _ h (by omega) ha,e3]
    exact climb_left xs (t-1) (a/2) (last/2) s (nodeV x h) (by omega) (by omega) (by omega)
   ·rw[climbS_even a last x _ h (by omega) (by omega) (by omega),climbS_even a (2 ^ t-1) x _ h (by omega) (by omega) (by omega),e3]
    exact climb_left xs (t-1) (a/2) (last/2) s (nodeV h x) (by omega) (by omega) (by omega)
theorem od_pow:∀ t:Nat,od (2 ^ t)=1
 |0=>by rw[od_odd _ (by decide)]
 |t+1=>by
  have hp:=pow_pos2 t
  rw[Nat.pow_succ,od_even _ (by omega) (by omega),show 2 ^ t*2/2=2 ^ t by omega]
  exact od_pow t
theorem od_top:∀ (t r:Nat),0<r->r<2 ^ t->∃ u,1<=u/\u<=t/\od (2 ^ t+r)=2 ^ u+od r/\od r<2 ^ u/\0<od r
 |0,r,h0,h1=>by simp at h1;omega
 |t+1,r,h0,h1=>by
  have hp:=pow_pos2 t
  have e:2 ^ (t+1)=2*2 ^ t:=by rw[Nat.pow_succ];omega
  by_cases hr:r%2=0
  ·obtain⟨u,u1,u2,u3,u4,u5⟩:=od_top t (r/2) (by omega) (by omega)
   refine⟨u,u1,by omega,?_,?_,?_⟩
   ·rw[od_even (2 ^ (t+1)+r) (by omega) (by omega),od_even r hr h0,show (2 ^ (t+1)+r)/2=2 ^ t+r/2 by omega]
    exact u3
   ·rw[od_even r hr h0];exact u4
   ·rw[od_even r hr h0];exact u5
  ·refine⟨t+1,by omega,Nat.le_refl _,?_,?_,?_⟩
   ·rw[od_odd (2 ^ (t+1)+r) (by omega),od_odd r (by omega)]
   ·rw[od_odd r (by omega)];exact h1
   ·rw[od_odd r (by omega)];exact h0
theorem climb_right:∀ (p:List ByteArray) (t a last:Nat) (s h:ByteArray),2 ^ t<=a->a<=last->last<2 ^ (t+1) ->
  climbS a last (p++[s]) h=(climbS (a-2 ^ t) (last-2 ^ t) p h).map (fun x=>nodeV s x)
 |[],t,a,last,s,h,h1,h2,h3=>by
  have hp:=pow_pos2 t
  have e4:2 ^ (t+1)=2*2 ^ t:=by rw[Nat.pow_succ];omega
  rw[List.nil_append,climbS_nil (a-2 ^ t)]
  by_cases hl:last=2 ^ t
  ·obtain rfl:a=last:=by omega
   rw[if_pos (by omega)]
   by_cases ha:a%2=1
   ·rw[climbS_odd a a s [] h (by omega) ha,climbS_nil,if_pos (by
     rcases Nat.eq_zero_or_pos t with h0|h0
     ·subst h0;omega
     ·obtain⟨e1,e2⟩:=pow_half t h0;omega)]
    rfl
   ·rw[climbS_end a s [] h (by omega) (by omega),climbS_nil,hl,od_pow,if_pos (by decide)]
    rfl
  ·rw[if_neg (by omega)]
   have h0:0<t:=by
    rcases Nat.eq_zero_or_pos t with h0|h0
    ·subst h0;omega
    ·exact h0
   obtain⟨e1,e2⟩:=pow_half t h0
   have hq:=pow_pos2 (t-1)
   by_cases ha:a%2=1
   ·rw[climbS_odd a last s [] h (by omega) ha,climbS_nil,if_neg (by omega)]
    rfl
   ·by_cases hal:a=last
    ·subst hal
     obtain⟨u,u1,u2,u3,u4,u5⟩:=od_top t (a-2 ^ t) (by omega) (by omega)
     rw[show 2 ^ t+(a-2 ^ t)=a by omega]at u3
     obtain⟨f1,f2⟩:=pow_half u u1
     have hq':=pow_pos2 (u-1)
     rw[climbS_end a s [] h (by omega) (by omega),climbS_nil,if_neg (by omega)]
     rfl
    ·rw[climbS_even a last s [] h (by omega) (by omega) hal,climbS_nil,if_neg (by omega)]
     rfl
 |x :: xs,t,a,last,s,h,h1,h2,h3=>by
  have hp:=pow_pos2 t
  have e4:2 ^ (t+1)=2*2 ^ t:=by rw[Nat.pow_succ];omega
  rw[List.cons_append]
  by_cases hl:last=2 ^ t
  ·obtain rfl:a=last:=by omega
   rw[show a-2 ^ t=0 by omega,climbS_zero _ _ _ (by simp)]
   by_cases ha:a%2=1
   ·rw[climbS_odd a a x _ h (by omega) ha,show a/2=0 by
     rcases Nat.eq_zero_or_pos t with h0|h0
     ·subst h0;omega
     ·obtain⟨e1,e2⟩:=pow_half t h0;omega,climbS_zero _ _ _ (by simp)]
    rfl
   ·rw[climbS_end a x _ h (by omega) (by omega),hl,od_pow,show 1/2=0 from rfl,climbS_zero _ _ _ (by simp)]
    rfl
  ·have h0:0<t:=by
    rcases Nat.eq_zero_or_pos t with h0|h0
    ·subst h0;omega
    ·exact h0
   obtain⟨e1,e2⟩:=pow_half t h0
   have hq:=pow_pos2 (t-1)
   have e5:2 ^ (t-1+1)=2 ^ t:=by rw[show t-1+1=t by omega]
   have e6:(a-2 ^ t)/2=a/2-2 ^ (t-1):=by omega
   have e7:(last-2 ^ t)/2=last/2-2 ^ (t-1):=by omega
   by_cases ha:a%2=1
   ·rw[climbS_odd a last x _ h (by omega) ha,climbS_odd (a-2 ^ t) (last-2 ^ t) x _ h (by omega) (by omega),e6,e7]
    exact climb_right xs (t-1) (a/2) (last/2) s (nodeV x h) (by omega) (by omega) (by omega)
   ·by_cases hal:a=last
    ·subst hal
     obtain⟨u,u1,u2,u3,u4,u5⟩:=od_top t (a-2 ^ t) (by omega) (by omega)
     rw[show 2 ^ t+(a-2 ^ t)=a by omega]at u3
     obtain⟨f1,f2⟩:=pow_half u u1
     have f5:2 ^ (u-1+1)=2 ^ u:=by rw[show u-1+1=u by omega]
     rw[climbS_end a x _ h (by omega) (by omega),climbS_end (a-2 ^ t) x _ h (by omega) (by omega)]
     rw[show od (a-2 ^ t)/2=od a/2-2 ^ (u-1) by omega]
     exact climb_right xs (u-1) (od a/2) (od a/2) s (nodeV x h) (by omega) (by omega) (by omega)
    ·rw[climbS_even a last x _ h (by omega) (by omega) hal,climbS_even (a-2 ^ t) (last-2 ^ t) x _ h (by omega) (by omega) (by omega),e6,e7]
     exact climb_right xs (t-1) (a/2) (last/2) s (nodeV h x) (by omega) (by omega) (by omega)
end Go.Proofs.YtpddanmnlkcdpaaGreatDoor.Tr


namespace Go.Proofs.YtpddanmnlkcdpaaGreatDoor.Tr
open Go.RowKit
open St
open Sh (nodeV)
def wide (l:List ByteArray):Bool:=l.all (fun s=>decide (s.size=32))
theorem wide_yes (l:List ByteArray):wide l=true↔∀ j (h:j<l.length),l[j].size=32:=by
 unfold wide
 simp only[List.all_eq_true,decide_eq_true_eq]
 constructor
 ·intro h j hj
  exact h _ (List.getElem_mem hj)
 ·intro h s hs
  obtain⟨j,hj,rfl⟩:=List.getElem_of_mem hs
  exact h j hj
theorem wide_bad (l:List ByteArray) (j:Nat) (hj:j<l.length) (h:¬l[j].size=32):wide l=false:=by
 cases e:wide l with
 |false=>rfl
 |true=>exact absurd ((wide_yes l).1 e j hj) h
theorem digs_impl (a:Option Addr) (cap:Nat) (l:List ByteArray) (most:Nat) (w:World) (B:Nat) (h:Strs w B a l) (hn:l.length<=1048576) :
  Calls Tryz.prog 198 #[.slice a l.length cap,.int .i64 most] w fun e w'=>e=.returned (.bool (decide (l.length<=most) && wide l))/\w'=w:=by
 have HS:=hideT h
 clear h
 obtain⟨n,hln⟩:∃ n,n=l.length:=⟨_,rfl⟩
 have HLN:=hideT hln
 rw[<-hln]at hn ⊢
 clear hln
 by_cases hbig:most<n
 ·have HR:Hid ((decide (n<=most) && wide l)=false):=by
   unfold Hid
   rw[decide_eq_false (by omega)]
   rfl
  go_enter Tryz.func198,Tryz.ntmps198
  go_wp2_with fail
  go_ret
  exact⟨ret_bool HR.out.symm,rfl⟩
 ·have HR:Hid ((decide (n<=most) && wide l)=wide l):=by
   unfold Hid
   rw[decide_eq_true (by omega)]
   rfl
  go_enter Tryz.func198,Tryz.ntmps198
  go_wp2_with fail
  go_loopw [13] (fun i wr=>∃ k:Nat,i=.int .i64 k/\k<=n/\(∀ j (hj:j<l.length),j<k->l[j].size=32)/\wr=w) (fun i _=>n-(intOf i).toNat)
  case atStart=>exact⟨0,rfl,by omega,fun j hj h0=>by omega,rfl⟩
  case round =>
   obtain⟨k,rfl,hk,hall,hw⟩:=hrel
   subst hw
   have HA:=hideT hall
   clear hall
   by_cases hlt:k<n
   ·have hkl:k<l.length:=by rw[<-HLN.out];exact hlt
    obtain⟨b,off,rfl,hb,hc⟩:=HS.out.some (by omega)
    have ci:=hc k hkl
    have HBad:=hideT (wide_bad l k hkl)
    obtain⟨s,hs⟩:∃ s,s=l[k]:=⟨_,rfl⟩
    have HSE:=hideT hs
    rw[<-hs]at ci
    clear hc hs
    by_cases h32:s.size=32
    ·go_wp2_with fail
     go_roundw
     case rel =>
      refine⟨k+1,by go_num,by omega,fun j hj h0=>?_,trivial⟩
      by_cases e:j=k
      ·subst e
       rw[<-HSE.out]
       exact h32
      ·exact HA.out j hj (by omega)
     case measure=>simp[intOf];omega
    ·go_wp2_with fail
     go_ret
     exact⟨ret_bool (by rw[HR.out,HBad.out (by rw[<-HSE.out];exact h32)]),rfl⟩
   ·have HY:Hid (wide l=true):=by
     unfold Hid
     exact(wide_yes l).2 (fun j hj=>HA.out j hj (by have:=HLN.out;omega))
    go_wp2_with fail
    go_ret
    exact⟨ret_bool (by rw[HR.out,HY.out]),rfl⟩
theorem wide_spec (a:Option Addr) (cap:Nat) (l:List ByteArray) (w:World) (B:Nat) (h:Strs w B a l) (hn:l.length<=1048576) :
  Calls Tryz.prog 165 #[.slice a l.length cap] w fun e w'=>e=.returned (.bool (wide l))/\w'=w:=by
 have HS:=hideT h
 clear h
 obtain⟨n,hln⟩:∃ n,n=l.length:=⟨_,rfl⟩
 have HLN:=hideT hln
 rw[<-hln]at hn ⊢
 clear hln
 go_enter Tryz.func165,Tryz.ntmps165
 go_wp2_with fail
 go_loopw [3] (fun i wr=>∃ k:Nat,i=.int .i64 k/\k<=n/\(∀ j (hj:j<l.length),j<k->l[j].size=32)/\wr=w) (fun i _=>n-(intOf i).toNat)
 case atStart=>exact⟨0,rfl,by omega,fun j hj h0=>by omega,rfl⟩
 case round =>
  obtain⟨k,rfl,hk,hall,hw⟩:=hrel
  subst hw
  have HA:=hideT hall
  clear hall
  by_cases hlt:k<n
  ·have hkl:k<l.length:=by rw[<-HLN.out];exact hlt
   obtain⟨b,off,rfl,hb,hc⟩:=HS.out.some (by omega)
   have ci:=hc k hkl
   have HBad:=hideT (wide_bad l k hkl)
   obtain⟨s,hs⟩:∃ s,s=l[k]:=⟨_,rfl⟩
   have HSE:=hideT hs
   rw[<-hs]at ci
   clear hc hs
   by_cases h32:s.size=32
   ·go_wp2_with fail
    go_roundw
    case rel =>
     refine⟨k+1,by go_num,by omega,fun j hj h0=>?_,trivial⟩
     by_cases e:j=k
     ·subst e
      rw[<-HSE.out]
      exact h32
     ·exact HA.out j hj (by omega)
    case measure=>simp[intOf];omega
   ·go_wp2_with fail
    go_ret
    exact⟨ret_bool (by rw[HBad.out (by rw[<-HSE.out];exact h32)]),rfl⟩
  ·have HY:Hid (wide l=true):=by
    unfold Hid
    exact(wide_yes l).2 (fun j hj=>HA.out j hj (by have:=HLN.out;omega))
   go_wp2_with fail
   go_ret
   exact⟨ret_bool (by rw[HY.out]),rfl⟩
theorem cutLast_any (b off m cap:Nat) (s:ByteArray) (w:World) (hm:1<=m) (hm2:m<=1048576) (hc:m<=cap) (ci:w.cell? ⟨b,off+(m-1),none⟩=some (.string s)) :
  Calls Tryz.prog 218 #[.slice (some ⟨b,off,none⟩) m cap] w fun e w'=>e=.returned (.tuple #[.slice (some ⟨b,off,none⟩) (m-1) (m-1),.string s])/\Below w.heap.size w w':=by
 obtain⟨k,rfl⟩:∃ k,m=k+1:=⟨m-1,by omega⟩
 rw[show k+1-1=k by omega]at ci ⊢
 have g0:((k+1:Nat):Int)-1=k:=by omega
 have g1:(k:Int)<=cap:=by omega
 have g2:(k:Int)<((k+1:Nat):Int):=by omega
 have g3:¬cap=k:=by omega
 go_enter Tryz.func218,Tryz.ntmps218
 go_wp2_with fail
 go_region
 all_goals (try go_wp2_with fail)
 all_goals go_ret2
 all_goals exact⟨rfl,(Below.refl _ _).drew⟩
def incl (n i:Nat) (p:List ByteArray) (h:ByteArray):Option ByteArray:=climbS i (n-1) p h
theorem incl_one (p:List ByteArray) (h:ByteArray):incl 1 0 p h=if p=[] then some h else none:=by
 unfold incl
 cases p with
 |nil=>rw[climbS_nil,if_pos rfl,if_pos rfl]
 |cons x xs=>rw[climbS_zero _ _ _ (by simp),if_neg (by simp)]
theorem incl_none (n i:Nat) (h:ByteArray) (hn:2<=n):incl n i [] h=none:=by
 unfold incl
 rw[climbS_nil,if_neg (by omega)]
theorem incl_left (n i:Nat) (q:List ByteArray) (s h:ByteArray) (hn:2<=n) (hi:i<half n):incl n i (q++[s]) h=(incl (half n) i q h).map (fun x=>nodeV x s):=by
 have k3:=half_two n hn
 have k2:=half_lt n hn
 have hk:half n=2 ^ Nat.log2 (n-1):=rfl
 have e4:2 ^ (Nat.log2 (n-1)+1)=2*half n:=by rw[Nat.pow_succ,hk];omega
 exact climb_left q (Nat.log2 (n-1)) i (n-1) s h (by rw[<-hk];exact hi) (by rw[<-hk];omega) (by rw[e4];omega)
theorem incl_right (n i:Nat) (q:List ByteArray) (s h:ByteArray) (hn:2<=n) (hi:¬i<half n) (hin:i<n):incl n i (q++[s]) h=(incl (n-half n) (i-half n) q h).map (fun x=>nodeV s x):=by
 have k3:=half_two n hn
 have k2:=half_lt n hn
 have hk:half n=2 ^ Nat.log2 (n-1):=rfl
 have e4:2 ^ (Nat.log2 (n-1)+1)=2*half n:=by rw[Nat.pow_succ,hk];omega
 have:=climb_right q (Nat.log2 (n-1)) i (n-1) s h (by rw[<-hk];omega) (by omega) (by rw[e4];omega)
 unfold incl
 rw[this,<-hk,show n-1-half n=n-half n-1 by omega]
end Go.Proofs.YtpddanmnlkcdpaaGreatDoor.Tr


/- Whether a range is right: impl.rangeRight and spec.l03Range. -/
namespace Go.Proofs.YtpddanmnlkcdpaaGreatDoor.Tr
open Go.RowKit
open St
def rngB (n:Int) (p:List ByteArray):Bool:=decide (0<=n) && decide (n<=1000000) && decide (p.length=ones n.toNat) && wide p
end Go.Proofs.YtpddanmnlkcdpaaGreatDoor.Tr


/- What both RangeRoot answer. -/
namespace Go.Proofs.YtpddanmnlkcdpaaGreatDoor.Tr
open Go.RowKit
open St
open Sh (Vars nodeV nodeV_size nodeR nodeR_yes node_impl digest_impl all_any l03Node_any sha)
def fold (p:List ByteArray):Nat->ByteArray->ByteArray
 |0,h=>h
 |m+1,h=>fold p m (nodeV (p.getD m ⟨#[]⟩) h)
def rootR (n:Int) (p:List ByteArray):ByteArray :=
 if rngB n p=true then (if n=0 then sha ⟨#[]⟩ else fold p (p.length-1) (p.getD (p.length-1) ⟨#[]⟩)) else ⟨#[]⟩
end Go.Proofs.YtpddanmnlkcdpaaGreatDoor.Tr


/- What RangeAdd answers; rows that are cut, and append onto them. -/
namespace Go.Proofs.YtpddanmnlkcdpaaGreatDoor.Tr
open Go.RowKit
open St
open Sh (Vars leafV nodeV nodeV_size)
def carry (p:List ByteArray):Nat->Nat->ByteArray->List ByteArray
 |0,_,h=>[h]
 |j+1,low,h=>if low%2=1 then carry p j (low/2) (nodeV (p.getD j ⟨#[]⟩) h) else p.take (j+1)++[h]
def addOk (n:Int) (p:List ByteArray) (t:ByteArray):Bool:=rngB n p && decide (n<1000000) && decide (t.size<=100)
def addN (n:Int) (p:List ByteArray) (t:ByteArray):Int:=if 8000<t.size then 0 else if addOk n p t=true then n+1 else n
def addR (n:Int) (p:List ByteArray) (t:ByteArray):List ByteArray:=if 8000<t.size then [] else if addOk n p t=true then carry p p.length n.toNat (leafV t) else p
def Rw (w:World) (base:Nat) (v:Value) (l:List ByteArray):Prop :=
 OwnS w base v l∨∃ g,v=.slice (some ⟨g,0,none⟩) l.length l.length/\base<=g/\∀ j (h:j<l.length),w.cell? ⟨g,j,none⟩=some (.string l[j])
end Go.Proofs.YtpddanmnlkcdpaaGreatDoor.Tr


/- append of a slice that came in, nil too, behind a row of the call's own. -/
namespace Go.Proofs.YtpddanmnlkcdpaaGreatDoor.Tr
open Go.RowKit
theorem grown_refl (w:World) (row:Option Nat):w.grownBy w row:=⟨rfl,rfl,rfl,Nat.le_refl _,fun _ _ _=>rfl⟩
theorem wpList_append_opt {P:Program} (w:World) {ops:Array Oper} {rest:List Oper} {o:Oper} {a:Act} {Q:Exit->Act->World->Prop} (hgd:o.guard=none) (s x:Operand) (t:TypeId)
  (ho:o.op=.call { callee:=.builtin .append,args:=#[s,x],argTypes:=#[t,t] })
  (base:Nat) (e:TypeId) (i:TypeInfo) (z:Value) (size bytes:Nat) (ht:P.underlying t=some (.slice e)) (hi:P.info? e=some i) (hz:i.zero=some z)
  (hsize:i.size=size) (hby:i.bytes=bytes) (hzs:z.cells.size=size) (hsz:0<size)
  (v:Value) (n:Nat) (xs:List Value) (hs:a.eval s=v) (hown:w.ownsRow base e size v n xs)
  (ad:Option Addr) (m c:Nat) (ha:ad=none->m=0/\c=0) (news:List Value) (hx:a.eval x=.slice ad m c) (hl:news.length=m*size) (hnews:∀ d,ad=some d->∀ j u,news[j]? = some u->w.cell? (d.add j)=some u) (h1:∀ u∈news,u.oneCell'=true)
  (h63:n+m<=maxLen) (hbytes:(n+m)*bytes<=140737488355328) (hbase:base<=w.heap.size)
  (h:∀ v' w',w'.ownsRow base e size v' (n+m) (xs++news)->w.grownBy w' v.ownBlock->(v'=.slice none 0 0↔v=.slice none 0 0/\m=0)->wpList P ops Q rest (a.put o.dst v') w'):wpList P ops Q (o :: rest) a w:=by
 cases ad with
 |some d=>exact wpList_append_own w hgd s x t ho base e i z size bytes ht hi hz hsize hby hzs hsz v n xs hs hown d m c news hx hl (hnews d rfl) h1 h63 hbytes hbase h
 |none =>
  obtain⟨rfl,rfl⟩:=ha rfl
  obtain rfl:news=[]:=List.eq_nil_of_length_eq_zero (by simpa using hl)
  refine wpList_plain hgd fun K hK=>?_
  have hr:=run_append_owned_none (P:=P) (w:=w) base t o.type e i size ht hi v n xs hown
  unfold Oper.wp execOp
  simp only[ho,resolve,invoke,builtin,Sem.run_bind,Sem.run_pure,Result.andThen_ok,List.map_toArray,List.map_cons,List.map_nil,hs,hx,hr]
  exact hK _ _ (h v w (by simpa using hown) (grown_refl _ _) (by simp))
end Go.Proofs.YtpddanmnlkcdpaaGreatDoor.Tr


namespace Go.Proofs.YtpddanmnlkcdpaaGreatDoor.Pe
open Go.RowKit
open Kp
open In (Ints OwnI)
open In.Tryz (infoI2)
open Tr (wpList_append_opt)
open Ap (KeepE keepE_own)
open Ls (lowL blk_alloc)
theorem Tryz.infoOther:(Tryz.prog.info? 86).map (fun i=>(i.zero,i.size,i.bytes))=some (some (.agg #[.string ⟨#[]⟩,.slice none 0 0,.int .i64 0,.int .i64 0,.int .i64 0]),5,64):=by kernel_rfl
def Apart (m:List MO):Prop:=m.Pairwise fun x y=>∀ g,x.2.ownBlock=some g->y.2.ownBlock≠some g
def Hass (W:World) (base:Nat) (m:List MO):Prop:=∀ x∈m,OwnI W base x.2 x.1.has
theorem ownI_keep {W W':World} {base:Nat} {v:Value} {l:List Int} {e:TypeId} (h:OwnI W base v l) (k:KeepE e W W') (he:(2:TypeId)≠e):OwnI W' base v l:=by
 obtain⟨hl,h⟩:=h
 refine⟨hl,?_⟩
 rcases h with h|⟨g,cap,cur,hv,hg,hb,rest⟩
 ·exact .inl h
 ·exact .inr ⟨g,cap,cur,hv,hg,k g cur _ he hb,rest⟩
theorem Hass.keep {W W':World} {base:Nat} {m:List MO} {e:TypeId} (h:Hass W base m) (k:KeepE e W W') (he:(2:TypeId)≠e):Hass W' base m:=fun x hx=>ownI_keep (h x hx) k he
theorem Hass.below {W W':World} {base:Nat} {m:List MO} (h:Hass W base m) (hb:Below W.heap.size W W'):Hass W' base m:=fun x hx=>(h x hx).below hb
theorem keepE_set {W:World} {g:Nat} {cs:Array Value} {e:TypeId} (hg:W.heap[g]? = some (.cells cs e (0,0))) (i:Nat) (u:Value):KeepE e W (W.setCell ⟨g,i,none⟩ u):=fun k cur t ht hk=>by
 rw[heap_setCell_other W _ k u (by
  rintro rfl
  rw[hg]at hk
  simp at hk
  exact ht hk.2.symm)]
 exact hk
theorem OwnO.set_other {W:World} {base g:Nat} {v:Value} {m:List MO} (h:OwnO W base v m) (hg:v.ownBlock≠some g) (i:Nat) (u:Value):OwnO (W.setCell ⟨g,i,none⟩ u) base v m:=by
 obtain⟨hl,h⟩:=h
 refine⟨hl,?_⟩
 rcases h with h|⟨k,cap,cur,rfl,hk,hb,rest⟩
 ·exact .inl h
 ·refine .inr ⟨k,cap,cur,rfl,hk,?_,rest⟩
  rw[heap_setCell_other W _ k u (by
   rintro rfl
   exact hg rfl)]
  exact hb
theorem OwnO.block_lt {W:World} {base g:Nat} {v:Value} {m:List MO} (h:OwnO W base v m) (hg:W.heap.size<=g):v.ownBlock≠some g:=fun e=>by
 have:=(World.ownsRow.lt h g e).2
 omega
theorem ints_news {W:World} {B:Nat} {a:Option Addr} {l:List Int} (h:Ints W B a l):∀ d,a=some d->∀ j u,(l.map (Value.int .i64))[j]? = some u->W.cell? (d.add j)=some u:=by
 intro d hd j u hu
 have hj:j<l.length:=by
  have:=(List.getElem?_eq_some_iff.1 hu).1
  rwa[List.length_map]at this
 rcases h with rfl|⟨b,off,rfl,_,hc⟩
 ·cases hj
 ·cases hd
  rw[List.getElem?_map,List.getElem?_eq_getElem hj]at hu
  rw[Addr.add_lit,hc j hj]
  exact hu
theorem ints_oneP (l:List Int):∀ u∈l.map (Value.int .i64),u.oneCell'=true:=by
 intro u hu
 obtain⟨x,_,rfl⟩:=List.mem_map.1 hu
 rfl
theorem oths_take {m:List MO} {j:Nat} (h:j<m.length):oths (m.take (j+1))=oths (m.take j)++[m[j].1]:=by
 unfold oths
 rw[List.take_succ_eq_append_getElem h,List.map_append]
 rfl
def CopyOut (m:List MO) (base:Nat) (e:Ending) (w':World):Prop:=∃ v m',e=.returned v/\oths m'=oths m/\OwnO w' base v m'/\Hass w' base m'/\Apart m'
structure Cop (w wr:World) (m:List MO) (j:Nat) (u:Value) (m':List MO):Prop where
 os:oths m'=oths (m.take j)
 row:OwnO wr w.heap.size u m'
 has:Hass wr w.heap.size m'
 ap:Apart m'
 low:Below w.heap.size w wr
theorem Cop.len {w wr:World} {m m':List MO} {j:Nat} {u:Value} (h:Cop w wr m j u m') (hj:j<=m.length):m'.length=j:=by
 have:=congrArg List.length h.os
 rw[oths_length,oths_length,List.length_take]at this
 omega
theorem Cop.more {w wr w1 w3:World} {m m':List MO} {j:Nat} {u v1 v3:Value} {x:Oth} {l0:Value} (h:Cop w wr m j u m') (hx:oths (m.take (j+1))=oths (m.take j)++[x])
  (hz:w.heap.size<=wr.heap.size)
  (ho1:OwnI w1 (wr.heap.size+1) v1 x.has) (hb1:Below (wr.heap.size+1) (wr.alloc (.cells #[.string x.name,l0,.int .i64 x.asked,.int .i64 x.age,.int .i64 x.strikes] 86)) w1)
  (ho3:w3.ownsRow w.heap.size 86 5 v3 (m'.length+1) (cellsO m'++[.string x.name,v1,.int .i64 x.asked,.int .i64 x.age,.int .i64 x.strikes]))
  (hg3:((w1.setCell ⟨wr.heap.size,1,none⟩ v1).alloc (.cells #[.string x.name,v1,.int .i64 x.asked,.int .i64 x.age,.int .i64 x.strikes] 86)).grownBy w3 u.ownBlock):Cop w w3 m (j+1) v3 (m'++[(x,v1)]):=by
 have hz1:wr.heap.size+1<=w1.heap.size:=by have:=hb1.size;simpa using this
 have hA:Below wr.heap.size wr w1:=((Below.refl _ wr).alloc (Nat.le_refl _) _).trans (hb1.mono (Nat.le_succ _))
 have hblk:w1.heap[wr.heap.size]? = some (.cells #[.string x.name,l0,.int .i64 x.asked,.int .i64 x.age,.int .i64 x.strikes] 86 (0,0)):=(hb1.block _ (Nat.lt_succ_self _)).trans (heap_alloc_new wr _)
 have hr1:OwnO w1 w.heap.size u m':=h.row.below hA
 have hr2:=(hr1.set_other (h.row.block_lt (Nat.le_refl _)) 1 v1).alloc (.cells #[.string x.name,v1,.int .i64 x.asked,.int .i64 x.age,.int .i64 x.strikes] 86)
 have k1:=keepE_set hblk 1 v1
 have hbl2:Below (w1.setCell ⟨wr.heap.size,1,none⟩ v1).heap.size (w1.setCell ⟨wr.heap.size,1,none⟩ v1) ((w1.setCell ⟨wr.heap.size,1,none⟩ v1).alloc (.cells #[.string x.name,v1,.int .i64 x.asked,.int .i64 x.age,.int .i64 x.strikes] 86)):=(Below.refl _ _).alloc (Nat.le_refl _) _
 have k2:=KeepE.below (e:=86) hbl2
 have k3:=keepE_own hg3 hr2
 have he:(2:TypeId)≠86:=by decide
 have kk:∀ {v:Value} {l:List Int} {b:Nat},OwnI w1 b v l->OwnI w3 b v l:=fun q=>ownI_keep (ownI_keep (ownI_keep q k1 he) k2 he) k3 he
 refine⟨?_,OwnO.snoc ho3,?_,?_,?_⟩
 ·unfold oths at hx ⊢
  rw[List.map_append,hx,<-show List.map (·.1) m'=List.map (·.1) (m.take j) from h.os]
  rfl
 ·intro y hy
  rcases List.mem_append.1 hy with hy|hy
  ·exact kk ((h.has y hy).below hA)
  ·rw[List.mem_singleton.1 hy]
   exact kk (ho1.mono (Nat.le_trans hz (Nat.le_succ _)))
 ·unfold Apart
  rw[List.pairwise_append]
  refine⟨h.ap,List.pairwise_singleton _ _,fun y hy z hq g hg=>?_⟩
  rw[List.mem_singleton.1 hq]
  intro hg'
  have h1:=(World.ownsRow.lt (h.has y hy) g hg).2
  have h2:=(World.ownsRow.lt ho1 g hg').1
  omega
 ·refine(((h.low.trans (hA.mono hz)).setCell (p:=⟨wr.heap.size,1,none⟩) hz v1).alloc ?_ _).grown hg3 ?_ ?_
  ·simp
   omega
  ·simp
   omega
  ·intro k hk
   exact(World.ownsRow.lt h.row k hk).1
theorem copy_impl (a:Option Addr) (n cap:Nat) (m:List MO) (w:World) (h:Oths w w.heap.size a m) (hm:m.length=n) (hn:n<=1048576) (hsm:Small m) :
  Calls Tryz.prog 69 #[.slice a n cap] w fun e w'=>CopyOut m w.heap.size e w'/\Below w.heap.size w w':=by
 obtain⟨i0,hi0,hz0,hz1,hz2⟩:=info_parts infoI2
 obtain⟨j0,hj0,ho0,ho1,ho2⟩:=info_parts Tryz.infoOther
 have HS:=hideK h
 have HM:=hideK hm
 have HSM:=hideK hsm
 clear h hm hsm
 go_enter Tryz.func69,Tryz.ntmps69
 go_wp2_with fail
 go_loopw [3,8] (fun u jv wr=>∃ (j:Nat) (m':List MO),jv=.int .i64 j/\j<=n/\Cop w wr m j u m') (fun _ jv _=>n-(intOf jv).toNat)
 case atStart=>exact⟨0,[],rfl,Nat.zero_le _,rfl,OwnO.nil _ _,fun x hx=>absurd hx List.not_mem_nil,List.Pairwise.nil,Below.refl _ _⟩
 case round =>
  obtain⟨j,m',rfl,hj,hcop⟩:=hrel
  have CP:=hideK hcop
  have HLN:=hideK (hcop.len (by rw[HM.out];exact hj))
  have hzr:=hcop.low.size
  obtain⟨au,cu,hu,_,_⟩:=hcop.row.one
  rw[HLN.out]at hu
  subst hu
  clear hcop
  by_cases hlt:j<n
  ·have hlt':(j:Int)<(n:Int):=by omega
   have hjl:j<m.length:=by rw[HM.out];exact hlt
   obtain⟨b,off,rfl,hb,hc⟩:=HS.out.some (by omega)
   obtain⟨d0,d1,d2,d3,d4⟩:=(hc j hjl).below CP.out.low hb
   obtain⟨ax,cx,hxv,hcx,hnx,hix⟩:=HS.out.2 m[j] (List.getElem_mem hjl)
   have HIX:=hideK (hix.below CP.out.low)
   have HSX:=hideK (HSM.out m[j] (List.getElem_mem hjl))
   have HT:=hideK (oths_take hjl)
   rw[hxv]at d1
   have hkx:=HSX.out.1
   have HNX:Hid (ax=none->m[j].1.has.length=0/\cx=0):=fun h=>by have:=hnx h;omega
   generalize m[j].1=x at d0 d1 d2 d3 d4 HIX HT hkx hcx HNX
   obtain⟨nm,l,q,g,t⟩:=x
   dsimp only at d0 d1 d2 d3 d4 HIX hkx hcx HNX
   clear hc hxv HSX hjl hnx hix
   have XN:Hid ((wr.alloc (.cells #[.string nm,.slice ax l.length cx,.int .i64 q,.int .i64 g,.int .i64 t] 86)).heap[wr.heap.size]? = some (.cells #[.string nm,.slice ax l.length cx,.int .i64 q,.int .i64 g,.int .i64 t] 86 (0,0))):=heap_alloc_new wr _
   have BN:Hid (Below w.heap.size wr (wr.alloc (.cells #[.string nm,.slice ax l.length cx,.int .i64 q,.int .i64 g,.int .i64 t] 86))):=(Below.refl _ _).alloc hzr _
   have HMO:Hid (∀ (w1 w3:World) (v1 v3:Value),OwnI w1 (wr.heap.size+1) v1 l->Below (wr.heap.size+1) (wr.alloc (.cells #[.string nm,.slice ax l.length cx,.int .i64 q,.int .i64 g,.int .i64 t] 86)) w1->w3.ownsRow w.heap.size 86 5 v3 (j+1) (cellsO m'++[.string nm,v1,.int .i64 q,.int .i64 g,.int .i64 t])->((w1.setCell ⟨wr.heap.size,1,none⟩ v1).alloc (.cells #[.string nm,v1,.int .i64 q,.int .i64 g,.int .i64 t] 86)).grownBy w3 (Value.slice au j cu).ownBlock->Cop w w3 m (j+1) v3 (m'++[(⟨nm,l,q,g,t⟩,v1)])):=fun w1 w3 v1 v3 h1 h2 h3 h4=>CP.out.more (x:=⟨nm,l,q,g,t⟩) HT.out hzr h1 h2 (by rw[HLN.out];exact h3) h4
   have HRW:Hid (∀ (w1:World) (v1:Value),Below (wr.heap.size+1) (wr.alloc (.cells #[.string nm,.slice ax l.length cx,.int .i64 q,.int .i64 g,.int .i64 t] 86)) w1->((w1.setCell ⟨wr.heap.size,1,none⟩ v1).alloc (.cells #[.string nm,v1,.int .i64 q,.int .i64 g,.int .i64 t] 86)).ownsRow w.heap.size 86 5 (.slice au j cu) j (cellsO m')):=fun w1 v1 h2=>by
    have:=(((CP.out.row.below (((Below.refl _ wr).alloc (Nat.le_refl _) _).trans (h2.mono (Nat.le_succ _)))).set_other (CP.out.row.block_lt (Nat.le_refl _)) 1 v1).alloc (.cells #[.string nm,v1,.int .i64 q,.int .i64 g,.int .i64 t] 86))
    unfold OwnO at this
    rw[HLN.out]at this
    exact this
   go_upto_region 5 with fail
   have hsz1:(wr.alloc (.cells #[.string nm,.slice ax l.length cx,.int .i64 q,.int .i64 g,.int .i64 t] 86)).heap.size=wr.heap.size+1:=by simp
   have HSZ1:=hideK hsz1
   clear hsz1
   generalize wr.alloc (.cells #[.string nm,.slice ax l.length cx,.int .i64 q,.int .i64 g,.int .i64 t] 86)=W1 at XN BN HMO HRW HSZ1 ⊢
   generalize wr.heap.size=gx at XN HMO HRW HSZ1 hzr ⊢
   obtain⟨e0,e1,e2,e3,e4⟩:=cells5 XN.out
   clear d0 d1 d2 d3 d4
   generalize hkl:l.length=k at e1 hkx hcx HNX XN ⊢
   have HKL:=hideK hkl
   clear hkl
   go_wp2_with (at_builtin;refine wpList_append_opt _ rfl (.const (.slice none 0 0)) (.tmp 13) 84 rfl (gx+1) 2 i0 (.int .i64 0) 1 8 Tryz.underlying84 hi0 hz0 hz1 hz2 rfl (by decide) (.slice none 0 0) 0 [] rfl (World.ownsRow_nil _ _ _ _) ax k cx HNX.out (l.map (Value.int .i64)) rfl (by rw[List.length_map,HKL.out,Nat.mul_one]) (ints_news (HIX.out.below BN.out)) (ints_oneP _) (by unfold maxLen;omega) (by omega) (by rw[HSZ1.out];exact Nat.le_refl _) ?_)
   intro v1 w1 hown1 hgrow1 _
   have O1:Hid (OwnI w1 (gx+1) v1 l):=by
    unfold Hid OwnI
    rw[HKL.out]
    simpa using hown1
   have B1:Hid (Below (gx+1) W1 w1):=(Below.refl _ _).grown hgrow1 (by rw[HSZ1.out];exact Nat.le_refl _) (fun k hk=>by simp[Value.ownBlock]at hk)
   obtain⟨a1,c1,hv1,_,_⟩:=O1.out.ints
   rw[HKL.out]at hv1
   subst hv1
   have X1:Hid (w1.heap[gx]? = some (.cells #[.string nm,.slice ax k cx,.int .i64 q,.int .i64 g,.int .i64 t] 86 (0,0))):=(B1.out.block _ (Nat.lt_succ_self _)).trans XN.out
   obtain⟨f0,f1,f2,f3,f4⟩:=cells5 X1.out
   have ff:=frozen_of_row w1 gx 1 _ _ X1.out
   have X2:Hid ((w1.setCell ⟨gx,1,none⟩ (.slice a1 k c1)).heap[gx]? = some (.cells #[.string nm,.slice a1 k c1,.int .i64 q,.int .i64 g,.int .i64 t] 86 (0,0))):=by
    unfold Hid
    rw[heap_setCell_same w1 gx 1 _ _ _ X1.out]
    rfl
   have RW:=hideK (HRW.out w1 (.slice a1 k c1) B1.out)
   have MO1:=hideK (fun w3 v3=>HMO.out w1 w3 (.slice a1 k c1) v3 O1.out B1.out)
   have hz4:w.heap.size<=(w1.setCell ⟨gx,1,none⟩ (.slice a1 k c1)).heap.size:=by
    have:=B1.out.size
    simp
    have:=HSZ1.out
    omega
   clear hown1 hgrow1 e0 e1 e2 e3 e4
   go_upto_region 6 with fail
   generalize w1.setCell ⟨gx,1,none⟩ (.slice a1 k c1)=W2 at X2 RW MO1 hz4 ⊢
   clear f0 f1 f2 f3 f4 ff
   obtain⟨e0,e1,e2,e3,e4⟩:=cells5 X2.out
   go_wp2_with (at_builtin;refine wpList_append_own _ rfl (.tmp 16) (.tmp 18) 33 rfl w.heap.size 86 j0 _ 5 64 Tryz.underlying33 hj0 ho0 ho1 ho2 rfl (by decide) (.slice au j cu) j (cellsO m') rfl RW.out ⟨W2.heap.size,0,none⟩ 1 1 [.string nm,.slice a1 k c1,.int .i64 q,.int .i64 g,.int .i64 t] rfl rfl (five_new _ _ _ _ _ _ _) (five_one rfl rfl rfl rfl rfl) (by unfold maxLen;omega) (by omega) (by simp;omega) ?_)
   intro v3 w3 hown3 hgrow3 _
   have N3:=hideK (MO1.out w3 v3 hown3 hgrow3)
   clear hown3 hgrow3
   go_wp2_with fail
   go_roundw
   case rel=>exact⟨j+1,_,by go_num,by omega,N3.out⟩
   case measure=>simp[intOf];omega
  ·have HE:Hid (CopyOut m w.heap.size (.returned (.slice au j cu)) wr):=⟨_,m',rfl,by rw[CP.out.os,List.take_of_length_le (by rw[HM.out];omega)],CP.out.row,CP.out.has,CP.out.ap⟩
   go_wp2_with fail
   go_ret
   exact⟨HE.out,CP.out.low⟩
end Go.Proofs.YtpddanmnlkcdpaaGreatDoor.Pe


/- KeepRight, KeepSync, KeepRecover of the program. -/
namespace Go.Proofs.YtpddanmnlkcdpaaGreatDoor.Kp
open Go.RowKit
open Ls (HH hh_keep lV lowL blkL)
open St (Strs)
def FitC (fit:Rec->Bool) (z b:Int) (r:ByteArray) (w:World):Prop :=
 ∀ (W:World) (x:MR),Below w.heap.size w W->x.1.2.1.size<=8000->x.1.2.2.length<=400->(∃ a cap,x.2=.slice a x.1.2.2.length cap/\x.1.2.2.length<=cap/\Strs W W.heap.size a x.1.2.2)->Calls Tryz.prog 107 #[.agg #[.int .i64 x.1.1,.string x.1.2.1,x.2],lV z b r] W fun e w'=>e=.returned (.bool (fit x.1))/\Below W.heap.size W w'
theorem FitC.later {fit:Rec->Bool} {z b:Int} {r:ByteArray} {w w':World} (h:FitC fit z b r w) (hb:Below w.heap.size w w'):FitC fit z b r w':=fun W x hW=>h W x (lowL hb hW)
structure Opn (fit:Rec->Bool) (z b:Int) (r s:ByteArray) (y:Int) (w W:World) (g gw:Nat) (v:Value) (m:List MR):Prop where
 cx:Cx w W [(gw,wkB v (allR fit s).2 z b r s y),(g,kB z b r s y)]
 rs:recs m=(allR fit s).1
 row:OwnR W w.heap.size v m
 ps:PathsO w.heap.size W m
end Go.Proofs.YtpddanmnlkcdpaaGreatDoor.Kp


/- slices.Sort at int64: a row of numbers of the call's own is put in order. -/
namespace Go.Proofs.YtpddanmnlkcdpaaGreatDoor.Kh
open Go.RowKit Go.Shelf
open Go.Sort (grow putRow)
open In (OwnI)
shelf_lay_g SlLaysN.n53 Slgn 53 at Tryz 77 as Tryz.sortI
end Go.Proofs.YtpddanmnlkcdpaaGreatDoor.Kh


/- A region that draws its order within a round: what only reads comes first, in the order of the text; the rest comes behind, one after another. -/
namespace Go.Proofs.YtpddanmnlkcdpaaGreatDoor.Tk
open Go.RowKit
section
variable {P : Program} {md : Region.Mode} {ops : Array Oper} {w : World} {l0 : Nat}
def NoDefer (ops:Array Oper):Prop:=∀ (i:Nat) (o:Oper),ops[i]? = some o->∀ c,o.op≠.defer c
def defB (o:Oper):Bool:=match o.op with
 |.defer _=>true
 |_=>false
theorem noDefer_of {l:List Oper} (h:l.all (fun o=>!defB o)=true):NoDefer l.toArray:=fun i o ho c e=>by
 have hm:o∈l:=List.mem_of_getElem? (by simpa using ho)
 have:=List.all_eq_true.1 h o hm
 unfold defB at this
 rw[e]at this
 cases this
theorem wpR_of_still {n:Nat} {o:Oper} {a:Act} {K:Act->Prop} {K':Act->World->Prop} {Q':Exit->Act->World->Prop} (hnd:∀ c,o.op≠.defer c) (h:∀ a,K a->K' a w) (hh:o.still P a w K):o.wpIn (Fence.wide.inRound l0) n P a w K' Q':=by
 refine⟨fun _ _=>trivial,?_⟩
 unfold Oper.still at hh
 have e:(o.semAt (Fence.wide.inRound l0).round a.eval)=execOp a.eval o:=Oper.semAt_eq _ _ _ hnd
 rw[e]
 generalize (execOp a.eval o).run P w=r at hh
 cases r with
 |ok nx w' =>
  cases nx with
  |value v =>
   simp only[Oper.stillUpon]at hh
   obtain⟨rfl,hh⟩:=hh
   exact h _ hh
  |skip =>
   simp only[Oper.stillUpon]at hh
   obtain⟨rfl,hh⟩:=hh
   exact h _ hh
  |enter f args =>
   simp only[Oper.stillUpon]at hh
   obtain⟨rfl,v,hc,hh⟩:=hh
   refine⟨fun hx=>(by cases hx),CallsIn.inRound l0 (callsIn_wide.2 (hc.mono ?_))⟩
   rintro e w'' ⟨rfl,rfl⟩
   exact h _ hh
  |_=>simp only[Oper.stillUpon]at hh
 |_=>simp only[Oper.stillUpon]at hh
theorem wpROp_of_stOp {n i:Nat} {a:Act} {K:Act->Prop} {K':Act->World->Prop} {Q':Exit->Act->World->Prop} (hnd:NoDefer ops) (h:∀ a,K a->K' a w) (hh:stOp P ops w i K a):wpOpIn (Fence.wide.inRound l0) n P ops Q' i K' a w:=by
 unfold stOp at hh
 unfold wpOpIn
 split
 ·rename_i ho;simp only[ho]at hh;exact h _ hh
 ·rename_i o ho
  simp only[ho]at hh
  split
  ·rename_i hw;simp only[hw,if_true]at hh;exact wpR_of_still (hnd i o ho) h hh
  ·rename_i hw;simp only[hw]at hh;exact⟨fun _ _=>trivial,h _ hh⟩
theorem wpRAny_of_head {n k g:Nat} {L:Array Bool->Act->Prop} {Q':Exit->Act->World->Prop} (hnd:NoDefer ops) (hL:∀ listed a,L listed a->wpAnyIn (Fence.wide.inRound l0) k P md ops Q' g listed a w) :
  ∀ (f:Nat) (listed:Array Bool) (a:Act),wpAnyL P md ops w n L f listed a->wpAnyIn (Fence.wide.inRound l0) k P md ops Q' (f+g) listed a w
 |0,listed,a,h=>by rw[Nat.zero_add];exact hL _ _ h
 |f+1,listed,a,h=>by
  rw[show f+1+g=(f+g)+1 by omega]
  exact⟨fun h0=>absurd h0 h.1,fun i hi=>wpROp_of_stOp hnd (fun a' h'=>wpRAny_of_head hnd hL f _ a' h') (h.2 i hi).2⟩
theorem wpRAny_of_seq {k0:Nat} {Q':Exit->Act->World->Prop}:∀ (l:List Oper) (k:Nat) (listed:Array Bool) (a:Act) (w:World),(∀ j,l[j]? = ops[k+j]?) ->
  Region.seqB md ops l.length k listed=true->wpListIn (Fence.wide.inRound l0) k0 P ops Q' l a w->wpAnyIn (Fence.wide.inRound l0) k0 P md ops Q' l.length listed a w
 |[],_,_,_,_,_,hB,h=>⟨by simpa [Region.seqB] using hB,h⟩
 |o :: l,k,listed,a,w,hl,hB,h=>by
  have h0:ops[k]? = some o:=by simpa using (hl 0).symm
  simp only[List.length_cons,Region.seqB,Bool.and_eq_true,decide_eq_true_eq]at hB
  refine⟨fun h1=>(by rw[hB.1]at h1;cases h1),fun i hi=>?_⟩
  rw[hB.1]at hi
  have hik:i=k:=by simpa using hi
  subst hik
  have hw:wpOpIn (Fence.wide.inRound l0) k0 P ops Q' i (wpListIn (Fence.wide.inRound l0) k0 P ops Q' l) a w:=by unfold wpOpIn;simp only[h0];exact h
  exact wpOpIn_mono (fun a' w' h'=>wpRAny_of_seq l (i+1) _ a' w' (fun j=>by have:=hl (j+1);simpa [Nat.add_assoc,Nat.add_comm 1 j] using this) hB.2 h') hw
theorem wpR_region_still_tail {id k0:Nat} {Q:Exit->Act->World->Prop} {a:Act} {l:List Oper} (n:Nat) (hm:P.follows .mixedOrders=true) (hnd:NoDefer l.toArray) (hB:Region.lexTailB .any l.toArray n=true)
  (h:wpStill P l.toArray w.drew (fun a'=>wpListIn (Fence.wide.inRound l0) k0 P l.toArray Q (l.drop n) a' w.drew) (l.take n) a):(Code.region id l.toArray true).wpIn (Fence.wide.inRound l0) k0 P Q a w:=by
 simp only[Region.lexTailB,Bool.and_eq_true,decide_eq_true_eq]at hB
 obtain⟨⟨⟨⟨hsel,hn⟩,hs⟩,hc⟩,hlex⟩:=hB
 have hn':n<l.length:=by simpa using hn
 have htl:(l.take n).length=n:=by simp;omega
 have hdl:(l.drop n).length=l.toArray.size-n:=by simp
 have inv0:HeadInv .any l.toArray n (Array.replicate l.toArray.size false) :=
  ⟨by simp,fun j oj _ hl=>(by rw[getD_replicate_false]at hl;cases hl),fun t _ ht=>getD_in (by simpa using ht) (getD_replicate_false _ _)⟩
 have H:=wpAnyL_lex (md:=.any) (g:=l.toArray.size-n) hsel hs hc hn (l.take n) 0 _ a (fun j hj=>by
  have hj':j<n:=by rw[htl]at hj;exact hj
  simp[hj']) (by simpa using htl) inv0 (by rw[htl];exact hlex) h
 refine wpIn_region_any hm ?_
 have:=wpRAny_of_head (k:=k0) (Q':=Q) (g:=l.toArray.size-n) hnd (fun listed a' hL=>by
  have:=wpRAny_of_seq (k0:=k0) (md:=.any) (Q':=Q) (l.drop n) n listed a' w.drew (fun j=>by simp[List.getElem?_drop]) (by rw[hdl];exact hL.1) hL.2
  rwa[hdl]at this) _ _ _ H
 rw[htl,show n+(l.toArray.size-n)=l.toArray.size by omega]at this
 exact this
end
end Go.Proofs.YtpddanmnlkcdpaaGreatDoor.Tk

