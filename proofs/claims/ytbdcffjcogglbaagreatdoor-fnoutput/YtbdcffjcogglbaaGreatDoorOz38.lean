import Derived.Test.YtbdcffjcogglbaaGreatDoorOz3
import Derived.Test.YtbdcffjcogglbaaGreatDoorOz37
import Derived.Test.YtbdcffjcogglbaaGreatDoorOz36
import Derived.Shelf.Strconv.Itoa0
set_option maxRecDepth 100000
set_option maxHeartbeats 8000000
namespace Go.Proofs.YtbdcffjcogglbaaGreatDoor
open Go.RowKit
open Go.Proofs.Tryz
namespace Sh
def Vars (w:World):Prop:=IsV w 1 .u32 8 firstF/\IsV w 2 .u32 64 keyF
theorem Vars.below {w w':World} {B:Nat} (h:Vars w) (b:Below B w w') (hB:2 + 1<=B):Vars w':=⟨h.1.below b (by omega),h.2.below b (by omega)⟩
theorem Vars.two {w:World} (h:Vars w):2 + 1<=w.heap.size:=h.2.lt
theorem zero8:(#[.int .u32 0,.int .u32 0,.int .u32 0,.int .u32 0,.int .u32 0,.int .u32 0,.int .u32 0,.int .u32 0]:Array Value)=rowF .u32 8 (fun _=>0):=by rfl
theorem digestOf_any (t:ByteArray) (w:World) (ht:t.size<=1048576) (hV:Vars w) :
  Calls prog 84 #[.string t] w fun e w'=>e=.returned (.string (sha t))/\Below w.heap.size w w':=by
 have HV:=hideS hV;have HF:=hideS hV.1;have HK:=hideS hV.2;have h2:=hV.two;clear hV;go_enter func84,ntmps84
 go_wp2_with (first|((with_reducible refine wpList_load_var HF.o underlying145 Tryz.size145 ?_ ?_);(· rfl))|((with_reducible refine wpList_store_row' (IsB.of_list w 145 .u32 8 (fun _=>0) _ zero8) Tryz.size145 firstF ?_ ?_ ?_);(· rfl);(· rfl);intro w2 hi2 hB2 hz2 ho2;have HS2:=hideS hi2;have HZ2:=hideS (show w2.heap.size=w.heap.size+1 by rw[hz2];simp);have HW2:=hideS (((Below.refl w.heap.size w).alloc nl _).trans (hB2 _ nl));clear hi2 hB2 hz2 ho2))
 have hz:=HZ2.o;obtain⟨ch,hch⟩:∃ c,c=chunks t.size:=⟨_,rfl⟩;have hr:=chunks_room t.size;have hti:=chunks_tight t.size;refine(fill_any t w2 ht).mono ?_;rw[hz,<-hch];rw[<-hch]at hr hti;rintro e w3 ⟨rfl,hp3,hb3⟩;have HCH:=hideS hch;have HP3:=hideS hp3;have HS3:=hideS (HS2.o.below hb3 (by omega));have HW3:=hideS (HW2.o.trans (hb3.mono (by omega)));have HZ3:=hideS (show w.heap.size+2<=w3.heap.size from hp3.lt);clear hp3 hb3 hch hz HS2 HW2
 go_wp2_with fail
 go_loopw [5] (fun i wr=>∃ k:Nat,i=.int .i64 (64*(k:Int))/\k<=ch/\IsB wr w.heap.size 145 .u32 8 (shaS t k)/\IsB wr (w.heap.size+1) 5 .u8 (ch*64) (fun j=>(pad t j:Nat))/\Below w.heap.size w wr/\w.heap.size+2<=wr.heap.size) (fun i _=>ch*64-(intOf i).toNat)
 case atStart=>exact⟨0,rfl,Nat.zero_le _,HS3.o,HP3.o,HW3.o,HZ3.o⟩
 case round =>
  obtain⟨k,rfl,hk,h1,hp,hbel,hsz⟩:=hrel;have G1:=hideS h1;have GP:=hideS hp;have GW:=hideS hbel;have GK:=hideS (HK.o.below hbel (by omega));clear h1 hp hbel;by_cases hlt:k<ch
  ·have e1:64*(k:Int)<(ch:Int)*64:=by omega
   have e2:(64*(k:Int)).toNat=64*k:=by omega
   have e3:(64*(k:Int)+64).toNat=64*k+64:=by omega
   have e4:64*k+64-64*k=64:=by omega
   have e5:IntKind.i64.wrap (64*(k:Int)+64)=64*(k:Int)+64:=by simp[IntKind.wrap,IntKind.bits,IntKind.signed];omega
   have e6:64*(k:Int)+64<=(ch:Int)*64:=by omega
   have e7:0<=64*(k:Int)+64:=by omega
   have e8:0<=64*(k:Int):=by omega
   have e9:64*(k:Int)<=64*(k:Int)+64:=by omega
   have e10:¬ch*64=64*k:=by omega
   have HC:Hid (∀ j,j<64->wr.cell? ⟨w.heap.size+1,64*k+j,none⟩=some (.int .u8 (blkB t k j:Nat))):=fun j hj=>GP.o.cell (by omega)
   go_wp2_with fail
   refine wp_region_still_tail 6 Tryz.checked.mixed (by kernel_rfl) ?_;simp only[List.take_succ_cons,List.take_zero,List.drop_succ_cons,List.drop_zero];refine wpStill_load_row (show IsB _ w.heap.size 145 .u32 8 (shaS t k) from G1.o) underlying145 Tryz.size145 rfl ?_
   repeat still_step
   refine wpStill_nil ?_
   go_wp2_with fail
   refine(take_any (shaS t k) (w.heap.size+1) (64*k) (ch*64-64*k) (blkB t k) wr.drew (blkB_lt t k) (show w.heap.size+1<wr.heap.size by omega) HC.o (by omega) (show IsV wr 2 _ _ _ from GK.o)).mono ?_;rintro e w4 ⟨rfl,hb4⟩;have hb5:Below wr.heap.size wr w4:=⟨hb4.os,hb4.tape,hb4.output,hb4.size,hb4.block⟩;have J1:=hideS (G1.o.below hb5 (by omega));have JP:=hideS (GP.o.below hb5 (by omega));have JW:=hideS (GW.o.trans (hb5.mono (by omega)))
   have hsz4:w.heap.size+2<=w4.heap.size:=by have:=hb5.size;omega
   clear hb4 hb5
   go_wp2_with ((with_reducible refine wpList_store_row' J1.o Tryz.size145 (blk (blkB t k) (shaS t k)) ?_ ?_ ?_);(· rfl);(· rfl);intro w5 hi5 hB5 hz5 ho5;have L1:=hideS hi5;have LP:=hideS (JP.o.of_heap (ho5 _ (by omega)));have LW:=hideS (JW.o.trans (hB5 _ nl));have LZ:=hideS (show w.heap.size+2<=w5.heap.size by omega);clear hi5 hB5 hz5 ho5)
   go_roundw
   case rel=>exact⟨k+1,by go_num,by omega,L1.o,LP.o,LW.o,LZ.o⟩
   case measure=>simp[intOf];omega
  ·have HS:Hid (shaS t k=shaS t (chunks t.size)):=by
    unfold Hid;rw[<-HCH.o]
    congr 1
    omega
   have e1:¬64*(k:Int)<(ch:Int)*64:=by omega
   go_wp2_with fail
   go_loopw [24] (fun i wo=>∃ m:Nat,i=.int .i64 m/\m<=32/\IsB wo wr.heap.size 148 .u8 32 (fun j=>(outK (shaS t k) m j:Nat))/\IsB wo w.heap.size 145 .u32 8 (shaS t k)/\Below w.heap.size w wo) (fun i _=>32-(intOf i).toNat)
   case atStart=>exact⟨0,rfl,by omega,IsB.of_list wr 148 .u8 32 _ _ (by rfl),G1.o.alloc _,GW.o.alloc (by omega) _⟩
   case round =>
    obtain⟨m,rfl,hm,o1,o2,o3⟩:=hrel;have O1:=hideS o1;have O2:=hideS o2;by_cases hl32:m<32
    ·obtain⟨x,hx⟩:∃ x,x=shaS t k (m/4):=⟨_,rfl⟩
     have HV:Hid (x/2 ^ (24-8*(m%4))%256=((outF (shaS t k) m:Nat):Int)):=by
      unfold Hid;rw[hx];exact outF_cast _ _
     have d1:((m:Int)/4).toNat=m/4:=by omega
     have d2:(24-8*((m:Int)%4)).toNat=24-8*(m%4):=by omega
     have d3:0<=24-8*((m:Int)%4):=by omega
     have d4:(m:Int)/4<8:=by omega
     have d5:0<=(m:Int)/4:=by omega
     have cs:wr.cell? ⟨w.heap.size,m/4,none⟩=some (.int .u32 x):=by rw[o2.cell (by omega),hx]
     have co:=o1.cell hl32;have cf:=o1.frozen m;clear o1 o2 hx;(go_wp2_with fail)
     go_roundw
     case rel =>
      rw[HV.o];exact⟨m+1,by go_num,by omega,IsB.congr (O1.o.set m _) (fun j _=>outK_next _ m j _ rfl),O2.o.set_other _ _ (by simp;omega),o3.setCell (by simp;omega) _⟩
     case measure=>simp[intOf];omega
    ·obtain rfl:m=32:=by omega
     have hcv:=o1.str (P:=prog) (src:=22) (dst:=9) 32 32 nl (fun j _=>outK_lt _ _ _) underlying22 underlying5 underlying9;have HR:=hideS (outK_all (shaS t k));clear o1 o2;(go_wp2_with fail);go_ret;refine⟨Nu.ret_strJ ?_,o3⟩;rw[HR.o,HS.o];rfl
theorem all_any (t:ByteArray) (w:World) (ht:t.size<=1048576) :
  Calls prog 79 #[.string t] w fun e w'=>e=.returned (.string (sha t))/\Below w.heap.size w w' :=
 all_of (fun s gs c t w h1 h2 h3 h4=>block_any s gs c t w h1 h2 h3 h4) t w ht
def digestV (t:ByteArray):ByteArray:=if t.size<=8000 then sha t else ⟨#[]⟩
theorem digest_impl (t:ByteArray) (w:World) (ht:t.size<=maxLen) (hV:Vars w) :
  Calls prog 62 #[.string t] w fun e w'=>e=.returned (.string (digestV t))/\Below w.heap.size w w':=by
 unfold maxLen at ht;have HV:=hideS hV;clear hV;by_cases h:8000<t.size
 ·have HP:=hideS (show digestV t=⟨#[]⟩ by unfold digestV;rw[if_neg (by omega)])
  go_enter func62,ntmps62
  go_wp2_with fail
  go_ret;exact⟨Nu.ret_strJ HP.o.symm,Below.refl _ _⟩
 ·have HP:=hideS (show digestV t=sha t by unfold digestV;rw[if_pos (by omega)])
  go_enter func62,ntmps62
  go_wp2_with fail
  refine(digestOf_any t w (by omega) HV.o).mono ?_;rintro e w1 ⟨rfl,hb1⟩
  go_wp2_with fail
  go_ret;exact⟨Nu.ret_strJ HP.o.symm,hb1⟩
theorem below3 {w w1 w2 w3:World} (h1:Below w.heap.size w w1) (h2:Below w1.heap.size w1 w2) (h3:Below w2.heap.size w2 w3):Below w.heap.size w w3 :=
 have a:=h1.trans (h2.mono h1.size)
 a.trans (h3.mono a.size)
def leafV (t:ByteArray):ByteArray:=sha (⟨#[0]⟩++t)
def nodeV (a b:ByteArray):ByteArray:=sha (⟨#[1]⟩++a++b)
theorem leafV_size (t:ByteArray):(leafV t).size=32:=sha_size _
theorem nodeV_size (a b:ByteArray):(nodeV a b).size=32:=sha_size _
theorem mark0_size (t:ByteArray):((⟨#[0]⟩:ByteArray)++t).size=1+t.size:=by
 rw[ByteArray.size_append];rfl
theorem mark1_size (t:ByteArray):((⟨#[1]⟩:ByteArray)++t).size=1+t.size:=by
 rw[ByteArray.size_append];rfl
theorem l03Leaf_any (t:ByteArray) (w:World) (ht:t.size<=8000) :
  Calls prog 80 #[.string t] w fun e w'=>e=.returned (.string (leafV t))/\Below w.heap.size w w':=by
 go_enter func80,ntmps80
 go_wp2_with fail
 refine(all_any _ w (by rw[mark0_size];omega)).mono ?_;rintro e w1 ⟨rfl,hb1⟩
 go_wp2_with fail
 go_ret;exact⟨rfl,hb1⟩
theorem l03Node_any (a b:ByteArray) (w:World) (ha:a.size<=8000) (hb:b.size<=8000) :
  Calls prog 81 #[.string a,.string b] w fun e w'=>e=.returned (.string (nodeV a b))/\Below w.heap.size w w':=by
 go_enter func81,ntmps81
 go_wp2_with fail
 refine(all_any _ w (by rw[ByteArray.size_append,mark1_size];omega)).mono ?_;rintro e w1 ⟨rfl,hb1⟩
 go_wp2_with fail
 go_ret;exact⟨rfl,hb1⟩
def leafR (t:ByteArray):ByteArray:=if 100<t.size then ⟨#[]⟩ else leafV t
theorem leafR_no (t:ByteArray) (h:100<t.size):leafR t=⟨#[]⟩:=if_pos h
theorem leafR_yes (t:ByteArray) (h:¬100<t.size):leafR t=leafV t:=if_neg h
def nodeR (a b:ByteArray):ByteArray:=if a.size=32/\b.size=32 then nodeV a b else ⟨#[]⟩
theorem nodeR_no (a b:ByteArray) (h:¬(a.size=32/\b.size=32)):nodeR a b=⟨#[]⟩:=if_neg h
theorem nodeR_yes (a b:ByteArray) (h:a.size=32) (h':b.size=32):nodeR a b=nodeV a b:=if_pos ⟨h,h'⟩
theorem leaf_impl (t:ByteArray) (w:World) (ht:t.size<=maxLen) (hV:Vars w) :
  Calls prog 63 #[.string t] w fun e w'=>e=.returned (.string (leafR t))/\Below w.heap.size w w':=by
 have HT:=hideS ht;unfold maxLen at ht;have HV:=hideS hV;have h2:=hV.two;clear hV;by_cases h:100<t.size
 ·have HP:=hideS (leafR_no t h)
  go_enter func63,ntmps63
  go_wp2_with fail
  go_ret;exact⟨Nu.ret_strJ HP.o.symm,Below.refl _ _⟩
 ·have HP:=hideS (leafR_yes t h)
  have HD:=hideS (show digestV (⟨#[0]⟩++t)=leafV t by unfold digestV leafV;rw[if_pos (by rw[mark0_size];omega)]);go_enter func63,ntmps63
  go_wp2_with fail
  refine(Nu.join_any ⟨#[0]⟩ t w (by rw[show (⟨#[0]⟩:ByteArray).size=1 from rfl];omega)).mono ?_;rintro e w1 ⟨rfl,hb1⟩
  go_wp2_with fail
  refine(digest_impl _ _ (by rw[mark0_size];unfold maxLen;omega) (HV.o.below hb1 h2)).mono ?_;rintro e w2 ⟨rfl,hb2⟩;have HB:=hideS (hb1.trans (hb2.mono hb1.size));clear hb1 hb2
  go_wp2_with fail
  go_ret;exact⟨Nu.ret_strJ (HD.o.trans HP.o.symm),HB.o⟩
theorem node_impl (a b:ByteArray) (w:World) (hV:Vars w) :
  Calls prog 65 #[.string a,.string b] w fun e w'=>e=.returned (.string (nodeR a b))/\Below w.heap.size w w':=by
 have HV:=hideS hV;have h2:=hV.two;clear hV;by_cases h:a.size=32
 ·by_cases h':b.size=32
  ·have HP:=hideS (nodeR_yes a b h h')
   have HD:=hideS (show digestV (⟨#[1]⟩++(a++b))=nodeV a b by unfold digestV nodeV;rw[if_pos (by rw[mark1_size,ByteArray.size_append];omega),ByteArray.append_assoc]);go_enter func65,ntmps65
   go_wp2_with fail
   refine(Nu.join_any a b w (by omega)).mono ?_;rintro e w1 ⟨rfl,hb1⟩
   go_wp2_with fail
   refine(Nu.join_any ⟨#[1]⟩ (a++b) _ (by rw[show (⟨#[1]⟩:ByteArray).size=1 from rfl,ByteArray.size_append];omega)).mono ?_;rintro e w2 ⟨rfl,hb2⟩
   go_wp2_with fail
   refine(digest_impl _ _ (by rw[mark1_size,ByteArray.size_append];unfold maxLen;omega) ((HV.o.below hb1 h2).below hb2 (by have:=hb1.size;omega))).mono ?_;rintro e w3 ⟨rfl,hb3⟩;have HB:=hideS (below3 hb1 hb2 hb3);clear hb1 hb2 hb3
   go_wp2_with fail
   go_ret;exact⟨Nu.ret_strJ (HD.o.trans HP.o.symm),HB.o⟩
  ·have HP:=hideS (nodeR_no a b (fun x=>h' x.2))
   go_enter func65,ntmps65
   go_wp2_with fail
   go_ret;exact⟨Nu.ret_strJ HP.o.symm,Below.refl _ _⟩
 ·have HP:=hideS (nodeR_no a b (fun x=>h x.1))
  go_enter func65,ntmps65
  go_wp2_with fail
  go_ret;exact⟨Nu.ret_strJ HP.o.symm,Below.refl _ _⟩
end Sh
namespace Tr
open Sh (sha sha_size leafV nodeV leafV_size nodeV_size)
def half (n:Nat):Nat:=2 ^ Nat.log2 (n-1)
theorem half_pos (n:Nat):1<=half n:=Nat.one_le_two_pow
theorem half_lt (n:Nat) (h:2<=n):half n<n:=by
 have:=Nat.log2_self_le (n:=n-1) (by omega)
 unfold half;omega
theorem half_two (n:Nat) (h:2<=n):n<=2*half n:=by
 have:=Nat.lt_log2_self (n:=n-1)
 unfold half;rw[Nat.pow_succ]at this;omega
theorem half_of (n i:Nat) (h1:2 ^ i<n) (h2:n<=2*2 ^ i):half n=2 ^ i:=by
 unfold half
 congr 1
 refine(Nat.log2_eq_iff (by omega)).2 ⟨by omega,?_⟩;rw[Nat.pow_succ];omega
def tree (l:List ByteArray):ByteArray :=
 if h0:l.length=0 then sha ⟨#[]⟩
 else if h1:l.length=1 then leafV (l[0]'(by omega))
 else nodeV (tree (l.take (half l.length))) (tree (l.drop (half l.length)))
termination_by l.length
decreasing_by
 ·have:=half_lt l.length (by omega)
  simp;omega
 ·have:=half_pos l.length
  simp;omega
theorem tree_nil (l:List ByteArray) (h:l.length=0):tree l=sha ⟨#[]⟩:=by rw[tree,dif_pos h]
theorem tree_one (l:List ByteArray) (h:l.length=1):tree l=leafV (l[0]'(by omega)):=by rw[tree,dif_neg (by omega),dif_pos h]
theorem tree_two (l:List ByteArray) (h:2<=l.length):tree l=nodeV (tree (l.take (half l.length))) (tree (l.drop (half l.length))):=by
 rw[tree,dif_neg (by omega),dif_neg (by omega)]
theorem tree_size (l:List ByteArray):(tree l).size=32:=by
 rw[tree]
 split
 ·exact sha_size _
 ·split
  ·exact leafV_size _
  ·exact nodeV_size _ _
def right (l:List ByteArray):Bool:=decide (l.length<=64) && l.all (fun s=>decide (s.size<=100))
theorem right_yes (l:List ByteArray):right l=true↔l.length<=64/\∀ j (h:j<l.length),l[j].size<=100:=by
 unfold right;simp only[Bool.and_eq_true,decide_eq_true_eq,List.all_eq_true]
 constructor
 ·rintro⟨h1,h2⟩
  exact⟨h1,fun j hj=>h2 _ (List.getElem_mem hj)⟩
 ·rintro⟨h1,h2⟩
  refine⟨h1,fun s hs=>?_⟩;obtain⟨j,hj,rfl⟩:=List.getElem_of_mem hs;exact h2 j hj
theorem right_long (l:List ByteArray) (h:64<l.length):right l=false:=by
 cases e:right l with
 |false=>rfl
 |true=>have:=((right_yes l).1 e).1;omega
theorem right_bad (l:List ByteArray) (j:Nat) (hj:j<l.length) (h:100<l[j].size):right l=false:=by
 cases e:right l with
 |false=>rfl
 |true=>have:=((right_yes l).1 e).2 j hj;omega
def treeR (l:List ByteArray):ByteArray:=if right l=true then tree l else ⟨#[]⟩
end Tr
namespace Tr
open St (hideT)
theorem ret_int {a b:Int} (h:a=b):Ending.returned (.int .i64 a)=.returned (.int .i64 b):=by rw[h]
theorem half_spec (n:Nat) (w:World) (h2:2<=n) (hn:n<=1048576) :
  Calls prog 56 #[.int .i64 n] w fun e w'=>e=.returned (.int .i64 (half n))/\w'=w:=by
 go_enter func56,ntmps56
 go_wp2_with fail
 go_loopw [3] (fun v wr=>∃ k i:Nat,v=.int .i64 k/\k=2 ^ i/\k<n/\wr=w) (fun v _=>n-(intOf v).toNat)
 case atStart=>exact⟨1,0,rfl,rfl,by omega,rfl⟩
 case round =>
  obtain⟨k,i,rfl,hki,hk,hw⟩:=hrel;subst hw;have HK:=hideT hki
  have hpos:1<=k:=by rw[hki];exact Nat.one_le_two_pow
  clear hki;by_cases hlt:2*k<n
  ·have g1:2*(k:Int)<n:=by omega
   go_wp2_with fail
   go_roundw
   case rel=>exact⟨2*k,i+1,by go_num,by rw[Nat.pow_succ,<-HK.o];omega,by omega,trivial⟩
   case measure=>simp[intOf];omega
  ·have g1:¬2*(k:Int)<n:=by omega
   have HE:Hid (half n=k):=by
    unfold Hid;rw[HK.o];exact half_of n i (by rw[<-HK.o];omega) (by rw[<-HK.o];omega)
   go_wp2_with fail
   go_ret;exact⟨ret_int (by rw[HE.o]),rfl⟩
def len (x:Nat):Nat:=if x=0 then 0 else Nat.log2 x+1
end Tr
namespace Tr
open St (hideT)
def renL:Go.Shelf.Ren:=⟨fun _=>122,fun k=>if k=53 then 65 else if k=46 then 94 else if k=3 then 3 else if k=4 then 4 else if k=5 then 5 else 9,fun k=>k⟩
theorem laysL:Lays.n129 prog renL where
 mixed:=by kernel_rfl
 f129:=by kernel_rfl
 t3:=by kernel_rfl
 a3:=fun w=>by kernel_rfl
 z3:=fun w=>by kernel_rfl
 v3:=fun w=>by kernel_rfl
 t4:=by kernel_rfl
 a4:=fun w=>by kernel_rfl
 z4:=fun w=>by kernel_rfl
 v4:=fun w=>by kernel_rfl
 t5:=by kernel_rfl
 a5:=fun w=>by kernel_rfl
 z5:=fun w=>by kernel_rfl
 v5:=fun w=>by kernel_rfl
 t9:=by kernel_rfl
 a9:=fun w=>by kernel_rfl
 z9:=fun w=>by kernel_rfl
 v9:=fun w=>by kernel_rfl
 t46:=by kernel_rfl
 a46:=fun w=>by kernel_rfl
 z46:=fun w=>by kernel_rfl
 v46:=fun w=>by kernel_rfl
 t53:=by kernel_rfl
 a53:=fun w=>by kernel_rfl
 z53:=fun w=>by kernel_rfl
 v53:=fun w=>by kernel_rfl
theorem len64_any (x:Nat) (w:World) (h:x<18446744073709551616) :
  Calls prog 122 #[.int .u64 x] w fun e w'=>e=.returned (.int .i64 (Lib.bitLen x))/\w'=w:=by
 have:=Any.bits_Len64 laysL x w (by omega) (by omega)
 rw[Int.toNat_natCast]at this;exact this
theorem bitLen_log (x:Nat) (h0:x≠0) (h:x<18446744073709551616):Lib.bitLen x=Nat.log2 x+1:=by
 induction x using Nat.strongRecOn with
 |ind x ih =>
  rw[Lib.bitLen_half x h0 h];by_cases h1:x/2=0
  ·have:x=1:=by omega
   subst this;rfl
  ·rw[ih (x/2) (by omega) h1 (by omega)]
   have:Nat.log2 x=Nat.log2 (x/2)+1:=by
    refine(Nat.log2_eq_iff h0).2 ⟨?_,?_⟩
    ·have:=Nat.log2_self_le h1
     rw[Nat.pow_succ];omega
    ·have:=Nat.lt_log2_self (n:=x/2)
     rw[Nat.pow_succ]at this ⊢;omega
   omega
theorem half_impl (n:Nat) (w:World) (h2:2<=n) (hn:n<9223372036854775808) :
  Calls prog 85 #[.int .i64 n] w fun e w'=>e=.returned (.int .i64 (half n))/\w'=w:=by
 have e1:IntKind.u64.wrap ((n:Int)-1)=((n-1:Nat):Int):=by
  rw[IntKind.wrap_u64];omega
 have HL:=hideT (bitLen_log (n-1) (by omega) (by omega));obtain⟨k,hk⟩:∃ k,k=Nat.log2 (n-1):=⟨_,rfl⟩;have HH:=hideT (show half n=2 ^ k by rw[hk];rfl)
 have hk62:k<=62:=by
  rw[hk]
  have:Nat.log2 (n-1)<63:=(Nat.log2_lt (by omega)).2 (by omega)
  omega
 rw[<-hk]at HL;clear hk;go_enter func85,ntmps85
 go_wp2_with fail
 refine(len64_any (n-1) w (by omega)).mono ?_;rw[HL.o];rintro e w1 ⟨rfl,hw⟩;subst w1
 go_wp2_with fail
 go_ret;refine⟨ret_int ?_,rfl⟩;have h3:(2:Nat) ^ k<=2 ^ 62:=Nat.pow_le_pow_right (by decide) hk62;rw[HH.o]
 have h4:((2:Int) ^ k)=((2 ^ k:Nat):Int):=by simp
 rw[h4];generalize (2:Nat) ^ k=y at h3 ⊢;unfold wrap64;omega
end Tr
namespace Tr
open St
theorem right_impl (a:Option Addr) (cap:Nat) (l:List ByteArray) (w:World) (B:Nat) (h:Strs w B a l) (hn:l.length<=1048576) :
  Calls prog 37 #[.slice a l.length cap] w fun e w'=>e=.returned (.bool (right l))/\w'=w:=by
 have HS:=hideT h;clear h;obtain⟨n,hln⟩:∃ n,n=l.length:=⟨_,rfl⟩;have HLN:=hideT hln;by_cases hbig:64<n
 ·have HR:=hideT (right_long l (by omega))
  rw[<-hln]at hn ⊢;clear hln;go_enter func37,ntmps37
  go_wp2_with fail
  go_ret;exact⟨ret_bool HR.o.symm,rfl⟩
 ·rw[<-hln]at hn ⊢
  clear hln;go_enter func37,ntmps37
  go_wp2_with fail
  go_loopw [10] (fun i wr=>∃ k:Nat,i=.int .i64 k/\k<=n/\(∀ j (hj:j<l.length),j<k->l[j].size<=100)/\wr=w) (fun i _=>n-(intOf i).toNat)
  case atStart=>exact⟨0,rfl,by omega,fun j hj h0=>by omega,rfl⟩
  case round =>
   obtain⟨k,rfl,hk,hall,hw⟩:=hrel;subst hw;have HA:=hideT hall;clear hall;by_cases hlt:k<n
   ·have hkl:k<l.length:=by rw[<-HLN.o];exact hlt
    obtain⟨b,off,rfl,hb,hc⟩:=HS.o.some (by omega);have ci:=hc k hkl;have HBad:=hideT (right_bad l k hkl);obtain⟨s,hs⟩:∃ s,s=l[k]:=⟨_,rfl⟩;have HSE:=hideT hs;rw[<-hs]at ci;clear hc hs;by_cases h100:100<s.size
    ·go_wp2_with fail
     go_ret;exact⟨ret_bool (HBad.o (by rw[<-HSE.o];exact h100)).symm,rfl⟩
    ·go_wp2_with fail
     go_roundw
     case rel =>
      refine⟨k+1,by go_num,by omega,fun j hj h0=>?_,trivial⟩;by_cases e:j=k
      ·subst e
       rw[<-HSE.o];omega
      ·exact HA.o j hj (by omega)
     case measure=>simp[intOf];omega
   ·have HR:Hid (right l=true):=by
     unfold Hid;exact(right_yes l).2 ⟨by have:=HLN.o;omega,fun j hj=>HA.o j hj (by have:=HLN.o;omega)⟩
    (go_wp2_with fail);go_ret;exact⟨ret_bool HR.o.symm,rfl⟩
theorem right_spec (a:Option Addr) (cap:Nat) (l:List ByteArray) (w:World) (B:Nat) (h:Strs w B a l) (hn:l.length<=1048576) :
  Calls prog 30 #[.slice a l.length cap] w fun e w'=>e=.returned (.bool (right l))/\w'=w:=by
 have HS:=hideT h;clear h;obtain⟨n,hln⟩:∃ n,n=l.length:=⟨_,rfl⟩;have HLN:=hideT hln;rw[<-hln]at hn ⊢;clear hln;go_enter func30,ntmps30
 go_wp2_with fail
 go_loopw [3] (fun i wr=>∃ k:Nat,i=.int .i64 k/\k<=n/\(∀ j (hj:j<l.length),j<k->l[j].size<=100)/\wr=w) (fun i _=>n-(intOf i).toNat)
 case atStart=>exact⟨0,rfl,by omega,fun j hj h0=>by omega,rfl⟩
 case round =>
  obtain⟨k,rfl,hk,hall,hw⟩:=hrel;subst hw;have HA:=hideT hall;clear hall;by_cases hlt:k<n
  ·have hkl:k<l.length:=by rw[<-HLN.o];exact hlt
   obtain⟨b,off,rfl,hb,hc⟩:=HS.o.some (by omega);have ci:=hc k hkl;have HBad:=hideT (right_bad l k hkl);obtain⟨s,hs⟩:∃ s,s=l[k]:=⟨_,rfl⟩;have HSE:=hideT hs;rw[<-hs]at ci;clear hc hs;by_cases h100:100<s.size
   ·go_wp2_with fail
    go_ret;exact⟨ret_bool (HBad.o (by rw[<-HSE.o];exact h100)).symm,rfl⟩
   ·go_wp2_with fail
    go_roundw
    case rel =>
     refine⟨k+1,by go_num,by omega,fun j hj h0=>?_,trivial⟩;by_cases e:j=k
     ·subst e
      rw[<-HSE.o];omega
     ·exact HA.o j hj (by omega)
    case measure=>simp[intOf];omega
  ·have HR:Hid (right l=decide ((n:Int)<=64)):=by
    unfold Hid;by_cases h64:n<=64
    ·rw[(right_yes l).2 ⟨by have:=HLN.o;omega,fun j hj=>HA.o j hj (by have:=HLN.o;omega)⟩]
     simp;omega
    ·rw[right_long l (by have:=HLN.o;omega)]
     simp;omega
   go_wp2_with fail
   go_ret;exact⟨ret_bool HR.o.symm,rfl⟩
end Tr
namespace Tr
open St
open Sh (Vars leafV nodeV leafR nodeR leaf_impl node_impl digest_impl digestV leafR_yes nodeR_yes below3)
theorem cut_any (b off n cap:Nat) (w:World) (h2:2<=n) (hn:n<=1048576) (hc:n<=cap) :
  Calls prog 64 #[.slice (some ⟨b,off,none⟩) n cap] w fun e w'=>e=.returned (.tuple #[.slice (some ⟨b,off,none⟩) (half n) (half n),.slice (some ⟨b,off+half n,none⟩) (n-half n) (n-half n)])/\Below w.heap.size w w'/\w'.heap=w.heap:=by
 have hp:=half_pos n;have hl:=half_lt n h2;go_enter func64,ntmps64
 go_wp2_with fail
 refine(half_impl n w h2 (by omega)).mono ?_;rintro e w1 ⟨rfl,hw⟩;subst w1;obtain⟨k,hk⟩:∃ k,k=half n:=⟨_,rfl⟩;rw[<-hk]at hp hl ⊢;have HK:=hideT hk;clear hk
 have g1:(k:Int)<=cap:=by omega
 have g2:(k:Int)<=n:=by omega
 have g3:¬n=k:=by omega
 have g4:¬cap=k:=by omega
 go_wp2_with fail
 go_region
 all_goals (try go_wp2_with fail)
 all_goals go_ret2
 all_goals exact⟨by rw[<-HK.o];rfl,(Below.refl _ _).drew,rfl⟩
theorem empty_dig:digestV ⟨#[]⟩=Sh.sha ⟨#[]⟩:=by
 unfold digestV;rw[if_pos (by decide)]
theorem tree_impl:∀ (m n:Nat) (l:List ByteArray) (a:Option Addr) (cap B:Nat) (w:World),n<=m->l.length=n->n<=cap->n<=64->(∀ j (h:j<l.length),l[j].size<=100)->Strs w B a l->B<=w.heap.size->Vars w ->
  Calls prog 38 #[.slice a n cap] w fun e w'=>e=.returned (.string (tree l))/\Below w.heap.size w w':=by
 intro m
 induction m with
 |zero =>
  intro n l a cap B w hm hln hcap h64 hr hs hB hV
  obtain rfl:n=0:=by omega
  have HT:=hideT (tree_nil l hln);have HD:=hideT empty_dig;clear hs hr;have HV:=hideT hV;clear hV;go_enter func38,ntmps38
  go_wp2_with fail
  refine(digest_impl ⟨#[]⟩ _ (by decide) HV.o).mono ?_;rw[HD.o];rintro e w1 ⟨rfl,hb1⟩
  go_wp2_with fail
  go_ret;exact⟨Nu.ret_strJ HT.o.symm,hb1⟩
 |succ m ih =>
  intro n l a cap B w hm hln hcap h64 hr hs hB hV;by_cases h0:n=0
  ·exact ih n l a cap B w (by omega) hln hcap h64 hr hs hB hV
  ·obtain⟨b,off,rfl,hb,hc⟩:=hs.some (by omega)
   have HV:=hideT hV;have hv2:=hV.two;clear hV hs;by_cases h1:n=1
   ·have HT:=hideT (tree_one l (by omega))
    have ci:=hc 0 (by omega);rw[Nat.add_zero]at ci;have hsz:=hr 0 (by omega);obtain⟨s,hse⟩:∃ s,s=l[0]'(by omega):=⟨_,rfl⟩;rw[<-hse]at ci hsz;have HSE:=hideT hse;have HL:=hideT (leafR_yes s (by omega));subst h1;clear hc hse hr ih;go_enter func38,ntmps38;(go_wp2_with fail);refine(leaf_impl s _ (by unfold maxLen;omega) HV.o).mono ?_;rw[HL.o];rintro e w1 ⟨rfl,hb1⟩;(go_wp2_with fail);go_ret;exact⟨Nu.ret_strJ (by rw[HT.o,<-HSE.o]),hb1⟩
   ·have hp:=half_pos n
    have hl:=half_lt n (by omega);have HT:=hideT (tree_two l (by omega));have HI:=hideT ih;have HR:=hideT hr;have HC:=hideT hc;have HLN:=hideT hln;clear hc hr ih;have i0:¬(n:Int)=0:=(by omega);have i1:¬(n:Int)=1:=(by omega);go_enter func38,ntmps38;(go_wp2_with fail);refine(cut_any b off n cap w (by omega) (by omega) hcap).mono ?_;rintro e w1 ⟨rfl,hb1,hh1⟩;have V1:=hideT (HV.o.below hb1 hv2);have HB1:=hideT hb1;clear hb1 hh1;(go_wp2_with fail);refine(HI.o (half n) (l.take (half n)) (some ⟨b,off,none⟩) (half n) B w1 (by omega) (by rw[List.length_take];omega) nl (by omega) (fun j hj=>by rw[List.getElem_take];exact HR.o j _) ((Strs.take hb HC.o).after HB1.o hB) (Nat.le_trans hB HB1.o.size) V1.o).mono ?_;rintro e w2 ⟨rfl,hb2⟩;have HB2:=hideT (HB1.o.trans (hb2.mono HB1.o.size));have V2:=hideT (HV.o.below HB2.o hv2);clear hb2;(go_wp2_with fail);refine(HI.o (n-half n) (l.drop (half n)) (some ⟨b,off+half n,none⟩) (n-half n) B w2 (by omega) (by rw[List.length_drop];omega) nl (by omega) (fun j hj=>by rw[List.getElem_drop];exact HR.o _ _) ((Strs.drop hb HC.o).after HB2.o hB) (Nat.le_trans hB HB2.o.size) V2.o).mono ?_;rintro e w3 ⟨rfl,hb3⟩;have HB3:=hideT (HB2.o.trans (hb3.mono HB2.o.size));have V3:=hideT (HV.o.below HB3.o hv2);clear hb3;have HN:=hideT (nodeR_yes (tree (l.take (half n))) (tree (l.drop (half n))) (tree_size _) (tree_size _));(go_wp2_with fail);refine(node_impl (tree (l.take (half n))) (tree (l.drop (half n))) _ V3.o).mono ?_;rw[HN.o];rintro e w4 ⟨rfl,hb4⟩;have HB4:=hideT (HB3.o.trans (hb4.mono HB3.o.size));clear hb4;(go_wp2_with fail);go_ret;exact⟨Nu.ret_strJ (by rw[HT.o,HLN.o]),HB4.o⟩
end Tr
namespace Tr
open St
open Sh (leafV nodeV all_any l03Leaf_any l03Node_any)
theorem tree_spec:∀ (m n:Nat) (l:List ByteArray) (a:Option Addr) (cap B:Nat) (w:World),n<=m->l.length=n->n<=cap->n<=64->(∀ j (h:j<l.length),l[j].size<=100)->Strs w B a l->B<=w.heap.size ->
  Calls prog 57 #[.slice a n cap] w fun e w'=>e=.returned (.string (tree l))/\Below w.heap.size w w':=by
 intro m
 induction m with
 |zero =>
  intro n l a cap B w hm hln hcap h64 hr hs hB
  obtain rfl:n=0:=by omega
  have HT:=hideT (tree_nil l hln);clear hs hr;go_enter func57,ntmps57
  go_wp2_with fail
  refine(all_any ⟨#[]⟩ _ (by decide)).mono ?_;rintro e w1 ⟨rfl,hb1⟩
  go_wp2_with fail
  go_ret;exact⟨Nu.ret_strJ HT.o.symm,hb1⟩
 |succ m ih =>
  intro n l a cap B w hm hln hcap h64 hr hs hB;by_cases h0:n=0
  ·exact ih n l a cap B w (by omega) hln hcap h64 hr hs hB
  ·obtain⟨b,off,rfl,hb,hc⟩:=hs.some (by omega)
   clear hs;by_cases h1:n=1
   ·have HT:=hideT (tree_one l (by omega))
    have ci:=hc 0 (by omega);rw[Nat.add_zero]at ci;have hsz:=hr 0 (by omega);obtain⟨s,hse⟩:∃ s,s=l[0]'(by omega):=⟨_,rfl⟩;rw[<-hse]at ci hsz;have HSE:=hideT hse;subst h1;clear hc hse hr ih;go_enter func57,ntmps57;(go_wp2_with fail);refine(l03Leaf_any s _ (by omega)).mono ?_;rintro e w1 ⟨rfl,hb1⟩;(go_wp2_with fail);go_ret;exact⟨Nu.ret_strJ (by rw[HT.o,<-HSE.o]),hb1⟩
   ·have hp:=half_pos n
    have hl:=half_lt n (by omega);have HT:=hideT (tree_two l (by omega));obtain⟨k,hk⟩:∃ k,k=half n:=⟨_,rfl⟩;have HK:=hideT hk;rw[<-hk]at hp hl;clear hk
    have I1:Hid (∀ W:World,Below w.heap.size w W->Calls prog 57 #[.slice (some ⟨b,off,none⟩) k cap] W fun e w'=>e=.returned (.string (tree (l.take k)))/\Below W.heap.size W w'):=fun W hW =>
     ih k (l.take k) (some ⟨b,off,none⟩) cap B W (by omega) (by rw[List.length_take];omega) (by omega) (by omega) (fun j hj=>by rw[List.getElem_take];exact hr j _) ((Strs.take hb hc).after hW hB) (Nat.le_trans hB hW.size)
    have I2:Hid (∀ W:World,Below w.heap.size w W->Calls prog 57 #[.slice (some ⟨b,off+k,none⟩) (n-k) (cap-k)] W fun e w'=>e=.returned (.string (tree (l.drop k)))/\Below W.heap.size W w'):=fun W hW =>
     ih (n-k) (l.drop k) (some ⟨b,off+k,none⟩) (cap-k) B W (by omega) (by rw[List.length_drop];omega) (by omega) (by omega) (fun j hj=>by rw[List.getElem_drop];exact hr _ _) ((Strs.drop hb hc).after hW hB) (Nat.le_trans hB hW.size)
    have HLN:=hideT hln;have s1:=tree_size (l.take k);have s2:=tree_size (l.drop k);clear hc hr ih hln;have i0:¬(n:Int)=0:=(by omega);have i1:¬(n:Int)=1:=(by omega);have g1:(k:Int)<=cap:=(by omega);have g2:(k:Int)<=n:=(by omega);have g4:¬cap=k:=(by omega);have HH:=hideT (half_spec n w (by omega) (by omega));rw[<-HK.o]at HH;go_enter func57,ntmps57;(go_wp2_with fail);refine HH.o.mono ?_;rintro e w1 ⟨rfl,hw⟩;subst w1;(go_wp2_with fail)
    go_region_with (first|(go_at_call 57;(with_reducible refine(I1.o _ ?_).mono ?_);(· exact(Below.refl _ _).drew);rintro e w2 ⟨rfl,hb2⟩;have HB2:=hideT (show Below w.heap.size w w2 from ⟨hb2.os,hb2.tape,hb2.output,hb2.size,hb2.block⟩);clear hb2)|(go_at_call 57;(with_reducible refine(I2.o w2 HB2.o).mono ?_);rintro e w3 ⟨rfl,hb3⟩;have HB3:=hideT (HB2.o.trans (hb3.mono HB2.o.size));clear hb3)|(go_at_call 81;refine(l03Node_any (tree (l.take k)) (tree (l.drop k)) w3 ?_ ?_).mono ?_;(· omega);(· omega);rintro e w4 ⟨rfl,hb4⟩;have HB4:=hideT (HB3.o.trans (hb4.mono HB3.o.size));clear hb4))
    all_goals (try go_wp2_with fail)
    all_goals go_ret
    all_goals exact⟨Nu.ret_strJ (by rw[HT.o,HLN.o,<-HK.o]),HB4.o⟩
end Tr
namespace Tr
open St
open Sh (Vars)
theorem below2 {w w1 w2:World} (h1:Below w.heap.size w w1) (h2:Below w1.heap.size w1 w2):Below w.heap.size w w2:=h1.trans (h2.mono h1.size)
theorem treeR_yes (l:List ByteArray) (h:right l=true):treeR l=tree l:=if_pos h
theorem treeR_no (l:List ByteArray) (h:right l=false):treeR l=⟨#[]⟩:=if_neg (by rw[h];decide)
theorem treeHash_impl (l:List ByteArray) (n:Nat) (a:Option Addr) (cap B:Nat) (w:World) (hln:l.length=n) (hcap:n<=cap) (hn:n<=1048576) (hs:Strs w B a l) (hB:B<=w.heap.size) (hV:Vars w) :
  Calls prog 16 #[.slice a n cap] w fun e w'=>e=.returned (.string (treeR l))/\Below w.heap.size w w':=by
 have HR:=hideT (right_impl a cap l w B hs (by omega));rw[hln]at HR;have HS:=hideT hs;have HV:=hideT hV;clear hs hV
 cases hr:right l with
 |false =>
  have HT:=hideT (treeR_no l hr);rw[hr]at HR;go_enter func16,ntmps16
  go_wp2_with fail
  refine HR.o.mono ?_;rintro e w1 ⟨rfl,hw⟩;subst w1
  go_wp2_with fail
  go_ret;exact⟨Nu.ret_strJ HT.o.symm,Below.refl _ _⟩
 |true =>
  have HT:=hideT (treeR_yes l hr);have HY:=hideT ((right_yes l).1 hr);rw[hr]at HR;go_enter func16,ntmps16
  go_wp2_with fail
  refine HR.o.mono ?_;rintro e w1 ⟨rfl,hw⟩;subst w1
  go_wp2_with fail
  refine(tree_impl n n l a cap B _ nl hln hcap (by have:=HY.o.1;omega) HY.o.2 HS.o hB HV.o).mono ?_;rintro e w2 ⟨rfl,hb2⟩
  go_wp2_with fail
  go_ret;exact⟨Nu.ret_strJ HT.o.symm,hb2⟩
theorem treeHash_spec (l:List ByteArray) (n:Nat) (a:Option Addr) (cap B:Nat) (w:World) (hln:l.length=n) (hcap:n<=cap) (hn:n<=1048576) (hs:Strs w B a l) (hB:B<=w.heap.size) :
  Calls prog 42 #[.slice a n cap] w fun e w'=>e=.returned (.string (treeR l))/\Below w.heap.size w w':=by
 have HR:=hideT (right_spec a cap l w B hs (by omega));rw[hln]at HR;have HS:=hideT hs;clear hs;by_cases h400:400<n
 ·have HT:=hideT (treeR_no l (right_long l (by omega)))
  go_enter func42,ntmps42
  go_wp2_with fail
  go_ret;exact⟨Nu.ret_strJ HT.o.symm,Below.refl _ _⟩
 ·cases hr:right l with
  |false =>
   have HT:=hideT (treeR_no l hr);rw[hr]at HR;go_enter func42,ntmps42
   go_wp2_with fail
   refine HR.o.mono ?_;rintro e w1 ⟨rfl,hw⟩;subst w1
   go_wp2_with fail
   go_ret;exact⟨Nu.ret_strJ HT.o.symm,Below.refl _ _⟩
  |true =>
   have HT:=hideT (treeR_yes l hr);have HY:=hideT ((right_yes l).1 hr);rw[hr]at HR;go_enter func42,ntmps42
   go_wp2_with fail
   refine HR.o.mono ?_;rintro e w1 ⟨rfl,hw⟩;subst w1
   go_wp2_with fail
   refine(tree_spec n n l a cap B _ nl hln hcap (by have:=HY.o.1;omega) HY.o.2 HS.o hB).mono ?_;rintro e w2 ⟨rfl,hb2⟩
   go_wp2_with fail
   go_ret;exact⟨Nu.ret_strJ HT.o.symm,hb2⟩
end Tr
namespace Tr
open Sh (nodeV)
def climbR:Nat->Nat->Nat->List ByteArray->ByteArray->Option ByteArray
 |0,_,_,_,_=>none
 |f+1,n,i,p,h =>
  if n<=1 then (if p=[] then some h else none)
  else match p.getLast? with
   |none=>none
   |some s=>if i<half n then (climbR f (half n) i p.dropLast h).map (fun x=>nodeV x s) else (climbR f (n-half n) (i-half n) p.dropLast h).map (fun x=>nodeV s x)
def od (a:Nat):Nat:=if _h:a%2=0/\0<a then od (a/2) else a
termination_by a
decreasing_by omega
theorem od_even (a:Nat) (h:a%2=0) (h0:0<a):od a=od (a/2):=by rw[od,dif_pos ⟨h,h0⟩]
theorem od_odd (a:Nat) (h:¬(a%2=0/\0<a)):od a=a:=by rw[od,dif_neg h]
def climbS:Nat->Nat->List ByteArray->ByteArray->Option ByteArray
 |_,last,[],h=>if last=0 then some h else none
 |a,last,p :: ps,h =>
  if last=0 then none
  else if a%2=1 then climbS (a/2) (last/2) ps (nodeV p h)
  else if a=last then climbS (od a/2) (od a/2) ps (nodeV p h)
  else climbS (a/2) (last/2) ps (nodeV h p)
theorem climbS_zero (a:Nat) (p:List ByteArray) (h:ByteArray) (hp:p≠[]):climbS a 0 p h=none:=by
 cases p with
 |nil=>exact absurd rfl hp
 |cons x xs=>rw[climbS,if_pos rfl]
theorem climbS_odd (a last:Nat) (x:ByteArray) (xs:List ByteArray) (h:ByteArray) (h0:last≠0) (h1:a%2=1):climbS a last (x :: xs) h=climbS (a/2) (last/2) xs (nodeV x h):=by
 rw[climbS,if_neg h0,if_pos h1]
theorem climbS_end (a:Nat) (x:ByteArray) (xs:List ByteArray) (h:ByteArray) (h0:a≠0) (h1:a%2=0):climbS a a (x :: xs) h=climbS (od a/2) (od a/2) xs (nodeV x h):=by
 rw[climbS,if_neg h0,if_neg (by omega),if_pos rfl]
theorem climbS_even (a last:Nat) (x:ByteArray) (xs:List ByteArray) (h:ByteArray) (h0:last≠0) (h1:a%2=0) (h2:a≠last):climbS a last (x :: xs) h=climbS (a/2) (last/2) xs (nodeV h x):=by
 rw[climbS,if_neg h0,if_neg (by omega),if_neg h2]
theorem climbS_nil (a last:Nat) (h:ByteArray):climbS a last [] h=if last=0 then some h else none:=by rw[climbS]
theorem pow_half (t:Nat) (h:0<t):2 ^ t/2=2 ^ (t-1)/\2 ^ t=2*2 ^ (t-1):=by
 obtain⟨s,rfl⟩:∃ s,t=s+1:=⟨t-1,by omega⟩;rw[Nat.pow_succ];simp;omega
theorem pow_pos2 (t:Nat):1<=2 ^ t:=Nat.one_le_two_pow
theorem climb_left:∀ (p:List ByteArray) (t a last:Nat) (s h:ByteArray),a<2 ^ t->2 ^ t<=last->last<2 ^ (t+1) ->
  climbS a last (p++[s]) h=(climbS a (2 ^ t-1) p h).map (fun x=>nodeV x s)
 |[],t,a,last,s,h,h1,h2,h3=>by
  have hp:=pow_pos2 t;rw[List.nil_append,climbS_nil]
  rcases Nat.eq_zero_or_pos t with h0|h0
  ·subst h0
   rw[climbS_even a last s [] h (by omega) (by omega) (by omega),climbS_nil,if_pos (by omega),if_pos (by omega)];rfl
  ·obtain⟨e1,e2⟩:=pow_half t h0
   have hq:=pow_pos2 (t-1);rw[if_neg (by omega)];by_cases ha:a%2=1
   ·rw[climbS_odd a last s [] h (by omega) ha,climbS_nil,if_neg (by omega)]
    rfl
   ·rw[climbS_even a last s [] h (by omega) (by omega) (by omega),climbS_nil,if_neg (by omega)]
    rfl
 |x :: xs,t,a,last,s,h,h1,h2,h3=>by
  have hp:=pow_pos2 t;rw[List.cons_append]
  rcases Nat.eq_zero_or_pos t with h0|h0
  ·subst h0
   rw[climbS_even a last x (xs++[s]) h (by omega) (by omega) (by omega)];rw[show last/2=0 by omega,climbS_zero _ _ _ (by simp)];rw[show 2 ^ 0-1=0 by omega,climbS_zero _ _ _ (by simp)];rfl
  ·obtain⟨e1,e2⟩:=pow_half t h0
   have hq:=pow_pos2 (t-1)
   have e3:(2 ^ t-1)/2=2 ^ (t-1)-1:=by omega
   have e4:2 ^ (t+1)=2*2 ^ t:=by rw[Nat.pow_succ];omega
   have e5:2 ^ (t-1+1)=2 ^ t:=by rw[show t-1+1=t by omega]
   by_cases ha:a%2=1
   ·rw[climbS_odd a last x _ h (by omega) ha,climbS_odd a (2 ^ t-1) x _ h (by omega) ha,e3]
    exact climb_left xs (t-1) (a/2) (last/2) s (nodeV x h) (by omega) (by omega) (by omega)
   ·rw[climbS_even a last x _ h (by omega) (by omega) (by omega),climbS_even a (2 ^ t-1) x _ h (by omega) (by omega) (by omega),e3]
    exact climb_left xs (t-1) (a/2) (last/2) s (nodeV h x) (by omega) (by omega) (by omega)
theorem od_pow:∀ t:Nat,od (2 ^ t)=1
 |0=>by rw[od_odd _ (by decide)]
 |t+1=>by
  have hp:=pow_pos2 t;rw[Nat.pow_succ,od_even _ (by omega) (by omega),show 2 ^ t*2/2=2 ^ t by omega];exact od_pow t
theorem od_top:∀ (t r:Nat),0<r->r<2 ^ t->∃ u,1<=u/\u<=t/\od (2 ^ t+r)=2 ^ u+od r/\od r<2 ^ u/\0<od r
 |0,r,h0,h1=>by simp at h1;omega
 |t+1,r,h0,h1=>by
  have hp:=pow_pos2 t
  have e:2 ^ (t+1)=2*2 ^ t:=by rw[Nat.pow_succ];omega
  by_cases hr:r%2=0
  ·obtain⟨u,u1,u2,u3,u4,u5⟩:=od_top t (r/2) (by omega) (by omega)
   refine⟨u,u1,by omega,?_,?_,?_⟩
   ·rw[od_even (2 ^ (t+1)+r) (by omega) (by omega),od_even r hr h0,show (2 ^ (t+1)+r)/2=2 ^ t+r/2 by omega]
    exact u3
   ·rw[od_even r hr h0];exact u4
   ·rw[od_even r hr h0];exact u5
  ·refine⟨t+1,by omega,nl,?_,?_,?_⟩
   ·rw[od_odd (2 ^ (t+1)+r) (by omega),od_odd r (by omega)]
   ·rw[od_odd r (by omega)];exact h1
   ·rw[od_odd r (by omega)];exact h0
theorem climb_right:∀ (p:List ByteArray) (t a last:Nat) (s h:ByteArray),2 ^ t<=a->a<=last->last<2 ^ (t+1) ->
  climbS a last (p++[s]) h=(climbS (a-2 ^ t) (last-2 ^ t) p h).map (fun x=>nodeV s x)
 |[],t,a,last,s,h,h1,h2,h3=>by
  have hp:=pow_pos2 t
  have e4:2 ^ (t+1)=2*2 ^ t:=by rw[Nat.pow_succ];omega
  rw[List.nil_append,climbS_nil (a-2 ^ t)];by_cases hl:last=2 ^ t
  ·obtain rfl:a=last:=by omega
   rw[if_pos (by omega)];by_cases ha:a%2=1
   ·rw[climbS_odd a a s [] h (by omega) ha,climbS_nil,if_pos (by
     rcases Nat.eq_zero_or_pos t with h0|h0
     ·subst h0;omega
     ·obtain⟨e1,e2⟩:=pow_half t h0;omega)]
    rfl
   ·rw[climbS_end a s [] h (by omega) (by omega),climbS_nil,hl,od_pow,if_pos (by decide)]
    rfl
  ·rw[if_neg (by omega)]
   have h0:0<t:=by
    rcases Nat.eq_zero_or_pos t with h0|h0
    ·subst h0;omega
    ·exact h0
   obtain⟨e1,e2⟩:=pow_half t h0;have hq:=pow_pos2 (t-1);by_cases ha:a%2=1
   ·rw[climbS_odd a last s [] h (by omega) ha,climbS_nil,if_neg (by omega)]
    rfl
   ·by_cases hal:a=last
    ·subst hal
     obtain⟨u,u1,u2,u3,u4,u5⟩:=od_top t (a-2 ^ t) (by omega) (by omega);rw[show 2 ^ t+(a-2 ^ t)=a by omega]at u3;obtain⟨f1,f2⟩:=pow_half u u1;have hq':=pow_pos2 (u-1);rw[climbS_end a s [] h (by omega) (by omega),climbS_nil,if_neg (by omega)];rfl
    ·rw[climbS_even a last s [] h (by omega) (by omega) hal,climbS_nil,if_neg (by omega)]
     rfl
 |x :: xs,t,a,last,s,h,h1,h2,h3=>by
  have hp:=pow_pos2 t
  have e4:2 ^ (t+1)=2*2 ^ t:=by rw[Nat.pow_succ];omega
  rw[List.cons_append];by_cases hl:last=2 ^ t
  ·obtain rfl:a=last:=by omega
   rw[show a-2 ^ t=0 by omega,climbS_zero _ _ _ (by simp)];by_cases ha:a%2=1
   ·rw[climbS_odd a a x _ h (by omega) ha,show a/2=0 by
     rcases Nat.eq_zero_or_pos t with h0|h0
     ·subst h0;omega
     ·obtain⟨e1,e2⟩:=pow_half t h0;omega,climbS_zero _ _ _ (by simp)]
    rfl
   ·rw[climbS_end a x _ h (by omega) (by omega),hl,od_pow,show 1/2=0 from rfl,climbS_zero _ _ _ (by simp)]
    rfl
  ·have h0:0<t:=by
    rcases Nat.eq_zero_or_pos t with h0|h0
    ·subst h0;omega
    ·exact h0
   obtain⟨e1,e2⟩:=pow_half t h0;have hq:=pow_pos2 (t-1)
   have e5:2 ^ (t-1+1)=2 ^ t:=by rw[show t-1+1=t by omega]
   have e6:(a-2 ^ t)/2=a/2-2 ^ (t-1):=by omega
   have e7:(last-2 ^ t)/2=last/2-2 ^ (t-1):=by omega
   by_cases ha:a%2=1
   ·rw[climbS_odd a last x _ h (by omega) ha,climbS_odd (a-2 ^ t) (last-2 ^ t) x _ h (by omega) (by omega),e6,e7]
    exact climb_right xs (t-1) (a/2) (last/2) s (nodeV x h) (by omega) (by omega) (by omega)
   ·by_cases hal:a=last
    ·subst hal
     obtain⟨u,u1,u2,u3,u4,u5⟩:=od_top t (a-2 ^ t) (by omega) (by omega);rw[show 2 ^ t+(a-2 ^ t)=a by omega]at u3;obtain⟨f1,f2⟩:=pow_half u u1;have f5:2 ^ (u-1+1)=2 ^ u:=(by rw[show u-1+1=u by omega]);rw[climbS_end a x _ h (by omega) (by omega),climbS_end (a-2 ^ t) x _ h (by omega) (by omega)];rw[show od (a-2 ^ t)/2=od a/2-2 ^ (u-1) by omega];exact climb_right xs (u-1) (od a/2) (od a/2) s (nodeV x h) (by omega) (by omega) (by omega)
    ·rw[climbS_even a last x _ h (by omega) (by omega) hal,climbS_even (a-2 ^ t) (last-2 ^ t) x _ h (by omega) (by omega) (by omega),e6,e7]
     exact climb_right xs (t-1) (a/2) (last/2) s (nodeV h x) (by omega) (by omega) (by omega)
theorem climb_same:∀ (f n i:Nat) (p:List ByteArray) (h:ByteArray),n<=f->i<n->climbR f n i p h=climbS i (n-1) p h
 |0,n,i,p,h,h1,h2=>by omega
 |f+1,n,i,p,h,h1,h2=>by
  rw[climbR];by_cases hn:n<=1
  ·rw[if_pos hn,show n-1=0 by omega]
   cases p with
   |nil=>rw[if_pos rfl,climbS_nil,if_pos rfl]
   |cons x xs=>rw[if_neg (by simp),climbS_zero _ _ _ (by simp)]
  ·rw[if_neg hn]
   cases hp:p.getLast? with
   |none =>
    have:p=[]:=List.getLast?_eq_none_iff.1 hp
    subst this;rw[climbS_nil,if_neg (by omega)]
   |some s =>
    have hps:p.dropLast++[s]=p:=by
     obtain⟨q,rfl⟩:=List.getLast?_eq_some_iff.1 hp;simp
    have k1:=half_pos n;have k2:=half_lt n (by omega);have k3:=half_two n (by omega);have hk:half n=2 ^ Nat.log2 (n-1):=rfl;have e4:2 ^ (Nat.log2 (n-1)+1)=2*half n:=(by rw[Nat.pow_succ,hk];omega);simp only[];by_cases hi:i<half n
    ·rw[if_pos hi,climb_same f (half n) i p.dropLast h (by omega) hi]
     have:=climb_left p.dropLast (Nat.log2 (n-1)) i (n-1) s h (by rw[<-hk];exact hi) (by rw[<-hk];omega) (by rw[e4];omega)
     rw[hps,<-hk]at this;exact this.symm
    ·rw[if_neg hi,climb_same f (n-half n) (i-half n) p.dropLast h (by omega) (by omega)]
     have:=climb_right p.dropLast (Nat.log2 (n-1)) i (n-1) s h (by rw[<-hk];omega) (by omega) (by rw[e4];omega)
     rw[hps,<-hk,show n-1-half n=n-half n-1 by omega]at this;exact this.symm
end Tr
namespace Tr
open St
open Sh (nodeV)
def wide (l:List ByteArray):Bool:=l.all (fun s=>decide (s.size=32))
theorem wide_yes (l:List ByteArray):wide l=true↔∀ j (h:j<l.length),l[j].size=32:=by
 unfold wide;simp only[List.all_eq_true,decide_eq_true_eq]
 constructor
 ·intro h j hj
  exact h _ (List.getElem_mem hj)
 ·intro h s hs
  obtain⟨j,hj,rfl⟩:=List.getElem_of_mem hs;exact h j hj
theorem wide_bad (l:List ByteArray) (j:Nat) (hj:j<l.length) (h:¬l[j].size=32):wide l=false:=by
 cases e:wide l with
 |false=>rfl
 |true=>exact absurd ((wide_yes l).1 e j hj) h
theorem digs_impl (a:Option Addr) (cap:Nat) (l:List ByteArray) (most:Nat) (w:World) (B:Nat) (h:Strs w B a l) (hn:l.length<=1048576) :
  Calls prog 109 #[.slice a l.length cap,.int .i64 most] w fun e w'=>e=.returned (.bool (decide (l.length<=most) && wide l))/\w'=w:=by
 have HS:=hideT h;clear h;obtain⟨n,hln⟩:∃ n,n=l.length:=⟨_,rfl⟩;have HLN:=hideT hln;rw[<-hln]at hn ⊢;clear hln;by_cases hbig:most<n
 ·have HR:Hid ((decide (n<=most) && wide l)=false):=by
   unfold Hid;rw[decide_eq_false (by omega)];rfl
  go_enter func109,ntmps109
  go_wp2_with fail
  go_ret;exact⟨ret_bool HR.o.symm,rfl⟩
 ·have HR:Hid ((decide (n<=most) && wide l)=wide l):=by
   unfold Hid;rw[decide_eq_true (by omega)];rfl
  go_enter func109,ntmps109
  go_wp2_with fail
  go_loopw [13] (fun i wr=>∃ k:Nat,i=.int .i64 k/\k<=n/\(∀ j (hj:j<l.length),j<k->l[j].size=32)/\wr=w) (fun i _=>n-(intOf i).toNat)
  case atStart=>exact⟨0,rfl,by omega,fun j hj h0=>by omega,rfl⟩
  case round =>
   obtain⟨k,rfl,hk,hall,hw⟩:=hrel;subst hw;have HA:=hideT hall;clear hall;by_cases hlt:k<n
   ·have hkl:k<l.length:=by rw[<-HLN.o];exact hlt
    obtain⟨b,off,rfl,hb,hc⟩:=HS.o.some (by omega);have ci:=hc k hkl;have HBad:=hideT (wide_bad l k hkl);obtain⟨s,hs⟩:∃ s,s=l[k]:=⟨_,rfl⟩;have HSE:=hideT hs;rw[<-hs]at ci;clear hc hs;by_cases h32:s.size=32
    ·go_wp2_with fail
     go_roundw
     case rel =>
      refine⟨k+1,by go_num,by omega,fun j hj h0=>?_,trivial⟩;by_cases e:j=k
      ·subst e
       rw[<-HSE.o];exact h32
      ·exact HA.o j hj (by omega)
     case measure=>simp[intOf];omega
    ·go_wp2_with fail
     go_ret;exact⟨ret_bool (by rw[HR.o,HBad.o (by rw[<-HSE.o];exact h32)]),rfl⟩
   ·have HY:Hid (wide l=true):=by
     unfold Hid;exact(wide_yes l).2 (fun j hj=>HA.o j hj (by have:=HLN.o;omega))
    (go_wp2_with fail);go_ret;exact⟨ret_bool (by rw[HR.o,HY.o]),rfl⟩
theorem cutLast_any (b off m cap:Nat) (s:ByteArray) (w:World) (hm:1<=m) (hm2:m<=1048576) (hc:m<=cap) (ci:w.cell? ⟨b,off+(m-1),none⟩=some (.string s)) :
  Calls prog 146 #[.slice (some ⟨b,off,none⟩) m cap] w fun e w'=>e=.returned (.tuple #[.slice (some ⟨b,off,none⟩) (m-1) (m-1),.string s])/\Below w.heap.size w w':=by
 obtain⟨k,rfl⟩:∃ k,m=k+1:=⟨m-1,by omega⟩;rw[show k+1-1=k by omega]at ci ⊢
 have g0:((k+1:Nat):Int)-1=k:=by omega
 have g1:(k:Int)<=cap:=by omega
 have g2:(k:Int)<((k+1:Nat):Int):=by omega
 have g3:¬cap=k:=by omega
 go_enter func146,ntmps146
 go_wp2_with fail
 go_region
 all_goals (try go_wp2_with fail)
 all_goals go_ret2
 all_goals exact⟨rfl,(Below.refl _ _).drew⟩
def incl (n i:Nat) (p:List ByteArray) (h:ByteArray):Option ByteArray:=climbS i (n-1) p h
theorem incl_one (p:List ByteArray) (h:ByteArray):incl 1 0 p h=if p=[] then some h else none:=by
 unfold incl
 cases p with
 |nil=>rw[climbS_nil,if_pos rfl,if_pos rfl]
 |cons x xs=>rw[climbS_zero _ _ _ (by simp),if_neg (by simp)]
theorem incl_none (n i:Nat) (h:ByteArray) (hn:2<=n):incl n i [] h=none:=by
 unfold incl;rw[climbS_nil,if_neg (by omega)]
theorem incl_left (n i:Nat) (q:List ByteArray) (s h:ByteArray) (hn:2<=n) (hi:i<half n):incl n i (q++[s]) h=(incl (half n) i q h).map (fun x=>nodeV x s):=by
 have k3:=half_two n hn;have k2:=half_lt n hn;have hk:half n=2 ^ Nat.log2 (n-1):=rfl
 have e4:2 ^ (Nat.log2 (n-1)+1)=2*half n:=by rw[Nat.pow_succ,hk];omega
 exact climb_left q (Nat.log2 (n-1)) i (n-1) s h (by rw[<-hk];exact hi) (by rw[<-hk];omega) (by rw[e4];omega)
theorem incl_right (n i:Nat) (q:List ByteArray) (s h:ByteArray) (hn:2<=n) (hi:¬i<half n) (hin:i<n):incl n i (q++[s]) h=(incl (n-half n) (i-half n) q h).map (fun x=>nodeV s x):=by
 have k3:=half_two n hn;have k2:=half_lt n hn;have hk:half n=2 ^ Nat.log2 (n-1):=rfl
 have e4:2 ^ (Nat.log2 (n-1)+1)=2*half n:=by rw[Nat.pow_succ,hk];omega
 have:=climb_right q (Nat.log2 (n-1)) i (n-1) s h (by rw[<-hk];omega) (by omega) (by rw[e4];omega)
 unfold incl;rw[this,<-hk,show n-1-half n=n-half n-1 by omega]
def path (l:List ByteArray) (i:Nat):List ByteArray :=
 if _h:l.length<=1 then []
 else if i<half l.length then path (l.take (half l.length)) i++[tree (l.drop (half l.length))]
 else path (l.drop (half l.length)) (i-half l.length)++[tree (l.take (half l.length))]
termination_by l.length
decreasing_by
 ·have:=half_lt l.length (by omega)
  simp;omega
 ·have:=half_pos l.length
  simp;omega
theorem path_one (l:List ByteArray) (i:Nat) (h:l.length<=1):path l i=[]:=by rw[path,dif_pos h]
theorem path_left (l:List ByteArray) (i:Nat) (h:2<=l.length) (hi:i<half l.length):path l i=path (l.take (half l.length)) i++[tree (l.drop (half l.length))]:=by
 rw[path,dif_neg (by omega),if_pos hi]
theorem path_right (l:List ByteArray) (i:Nat) (h:2<=l.length) (hi:¬i<half l.length):path l i=path (l.drop (half l.length)) (i-half l.length)++[tree (l.take (half l.length))]:=by
 rw[path,dif_neg (by omega),if_neg hi]
theorem path_length:∀ (m:Nat) (l:List ByteArray) (i:Nat),l.length<=m->(path l i).length<=l.length
 |0,l,i,h=>by
  rw[path_one l i (by omega)];simp
 |m+1,l,i,h=>by
  by_cases h1:l.length<=1
  ·rw[path_one l i h1]
   simp
  ·have h2:=half_lt l.length (by omega)
   have h3:=half_pos l.length;by_cases hi:i<half l.length
   ·rw[path_left l i (by omega) hi]
    have:=path_length m (l.take (half l.length)) i (by simp;omega)
    simp at this ⊢;omega
   ·rw[path_right l i (by omega) hi]
    have:=path_length m (l.drop (half l.length)) (i-half l.length) (by simp;omega)
    simp at this ⊢;omega
def pathR (l:List ByteArray) (i:Int):List ByteArray:=if right l=true/\0<=i/\i<l.length then path l i.toNat else []
def proof (l:List ByteArray) (m:Nat) (b:Bool):List ByteArray :=
 if _h:l.length<=m∨l.length<=1 then (if b=true then [] else [tree l])
 else if m<=half l.length then proof (l.take (half l.length)) m b++[tree (l.drop (half l.length))]
 else proof (l.drop (half l.length)) (m-half l.length) false++[tree (l.take (half l.length))]
termination_by l.length
decreasing_by
 ·have:=half_lt l.length (by omega)
  simp;omega
 ·have:=half_pos l.length
  simp;omega
def proofR (l:List ByteArray) (i:Int):List ByteArray:=if right l=true/\1<=i/\i<=l.length then proof l i.toNat true else []
end Tr
namespace Tr
open Sh (nodeV)
def conS:Nat->Nat->List ByteArray->ByteArray->ByteArray->Option (ByteArray × ByteArray)
 |_,last,[],x,y=>if last=0 then some (x,y) else none
 |a,last,p :: ps,x,y =>
  if last=0 then none
  else if a%2=1 then conS (a/2) (last/2) ps (nodeV p x) (nodeV p y)
  else if a=last then conS (od a/2) (od a/2) ps (nodeV p x) (nodeV p y)
  else conS (a/2) (last/2) ps x (nodeV y p)
def ex (a:Nat):Nat:=if _h:a%2=0/\0<a then ex (a/2)+1 else 0
termination_by a
decreasing_by omega
def conT (old n:Nat) (p:List ByteArray) (was:ByteArray):Option (ByteArray × ByteArray):=conS (od old-1) ((n-1)/2 ^ ex old) p was was
def conF (old n:Nat) (p:List ByteArray):Option (ByteArray × ByteArray) :=
 match p with
 |[]=>none
 |h :: ps=>conS (od old-1) ((n-1)/2 ^ ex old) ps h h
def conP (w:Bool) (old n:Nat) (p:List ByteArray) (was:ByteArray):Option (ByteArray × ByteArray):=if w=true/\od old=1 then conT old n p was else conF old n p
end Tr
namespace Tr
open Sh (nodeV leafV)
theorem incl_path:∀ (f:Nat) (l:List ByteArray) (i n:Nat) (x:ByteArray),n=l.length->l[i]? = some x->n<=f->climbR f n i (path l i) (leafV x)=some (tree l)
 |0,l,i,n,x,hn,hx,hf=>by
  obtain⟨h,_⟩:=List.getElem?_eq_some_iff.1 hx;omega
 |f+1,l,i,n,x,hn,hx,hf=>by
  obtain⟨h,he⟩:=List.getElem?_eq_some_iff.1 hx;rw[climbR];by_cases h1:l.length<=1
  ·have h2:i=0:=by omega
   subst h2;rw[if_pos (by omega),path_one l 0 h1,if_pos rfl,tree_one l (by omega),he]
  ·have k1:=half_lt l.length (by omega)
   have k2:=half_pos l.length;rw[if_neg (by omega),tree_two l (by omega)];subst hn;by_cases hi:i<half l.length
   ·rw[path_left l i (by omega) hi,List.getLast?_concat,List.dropLast_concat]
    have ih:=incl_path f (l.take (half l.length)) i (half l.length) x (by rw[List.length_take];omega) (by rw[List.getElem?_take_of_lt hi];exact hx) (by omega);simp only[if_pos hi,ih,Option.map_some]
   ·rw[path_right l i (by omega) hi,List.getLast?_concat,List.dropLast_concat]
    have ih:=incl_path f (l.drop (half l.length)) (i-half l.length) (l.length-half l.length) x (by rw[List.length_drop]) (by rw[List.getElem?_drop,show half l.length+(i-half l.length)=i by omega];exact hx) (by omega);simp only[if_neg hi,ih,Option.map_some]
end Tr
namespace Kp
open Ls (cells3 set3_all)
theorem find_none {m:List MR} {i:Int} (h:∀ j (hj:j<m.length),¬m[j].1.1=i):hasR (recs m) i=false:=by
 rw[hasR_recs,<-Bool.not_eq_true,List.any_eq_true];rintro⟨x,hx,he⟩;obtain⟨j,hj,rfl⟩:=List.getElem_of_mem hx;exact h j hj (by simpa using he)
theorem find_some {m:List MR} {i:Int} {j:Nat} (hj:j<m.length) (h:m[j].1.1=i):hasR (recs m) i=true:=by
 rw[hasR_recs,List.any_eq_true];exact⟨m[j],List.getElem_mem hj,by simpa using h⟩
theorem find_any (g base n:Nat) (i:Int) (v:Value) (m:List MR) (w:World) (hc:w.cell? ⟨g,0,none⟩=some v) (hg:g<w.heap.size) (ho:OwnR w base v m) (hsl:∀ x∈m,∃ a n cap,x.2=.slice a n cap) (hn:m.length=n) (hm:n<=1048576) :
  Calls prog 50 #[.pointer (some ⟨g,0,none⟩),.int .i64 i] w fun r w' =>
   ((∃ (j:Nat) (hj:j<m.length),m[j].1.1=i/\(∀ k (hk:k<j),¬(m[k]'(Nat.lt_trans hk hj)).1.1=i)/\r=.returned (.tuple #[.agg #[.int .i64 i,.string m[j].1.2.1,m[j].2],.bool true])) ∨
   ((∀ j (hj:j<m.length),¬m[j].1.1=i)/\r=.returned (.tuple #[.agg #[.int .i64 0,.string ⟨#[]⟩,.slice none 0 0],.bool false])))/\Below w.heap.size w w':=by
 have HN:=hideK hn;obtain⟨a,cap,rfl⟩:=ho.one;have HC:=hideK (fun h0=>ho.cells h0);rw[hn]at hc;have C0:=hideK ((Cx.nil w).new (.cells #[.int .i64 0,.string ⟨#[]⟩,.slice none 0 0] 58));have hc0:(w.alloc (.cells #[.int .i64 0,.string ⟨#[]⟩,.slice none 0 0] 58)).cell? ⟨g,0,none⟩=some (.slice a n cap):=(C0.o.low.cell (p:=⟨g,0,none⟩) hg).trans hc;have HSL:=hideK hsl;clear hc ho hn hsl;go_enter func50,ntmps50
 go_wp2_with fail
 go_loopw [13,7] (fun jv _ wr=>∃ (j:Nat),jv=.int .i64 j/\j<=n/\(∀ k (hk:k<m.length),k<j->¬m[k].1.1=i)/\Cx w wr [(w.heap.size,.cells #[.int .i64 0,.string ⟨#[]⟩,.slice none 0 0] 58)]) (fun jv _ _=>n-(intOf jv).toNat)
 case atStart=>exact⟨0,rfl,Nat.zero_le _,fun k _ h=>absurd h (Nat.not_lt_zero _),C0.o⟩
 case round =>
  obtain⟨j,rfl,hj,hno,hcx⟩:=hrel;have NO:=hideK hno;have CX:=hideK hcx;clear hno hcx;by_cases hlt:j<n
  ·have hlt':(j:Int)<(n:Int):=by omega
   have hjm:j<m.length:=by rw[HN.o];exact hlt
   obtain⟨gr,cp,hv,_,hgl,_,hcl⟩:=HC.o (by rw[HN.o];omega)
   cases hv
   obtain⟨e0,e1,e2⟩:=hcl j hjm;have c0:=(CX.o.low.cell (p:=⟨gr,j*3,none⟩) hgl).trans e0;have c1:=(CX.o.low.cell (p:=⟨gr,j*3+1,none⟩) hgl).trans e1;have c2:=(CX.o.low.cell (p:=⟨gr,j*3+2,none⟩) hgl).trans e2;have HI:Hid (∀ x:MR,x=m[j]->x.1.1=i->(∃ (j:Nat) (hj:j<m.length),m[j].1.1=i/\(∀ k (hk:k<j),¬(m[k]'(Nat.lt_trans hk hj)).1.1=i)/\(.tuple #[.agg #[.int .i64 i,.string x.1.2.1,x.2],.bool true]:Value)=.tuple #[.agg #[.int .i64 i,.string m[j].1.2.1,m[j].2],.bool true])):=fun x hx he=>⟨j,hjm,by rw[<-hx];exact he,fun k hk=>NO.o k (Nat.lt_trans hk hjm) hk,by rw[hx]⟩
   have HQ:Hid (∀ x:MR,x=m[j]->¬x.1.1=i->∀ k (hk:k<m.length),k<j+1->¬m[k].1.1=i):=fun x hx he k hk hk1=>by
    by_cases hkj:k<j
    ·exact NO.o k hk hkj
    ·have:k=j:=by omega
     subst this;rw[<-hx];exact he
   obtain⟨x,hx⟩:∃ x,x=m[j]:=⟨_,rfl⟩;obtain⟨ap,np,cp,hxv⟩:=HSL.o x (by rw[hx];exact List.getElem_mem hjm);have HI1:=hideK (HI.o x hx);have HQ1:=hideK (HQ.o x hx);rw[<-hx]at c0 c1 c2;clear e0 e1 e2 hcl hx HI HQ hjm;obtain⟨⟨xi,xt,xp⟩,xv⟩:=x;dsimp only at c0 c1 c2 HI1 HQ1 hxv;subst hxv;have C1:=hideK (CX.o.new (.cells #[.int .i64 xi,.string xt,.slice ap np cp] 58))
   go_upto_region 4 with fail
   generalize wr.alloc (.cells #[.int .i64 xi,.string xt,.slice ap np cp] 58)=W1 at C1 ⊢;generalize wr.heap.size=g1 at C1 ⊢;obtain⟨q0,q1,q2⟩:=cells3 (C1.o.get 1 rfl);obtain⟨d0,d1,d2⟩:=cells3 (C1.o.get 0 rfl);clear c0 c1 c2;by_cases he:xi=i
   ·subst he
    have HI2:=hideK (HI1.o rfl);have ff:=fun o=>frozen_of_row W1 w.heap.size o _ _ (C1.o.get 1 rfl);have s3:=set3_all (C1.o.get 1 rfl) (.int .i64 xi) (.string xt) (.slice ap np cp);have E3:=hideK (set3_low C1.o.low nl (.int .i64 xi) (.string xt) (.slice ap np cp));(go_wp2_with fail);obtain⟨jj,hjj,k1,k2,k3⟩:=HI2.o;exact bodyPost_ret (v:=.tuple #[.agg #[.int .i64 xi,.string xt,.slice ap np cp],.bool true]) (by simp[results,results50,go_sem,s3.1,s3.2.1,s3.2.2]) rfl ⟨.inl ⟨jj,hjj,k1,k2,by rw[k3]⟩,E3.o⟩
   ·have he':(xi==i)=false:=beq_eq_false_iff_ne.2 he
    have HQ2:=hideK (HQ1.o he);clear he;have C2:Hid (Cx w W1 [(w.heap.size,.cells #[.int .i64 0,.string ⟨#[]⟩,.slice none 0 0] 58)]):=⟨C1.o.low,fun x hx=>C1.o.blk x (List.mem_cons_of_mem _ hx)⟩;(go_wp2_with fail)
    go_roundw
    case rel=>exact⟨j+1,by go_num,by omega,HQ2.o,C2.o⟩
    case measure=>simp[intOf];omega
  ·obtain rfl:j=n:=by omega
   have NN:Hid (∀ k (hk:k<m.length),¬m[k].1.1=i):=fun k hk=>NO.o k hk (by rw[<-HN.o];exact hk);obtain⟨q0,q1,q2⟩:=cells3 (CX.o.get 0 rfl);have ff:=fun o=>frozen_of_row wr w.heap.size o _ _ (CX.o.get 0 rfl);have s3:=set3_all (CX.o.get 0 rfl) (.int .i64 0) (.string ⟨#[]⟩) (.slice none 0 0);have E3:=hideK (set3_low CX.o.low nl (.int .i64 0) (.string ⟨#[]⟩) (.slice none 0 0))
   go_wp2_with fail
   exact bodyPost_ret (v:=.tuple #[.agg #[.int .i64 0,.string ⟨#[]⟩,.slice none 0 0],.bool false]) (by simp[results,results50,go_sem,s3.1,s3.2.1,s3.2.2]) rfl ⟨.inr ⟨NN.o,rfl⟩,E3.o⟩
theorem has_any (g base n:Nat) (i:Int) (v:Value) (m:List MR) (w:World) (hc:w.cell? ⟨g,0,none⟩=some v) (hg:g<w.heap.size) (ho:OwnR w base v m) (hsl:∀ x∈m,∃ a n cap,x.2=.slice a n cap) (hn:m.length=n) (hm:n<=1048576) :
  Calls prog 27 #[.pointer (some ⟨g,0,none⟩),.int .i64 i] w fun r w'=>r=.returned (.bool (hasR (recs m) i))/\Below w.heap.size w w':=by
 have HF:=hideK (find_any g base n i v m w hc hg ho hsl hn hm);have HSL:=hideK hsl;clear hc ho hsl;go_enter func27,ntmps27
 go_wp2_with fail
 refine HF.o.mono ?_;rintro e w1 ⟨⟨j,hj,he,_,rfl⟩|⟨hno,rfl⟩,hb⟩
 ·obtain⟨ap,np,cp,hv⟩:=HSL.o m[j] (List.getElem_mem hj)
  rw[hv];have HB:=hideK (hb.alloc hb.size (.cells #[.int .i64 i,.string m[j].1.2.1,.slice ap np cp] 58));have HH:=hideK (find_some hj he);clear hb he
  go_wp2_with fail
  go_ret;exact⟨by rw[HH.o];rfl,HB.o⟩
 ·have HB:=hideK (hb.alloc hb.size (.cells #[.int .i64 0,.string ⟨#[]⟩,.slice none 0 0] 58))
  have HH:=hideK (find_none hno);clear hb hno
  go_wp2_with fail
  go_ret;exact⟨by rw[HH.o];rfl,HB.o⟩
end Kp
namespace Tr
open St
open Sh (step_append_own own_empty)
theorem path_spec:∀ (m n i:Nat) (l:List ByteArray) (a:Option Addr) (cap B:Nat) (w:World),n<=m->l.length=n->1<=n->i<n->n<=cap->n<=64->(∀ j (h:j<l.length),l[j].size<=100)->Strs w B a l->B<=w.heap.size ->
  Calls prog 31 #[.slice a n cap,.int .i64 i] w fun e w'=>∃ v,e=.returned v/\OwnS w' w.heap.size v (path l i)/\Below w.heap.size w w':=by
 intro m
 induction m with
 |zero =>
  intro n i l a cap B w hm hln h1;omega
 |succ m ih =>
  intro n i l a cap B w hm hln h1 hi hcap h64 hr hs hB;obtain⟨b,off,rfl,hb,hc⟩:=hs.some (by omega);obtain⟨i0,hif,hz0,hz1,hz2⟩:=info_parts Tryz.infoS9;clear hs;by_cases hn1:n=1
  ·have HP:=hideT (path_one l i (by omega))
   subst hn1;clear hc hr ih;go_enter func31,ntmps31
   go_wp2_with fail
   go_ret;exact⟨_,rfl,by rw[HP.o];exact own_empty _ _ _ nl,(Below.refl _ _).alloc nl _⟩
  ·have hp:=half_pos n
   have hl:=half_lt n (by omega);have HPL:=hideT (path_left l i (by omega));have HPR:=hideT (path_right l i (by omega));have HLE:=hideT (path_length m);obtain⟨k,hk⟩:∃ k,k=half n:=⟨_,rfl⟩;have HH:=hideT (half_spec n w (by omega) (by omega));rw[hln,<-hk]at HPL HPR;rw[<-hk]at hp hl HH
   have TL:Hid (∀ W:World,Below w.heap.size w W->Calls prog 57 #[.slice (some ⟨b,off,none⟩) k cap] W fun e w'=>e=.returned (.string (tree (l.take k)))/\Below W.heap.size W w'):=fun W hW =>
    tree_spec k k (l.take k) (some ⟨b,off,none⟩) cap B W nl (by rw[List.length_take];omega) (by omega) (by omega) (fun j hj=>by rw[List.getElem_take];exact hr j _) ((Strs.take hb hc).after hW hB) (Nat.le_trans hB hW.size)
   have TR:Hid (∀ W:World,Below w.heap.size w W->Calls prog 57 #[.slice (some ⟨b,off+k,none⟩) (n-k) (cap-k)] W fun e w'=>e=.returned (.string (tree (l.drop k)))/\Below W.heap.size W w'):=fun W hW =>
    tree_spec (n-k) (n-k) (l.drop k) (some ⟨b,off+k,none⟩) (cap-k) B W nl (by rw[List.length_drop];omega) (by omega) (by omega) (fun j hj=>by rw[List.getElem_drop];exact hr _ _) ((Strs.drop hb hc).after hW hB) (Nat.le_trans hB hW.size)
   have PL:Hid (i<k->∀ W:World,Below w.heap.size w W->Calls prog 31 #[.slice (some ⟨b,off,none⟩) k cap,.int .i64 i] W fun e w'=>∃ v,e=.returned v/\OwnS w' W.heap.size v (path (l.take k) i)/\Below W.heap.size W w'):=fun hik W hW =>
    ih k i (l.take k) (some ⟨b,off,none⟩) cap B W (by omega) (by rw[List.length_take];omega) (by omega) hik (by omega) (by omega) (fun j hj=>by rw[List.getElem_take];exact hr j _) ((Strs.take hb hc).after hW hB) (Nat.le_trans hB hW.size)
   have PR:Hid (¬i<k->∀ W:World,Below w.heap.size w W->Calls prog 31 #[.slice (some ⟨b,off+k,none⟩) (n-k) (cap-k),.int .i64 ((i:Int)-k)] W fun e w'=>∃ v,e=.returned v/\OwnS w' W.heap.size v (path (l.drop k) (i-k))/\Below W.heap.size W w'):=fun hik W hW=>by
    have:=ih (n-k) (i-k) (l.drop k) (some ⟨b,off+k,none⟩) (cap-k) B W (by omega) (by rw[List.length_drop];omega) (by omega) (by omega) (by omega) (by omega) (fun j hj=>by rw[List.getElem_drop];exact hr _ _) ((Strs.drop hb hc).after hW hB) (Nat.le_trans hB hW.size)
    rw[show ((i-k:Nat):Int)=(i:Int)-k by omega]at this;exact this
   have i1:¬(n:Int)=1:=by omega
   have g1:(k:Int)<=cap:=by omega
   have g2:(k:Int)<=n:=by omega
   have g4:¬cap=k:=by omega
   have g5:IntKind.i64.wrap ((i:Int)-k)=(i:Int)-k:=by simp[IntKind.wrap,IntKind.bits,IntKind.signed];omega
   clear hc hr ih hk;by_cases hik:i<k
   ·have HE:=hideT (HPL.o hik)
    have hn3:(path (l.take k) i).length+1<=65:=by have:=HLE.o (l.take k) i (by rw[List.length_take];omega);rw[List.length_take]at this;omega
    have HPC:=hideT (PL.o hik);go_enter func31,ntmps31;(go_wp2_with fail);refine HH.o.mono ?_;rintro e w1 ⟨rfl,hw⟩;subst w1;(go_wp2_with fail)
    go_region_law (first|(refine step_append_own rfl (.tmp 20) (.tmp 25) 31 rfl w.heap.size 9 i0 (.string ⟨#[]⟩) 1 16 underlying31 hif hz0 hz1 hz2 rfl (by decide) v (path (l.take k) i).length ((path (l.take k) i).map Value.string) rfl (HO3.o.alloc _) ⟨w3.heap.size,0,none⟩ 1 1 [.string (tree (l.drop k))] rfl rfl (one_newS w3 _ _) (one_cellS _) (by unfold maxLen;omega) (by omega) (by have:=HB3.o.size;simp;omega) ?_;intro v' w4 hown4 hgrow;have HB4:=hideT (app_one HB3.o HB3.o.size nl HO3.o hgrow);have HO4:=hideT (OwnS.snoc hown4);clear hown4 hgrow)|(go_simp;go_at_call 31;(with_reducible refine(HPC.o _ ?_).mono ?_);(· exact(Below.refl _ _).drew);rintro e w2 ⟨v,rfl,ho2,hb2⟩;have HB2:=hideT (show Below w.heap.size w w2 from ⟨hb2.os,hb2.tape,hb2.output,hb2.size,hb2.block⟩);have HO2:=hideT (show OwnS w2 w.heap.size v (path (l.take k) i) from ho2);clear hb2 ho2)|(go_simp;go_at_call 57;(with_reducible refine(TR.o w2 HB2.o).mono ?_);rintro e w3 ⟨rfl,hb3⟩;have HB3:=hideT (HB2.o.trans (hb3.mono HB2.o.size));have HO3:=hideT (HO2.o.below hb3);clear hb3))
    all_goals (try go_wp2_with fail)
    all_goals go_ret
    all_goals exact⟨_,rfl,by rw[HE.o];exact HO4.o,HB4.o⟩
   ·have HE:=hideT (HPR.o hik)
    have hn3:(path (l.drop k) (i-k)).length+1<=65:=by have:=HLE.o (l.drop k) (i-k) (by rw[List.length_drop];omega);rw[List.length_drop]at this;omega
    have HPC:=hideT (PR.o hik);go_enter func31,ntmps31;(go_wp2_with fail);refine HH.o.mono ?_;rintro e w1 ⟨rfl,hw⟩;subst w1;(go_wp2_with fail)
    go_region_law (first|(refine step_append_own rfl (.tmp 33) (.tmp 38) 31 rfl w.heap.size 9 i0 (.string ⟨#[]⟩) 1 16 underlying31 hif hz0 hz1 hz2 rfl (by decide) v (path (l.drop k) (i-k)).length ((path (l.drop k) (i-k)).map Value.string) rfl (HO3.o.alloc _) ⟨w3.heap.size,0,none⟩ 1 1 [.string (tree (l.take k))] rfl rfl (one_newS w3 _ _) (one_cellS _) (by unfold maxLen;omega) (by omega) (by have:=HB3.o.size;simp;omega) ?_;intro v' w4 hown4 hgrow;have HB4:=hideT (app_one HB3.o HB3.o.size nl HO3.o hgrow);have HO4:=hideT (OwnS.snoc hown4);clear hown4 hgrow)|(go_simp;go_at_call 31;(with_reducible refine(HPC.o _ ?_).mono ?_);(· exact(Below.refl _ _).drew);rintro e w2 ⟨v,rfl,ho2,hb2⟩;have HB2:=hideT (show Below w.heap.size w w2 from ⟨hb2.os,hb2.tape,hb2.output,hb2.size,hb2.block⟩);have HO2:=hideT (show OwnS w2 w.heap.size v (path (l.drop k) (i-k)) from ho2);clear hb2 ho2)|(go_simp;go_at_call 57;(with_reducible refine(TL.o w2 HB2.o).mono ?_);rintro e w3 ⟨rfl,hb3⟩;have HB3:=hideT (HB2.o.trans (hb3.mono HB2.o.size));have HO3:=hideT (HO2.o.below hb3);clear hb3))
    all_goals (try go_wp2_with fail)
    all_goals go_ret
    all_goals exact⟨_,rfl,by rw[HE.o];exact HO4.o,HB4.o⟩
end Tr
end Go.Proofs.YtbdcffjcogglbaaGreatDoor
