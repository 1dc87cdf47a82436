/- Texts put together: ShaDigest, PlRow, ShaTop, NodeTop, TreePlain, TreeHalf, OnesWalks, TreeLen, TreeRight, TreeWalks, TreeSpec, InclPlain, AppFresh, AppKeep. -/
import Derived.Test.YtpddanmnlkcdpaaGreatDoorHz4
import Derived.Test.YtpddanmnlkcdpaaGreatDoorHz42
import Derived.Test.YtpddanmnlkcdpaaGreatDoorHz22
import Derived.Test.YtpddanmnlkcdpaaGreatDoorHz30
import Derived.Test.YtpddanmnlkcdpaaGreatDoorHz27
import Derived.Test.YtpddanmnlkcdpaaGreatDoorHz13
import Derived.Test.YtpddanmnlkcdpaaGreatDoorHz32
import Derived.Test.YtpddanmnlkcdpaaGreatDoorHz21
import Derived.Test.YtpddanmnlkcdpaaGreatDoorHz11
import Derived.Test.YtpddanmnlkcdpaaGreatDoorChecked
import Derived.Shelf.Strconv.Itoa0
import Derived.BigRegion
import Derived.BigQuiet
import Derived.Deep.QuietTactic
import Derived.Deep.RegionWith
import Derived.Laws.AppendOwn
import Derived.WalkKit
import Derived.Below
set_option maxRecDepth 100000
set_option maxHeartbeats 8000000
namespace Go.Proofs.YtpddanmnlkcdpaaGreatDoor.Sh
open Go.RowKit
def Vars (w:World):Prop:=IsV w 2 .u32 8 firstF/\IsV w 3 .u32 64 keyF
theorem Vars.below {w w':World} {B:Nat} (h:Vars w) (b:Below B w w') (hB:3 + 1<=B):Vars w':=⟨h.1.below b (by omega),h.2.below b (by omega)⟩
theorem Vars.two {w:World} (h:Vars w):3 + 1<=w.heap.size:=h.2.lt
theorem zero8:(#[.int .u32 0,.int .u32 0,.int .u32 0,.int .u32 0,.int .u32 0,.int .u32 0,.int .u32 0,.int .u32 0]:Array Value)=rowF .u32 8 (fun _=>0):=by rfl
theorem digestOf_any (t:ByteArray) (w:World) (ht:t.size<=1048576) (hV:Vars w) :
  Calls Tryz.prog 222 #[.string t] w fun e w'=>e=.returned (.string (sha t))/\Below w.heap.size w w':=by
 have HV:=hideS hV
 have HF:=hideS hV.1
 have HK:=hideS hV.2
 have h2:=hV.two
 clear hV
 go_enter Tryz.func222,Tryz.ntmps222
 go_wp2_with (first|((with_reducible refine wpList_load_var HF.out Tryz.underlying293 Tryz.size293 ?_ ?_);(· rfl))|((with_reducible refine wpList_store_row' (IsB.of_list w 293 .u32 8 (fun _=>0) _ zero8) Tryz.size293 firstF ?_ ?_ ?_);(· rfl);(· rfl);intro w2 hi2 hB2 hz2 ho2;have HS2:=hideS hi2;have HZ2:=hideS (show w2.heap.size=w.heap.size+1 by rw[hz2];simp);have HW2:=hideS (((Below.refl w.heap.size w).alloc (Nat.le_refl _) _).trans (hB2 _ (Nat.le_refl _)));clear hi2 hB2 hz2 ho2))
 have hz:=HZ2.out
 obtain⟨ch,hch⟩:∃ c,c=chunks t.size:=⟨_,rfl⟩
 have hr:=chunks_room t.size
 have hti:=chunks_tight t.size
 refine(fill_any t w2 ht).mono ?_
 rw[hz,<-hch]
 rw[<-hch]at hr hti
 rintro e w3 ⟨rfl,hp3,hb3⟩
 have HCH:=hideS hch
 have HP3:=hideS hp3
 have HS3:=hideS (HS2.out.below hb3 (by omega))
 have HW3:=hideS (HW2.out.trans (hb3.mono (by omega)))
 have HZ3:=hideS (show w.heap.size+2<=w3.heap.size from hp3.lt)
 clear hp3 hb3 hch hz HS2 HW2
 go_wp2_with fail
 go_loopw [5] (fun i wr=>∃ k:Nat,i=.int .i64 (64*(k:Int))/\k<=ch/\IsB wr w.heap.size 293 .u32 8 (shaS t k)/\IsB wr (w.heap.size+1) 5 .u8 (ch*64) (fun j=>(pad t j:Nat))/\Below w.heap.size w wr/\w.heap.size+2<=wr.heap.size) (fun i _=>ch*64-(intOf i).toNat)
 case atStart=>exact⟨0,rfl,Nat.zero_le _,HS3.out,HP3.out,HW3.out,HZ3.out⟩
 case round =>
  obtain⟨k,rfl,hk,h1,hp,hbel,hsz⟩:=hrel
  have G1:=hideS h1
  have GP:=hideS hp
  have GW:=hideS hbel
  have GK:=hideS (HK.out.below hbel (by omega))
  clear h1 hp hbel
  by_cases hlt:k<ch
  ·have e1:64*(k:Int)<(ch:Int)*64:=by omega
   have e2:(64*(k:Int)).toNat=64*k:=by omega
   have e3:(64*(k:Int)+64).toNat=64*k+64:=by omega
   have e4:64*k+64-64*k=64:=by omega
   have e5:IntKind.i64.wrap (64*(k:Int)+64)=64*(k:Int)+64:=by simp[IntKind.wrap,IntKind.bits,IntKind.signed];omega
   have e6:64*(k:Int)+64<=(ch:Int)*64:=by omega
   have e7:0<=64*(k:Int)+64:=by omega
   have e8:0<=64*(k:Int):=by omega
   have e9:64*(k:Int)<=64*(k:Int)+64:=by omega
   have e10:¬ch*64=64*k:=by omega
   have HC:Hid (∀ j,j<64->wr.cell? ⟨w.heap.size+1,64*k+j,none⟩=some (.int .u8 (blkB t k j:Nat))):=fun j hj=>GP.out.cell (by omega)
   go_wp2_with fail
   refine wp_region_still_tail 6 Tryz.checked.mixed (by kernel_rfl) ?_
   simp only[List.take_succ_cons,List.take_zero,List.drop_succ_cons,List.drop_zero]
   refine wpStill_load_row (show IsB _ w.heap.size 293 .u32 8 (shaS t k) from G1.out) Tryz.underlying293 Tryz.size293 rfl ?_
   repeat still_step
   refine wpStill_nil ?_
   go_wp2_with fail
   refine(take_any (shaS t k) (w.heap.size+1) (64*k) (ch*64-64*k) (blkB t k) wr.drew (blkB_lt t k) (show w.heap.size+1<wr.heap.size by omega) HC.out (by omega) (show IsV wr 3 _ _ _ from GK.out)).mono ?_
   rintro e w4 ⟨rfl,hb4⟩
   have hb5:Below wr.heap.size wr w4:=⟨hb4.os,hb4.tape,hb4.output,hb4.size,hb4.block⟩
   have J1:=hideS (G1.out.below hb5 (by omega))
   have JP:=hideS (GP.out.below hb5 (by omega))
   have JW:=hideS (GW.out.trans (hb5.mono (by omega)))
   have hsz4:w.heap.size+2<=w4.heap.size:=by have:=hb5.size;omega
   clear hb4 hb5
   go_wp2_with ((with_reducible refine wpList_store_row' J1.out Tryz.size293 (blk (blkB t k) (shaS t k)) ?_ ?_ ?_);(· rfl);(· rfl);intro w5 hi5 hB5 hz5 ho5;have L1:=hideS hi5;have LP:=hideS (JP.out.of_heap (ho5 _ (by omega)));have LW:=hideS (JW.out.trans (hB5 _ (Nat.le_refl _)));have LZ:=hideS (show w.heap.size+2<=w5.heap.size by omega);clear hi5 hB5 hz5 ho5)
   go_roundw
   case rel=>exact⟨k+1,by go_num,by omega,L1.out,LP.out,LW.out,LZ.out⟩
   case measure=>simp[intOf];omega
  ·have HS:Hid (shaS t k=shaS t (chunks t.size)):=by
    unfold Hid
    rw[<-HCH.out]
    congr 1
    omega
   have e1:¬64*(k:Int)<(ch:Int)*64:=by omega
   go_wp2_with fail
   go_loopw [24] (fun i wo=>∃ m:Nat,i=.int .i64 m/\m<=32/\IsB wo wr.heap.size 296 .u8 32 (fun j=>(outK (shaS t k) m j:Nat))/\IsB wo w.heap.size 293 .u32 8 (shaS t k)/\Below w.heap.size w wo) (fun i _=>32-(intOf i).toNat)
   case atStart=>exact⟨0,rfl,by omega,IsB.of_list wr 296 .u8 32 _ _ (by rfl),G1.out.alloc _,GW.out.alloc (by omega) _⟩
   case round =>
    obtain⟨m,rfl,hm,o1,o2,o3⟩:=hrel
    have O1:=hideS o1
    have O2:=hideS o2
    by_cases hl32:m<32
    ·obtain⟨x,hx⟩:∃ x,x=shaS t k (m/4):=⟨_,rfl⟩
     have HV:Hid (x/2 ^ (24-8*(m%4))%256=((outF (shaS t k) m:Nat):Int)):=by
      unfold Hid
      rw[hx]
      exact outF_cast _ _
     have d1:((m:Int)/4).toNat=m/4:=by omega
     have d2:(24-8*((m:Int)%4)).toNat=24-8*(m%4):=by omega
     have d3:0<=24-8*((m:Int)%4):=by omega
     have d4:(m:Int)/4<8:=by omega
     have d5:0<=(m:Int)/4:=by omega
     have cs:wr.cell? ⟨w.heap.size,m/4,none⟩=some (.int .u32 x):=by rw[o2.cell (by omega),hx]
     have co:=o1.cell hl32
     have cf:=o1.frozen m
     clear o1 o2 hx
     go_wp2_with fail
     go_roundw
     case rel =>
      rw[HV.out]
      exact⟨m+1,by go_num,by omega,IsB.congr (O1.out.set m _) (fun j _=>outK_next _ m j _ rfl),O2.out.set_other _ _ (by simp;omega),o3.setCell (by simp;omega) _⟩
     case measure=>simp[intOf];omega
    ·obtain rfl:m=32:=by omega
     have hcv:=o1.str (P:=Tryz.prog) (src:=168) (dst:=9) 32 32 (Nat.le_refl _) (fun j _=>outK_lt _ _ _) Tryz.underlying168 Tryz.underlying5 Tryz.underlying9
     have HR:=hideS (outK_all (shaS t k))
     clear o1 o2
     go_wp2_with fail
     go_ret
     refine⟨Nu.ret_strJ ?_,o3⟩
     rw[HR.out,HS.out]
     rfl
end Go.Proofs.YtpddanmnlkcdpaaGreatDoor.Sh


/- Letters in memory: as a slice sees them, and as a row that a call owns. -/
namespace Go.Proofs.YtpddanmnlkcdpaaGreatDoor.Pl
open Go.RowKit
open Kp
open St (Strs OwnS)
structure Snt where
 who:ByteArray
 kind:Int
 index:Int
 piece:ByteArray
 path:List ByteArray
abbrev ML:=Snt × Value
def sntV (x:ML):Value:=.agg #[.string x.1.who,.int .i64 x.1.kind,.int .i64 x.1.index,.string x.1.piece,x.2]
def cellsL:List ML->List Value
 |[]=>[]
 |x :: m=>.string x.1.who :: .int .i64 x.1.kind :: .int .i64 x.1.index :: .string x.1.piece :: x.2 :: cellsL m
theorem cellsL_append:∀ m k:List ML,cellsL (m++k)=cellsL m++cellsL k
 |[],k=>rfl
 |x :: m,k=>by
  rw[List.cons_append,cellsL,cellsL,cellsL_append m k]
  rfl
theorem cellsL_at:∀ (m:List ML) (i:Nat) (h:i<m.length),(cellsL m)[i*5]? = some (.string m[i].1.who)/\(cellsL m)[i*5+1]? = some (.int .i64 m[i].1.kind)/\(cellsL m)[i*5+2]? = some (.int .i64 m[i].1.index)/\(cellsL m)[i*5+3]? = some (.string m[i].1.piece)/\(cellsL m)[i*5+4]? = some m[i].2
 |x :: m,0,_=>⟨rfl,rfl,rfl,rfl,rfl⟩
 |x :: m,i+1,h=>by
  have:=cellsL_at m i (Nat.lt_of_succ_lt_succ h)
  rw[cellsL,show (i+1)*5=i*5+5 by omega,show i*5+5+1=(i*5+1)+5 by omega,show i*5+5+2=(i*5+2)+5 by omega,show i*5+5+3=(i*5+3)+5 by omega,show i*5+5+4=(i*5+4)+5 by omega]
  exact this
def PathAt (W:World) (B:Nat) (x:ML):Prop:=∃ a cap,x.2=.slice a x.1.path.length cap/\x.1.path.length<=cap/\Strs W B a x.1.path
theorem PathAt.below {W W':World} {B:Nat} {x:ML} (h:PathAt W B x) (hb:Below B W W'):PathAt W' B x:=by
 obtain⟨a,cap,hv,hc,hi⟩:=h
 exact⟨a,cap,hv,hc,hi.below hb⟩
theorem PathAt.mono {W:World} {B C:Nat} {x:ML} (h:PathAt W B x) (hB:B<=C):PathAt W C x:=by
 obtain⟨a,cap,hv,hc,hi⟩:=h
 exact⟨a,cap,hv,hc,hi.mono hB⟩
def FiveL (W:World) (b o:Nat) (x:ML):Prop:=W.cell? ⟨b,o,none⟩=some (.string x.1.who)/\W.cell? ⟨b,o+1,none⟩=some (.int .i64 x.1.kind)/\W.cell? ⟨b,o+2,none⟩=some (.int .i64 x.1.index)/\W.cell? ⟨b,o+3,none⟩=some (.string x.1.piece)/\W.cell? ⟨b,o+4,none⟩=some x.2
theorem FiveL.below {W W':World} {B b o:Nat} {x:ML} (h:FiveL W b o x) (hb:Below B W W') (hlt:b<B):FiveL W' b o x:=by
 obtain⟨h0,h1,h2,h3,h4⟩:=h
 exact⟨(hb.cell (p:=⟨b,o,none⟩) hlt).trans h0,(hb.cell (p:=⟨b,o+1,none⟩) hlt).trans h1,(hb.cell (p:=⟨b,o+2,none⟩) hlt).trans h2,(hb.cell (p:=⟨b,o+3,none⟩) hlt).trans h3,(hb.cell (p:=⟨b,o+4,none⟩) hlt).trans h4⟩
def Snts (W:World) (B:Nat) (a:Option Addr) (m:List ML):Prop :=
 (m=[]∨∃ b off,a=some ⟨b,off,none⟩/\b<B/\∀ j (h:j<m.length),FiveL W b (off+j*5) m[j])/\∀ x∈m,PathAt W B x
theorem Snts.below {W W':World} {B:Nat} {a:Option Addr} {m:List ML} (h:Snts W B a m) (hb:Below B W W'):Snts W' B a m:=by
 refine⟨?_,fun x hx=>(h.2 x hx).below hb⟩
 rcases h.1 with h0|⟨b,off,rfl,hlt,hc⟩
 ·exact .inl h0
 ·exact .inr ⟨b,off,rfl,hlt,fun j hj=>(hc j hj).below hb hlt⟩
theorem Snts.mono {W:World} {B C:Nat} {a:Option Addr} {m:List ML} (h:Snts W B a m) (hB:B<=C):Snts W C a m:=by
 refine⟨?_,fun x hx=>(h.2 x hx).mono hB⟩
 rcases h.1 with h0|⟨b,off,rfl,hlt,hc⟩
 ·exact .inl h0
 ·exact .inr ⟨b,off,rfl,Nat.lt_of_lt_of_le hlt hB,hc⟩
theorem Snts.some {W:World} {B:Nat} {a:Option Addr} {m:List ML} (h:Snts W B a m) (hl:0<m.length):∃ b off,a=.some ⟨b,off,none⟩/\b<B/\∀ j (h:j<m.length),FiveL W b (off+j*5) m[j]:=by
 rcases h.1 with h0|h
 ·subst h0;simp at hl
 ·exact h
def snts (m:List ML):List Snt:=m.map (·.1)
theorem snts_length (m:List ML):(snts m).length=m.length:=List.length_map ..
theorem snts_get (m:List ML) (j:Nat) (h:j<m.length):(snts m)[j]'(by rw[snts_length];exact h)=m[j].1:=by simp[snts]
def OwnL (W:World) (base:Nat) (v:Value) (m:List ML):Prop:=W.ownsRow base 114 5 v m.length (cellsL m)
theorem OwnL.nil (w:World) (base:Nat):OwnL w base (.slice none 0 0) []:=World.ownsRow_nil w base _ _
theorem OwnL.alloc {W:World} {base:Nat} {v:Value} {m:List ML} (h:OwnL W base v m) (o:Obj):OwnL (W.alloc o) base v m:=World.ownsRow.alloc h o
theorem OwnL.below {w w':World} {base:Nat} {v:Value} {m:List ML} (h:OwnL w base v m) (b:Below w.heap.size w w'):OwnL w' base v m:=by
 obtain⟨hl,h⟩:=h
 refine⟨hl,?_⟩
 rcases h with h|⟨g,cap,cur,hv,hg,hb,rest⟩
 ·exact .inl h
 ·exact .inr ⟨g,cap,cur,hv,hg,by rw[b.block g (lt_rowK hb)];exact hb,rest⟩
theorem OwnL.mono {w:World} {base base':Nat} {v:Value} {m:List ML} (h:OwnL w base v m) (hb:base'<=base):OwnL w base' v m:=by
 obtain⟨hl,h⟩:=h
 refine⟨hl,?_⟩
 rcases h with h|⟨g,cap,cur,hv,hg,rest⟩
 ·exact .inl h
 ·exact .inr ⟨g,cap,cur,hv,Nat.le_trans hb hg,rest⟩
theorem OwnL.one {W:World} {base:Nat} {v:Value} {m:List ML} (h:OwnL W base v m):∃ a cap,v=.slice a m.length cap/\m.length<=cap/\(a=none->cap=0):=by
 obtain⟨_,h⟩:=h
 rcases h with⟨h,h0⟩|⟨g,cap,cur,hv,_,_,hn,_⟩
 ·exact⟨none,0,by rw[h,h0],by omega,fun _=>rfl⟩
 ·exact⟨_,cap,hv,hn,fun h=>by cases h⟩
theorem OwnL.cells {W:World} {base:Nat} {v:Value} {m:List ML} (h:OwnL W base v m) (h0:0<m.length):∃ g cap,v=.slice (some ⟨g,0,none⟩) m.length cap/\base<=g/\g<W.heap.size/\m.length<=cap/\∀ i (hi:i<m.length),FiveL W g (i*5) m[i]:=by
 obtain⟨_,h⟩:=h
 rcases h with⟨_,h⟩|⟨g,cap,cur,hv,hg,hb,hn,_,hs,ht⟩
 ·omega
 ·refine⟨g,cap,hv,hg,lt_rowK hb,hn,fun i hi=>?_⟩
  have hc:=cellsL_at m i hi
  rw[<-ht]at hc
  rw[List.getElem?_take_of_lt (by omega),List.getElem?_take_of_lt (by omega),List.getElem?_take_of_lt (by omega),List.getElem?_take_of_lt (by omega),List.getElem?_take_of_lt (by omega),Array.getElem?_toList,Array.getElem?_toList,Array.getElem?_toList,Array.getElem?_toList,Array.getElem?_toList]at hc
  exact⟨(cell_of_row W g _ _ _ _ hb).trans hc.1,(cell_of_row W g _ _ _ _ hb).trans hc.2.1,(cell_of_row W g _ _ _ _ hb).trans hc.2.2.1,(cell_of_row W g _ _ _ _ hb).trans hc.2.2.2.1,(cell_of_row W g _ _ _ _ hb).trans hc.2.2.2.2⟩
theorem OwnL.snoc {W:World} {base:Nat} {v:Value} {m:List ML} {x:ML} (h:W.ownsRow base 114 5 v (m.length+1) (cellsL m++[.string x.1.who,.int .i64 x.1.kind,.int .i64 x.1.index,.string x.1.piece,x.2])):OwnL W base v (m++[x]):=by
 unfold OwnL
 rw[List.length_append,cellsL_append]
 exact h
def Pths (W:World) (base:Nat) (m:List ML):Prop:=∀ x∈m,OwnS W base x.2 x.1.path
theorem Pths.below {W W':World} {base:Nat} {m:List ML} (h:Pths W base m) (hb:Below W.heap.size W W'):Pths W' base m:=fun x hx=>(h x hx).below hb
theorem Pths.mono {W:World} {base base':Nat} {m:List ML} (h:Pths W base m) (hb:base'<=base):Pths W base' m:=fun x hx=>(h x hx).mono hb
theorem own_snts {W:World} {base n:Nat} {a:Option Addr} {cap:Nat} {m:List ML} (h:OwnL W base (.slice a n cap) m) (hp:Pths W base m):Snts W W.heap.size a m/\m.length=n:=by
 obtain⟨a',c',hv,_,_⟩:=h.one
 obtain⟨rfl,rfl,rfl⟩:a=a'/\n=m.length/\cap=c':=by simpa using hv
 refine⟨⟨?_,fun x hx=>?_⟩,rfl⟩
 ·by_cases h0:0<m.length
  ·obtain⟨g,cap,hv,_,hg,_,hc⟩:=h.cells h0
   refine .inr ⟨g,0,?_,hg,fun j hj=>by rw[Nat.zero_add];exact hc j hj⟩
   simp at hv
   exact hv.1
  ·exact .inl (List.eq_nil_of_length_eq_zero (by omega))
 ·obtain⟨a,cap,hv,hc,hs⟩:=(hp x hx).strs
  exact⟨a,cap,hv,hc,hs⟩
end Go.Proofs.YtpddanmnlkcdpaaGreatDoor.Pl


/- What both Digest answer, and the law on it. -/
namespace Go.Proofs.YtpddanmnlkcdpaaGreatDoor.Sh
open Go.RowKit
theorem all_any (t:ByteArray) (w:World) (ht:t.size<=1048576) :
  Calls Tryz.prog 167 #[.string t] w fun e w'=>e=.returned (.string (sha t))/\Below w.heap.size w w' :=
 all_of (fun s gs c t w h1 h2 h3 h4=>block_any s gs c t w h1 h2 h3 h4) t w ht
def digestV (t:ByteArray):ByteArray:=if t.size<=8000 then sha t else ⟨#[]⟩
theorem digest_impl (t:ByteArray) (w:World) (ht:t.size<=maxLen) (hV:Vars w) :
  Calls Tryz.prog 200 #[.string t] w fun e w'=>e=.returned (.string (digestV t))/\Below w.heap.size w w':=by
 unfold maxLen at ht
 have HV:=hideS hV
 clear hV
 by_cases h:8000<t.size
 ·have HP:=hideS (show digestV t=⟨#[]⟩ by unfold digestV;rw[if_neg (by omega)])
  go_enter Tryz.func200,Tryz.ntmps200
  go_wp2_with fail
  go_ret
  exact⟨Nu.ret_strJ HP.out.symm,Below.refl _ _⟩
 ·have HP:=hideS (show digestV t=sha t by unfold digestV;rw[if_pos (by omega)])
  go_enter Tryz.func200,Tryz.ntmps200
  go_wp2_with fail
  refine(digestOf_any t w (by omega) HV.out).mono ?_
  rintro e w1 ⟨rfl,hb1⟩
  go_wp2_with fail
  go_ret
  exact⟨Nu.ret_strJ HP.out.symm,hb1⟩
end Go.Proofs.YtpddanmnlkcdpaaGreatDoor.Sh


/- What both LeafHash and both NodeHash answer. -/
namespace Go.Proofs.YtpddanmnlkcdpaaGreatDoor.Sh
open Go.RowKit
theorem below3 {w w1 w2 w3:World} (h1:Below w.heap.size w w1) (h2:Below w1.heap.size w1 w2) (h3:Below w2.heap.size w2 w3):Below w.heap.size w w3 :=
 have a:=h1.trans (h2.mono h1.size)
 a.trans (h3.mono a.size)
def leafV (t:ByteArray):ByteArray:=sha (⟨#[0]⟩++t)
def nodeV (a b:ByteArray):ByteArray:=sha (⟨#[1]⟩++a++b)
theorem nodeV_size (a b:ByteArray):(nodeV a b).size=32:=sha_size _
theorem mark0_size (t:ByteArray):((⟨#[0]⟩:ByteArray)++t).size=1+t.size:=by
 rw[ByteArray.size_append]
 rfl
theorem mark1_size (t:ByteArray):((⟨#[1]⟩:ByteArray)++t).size=1+t.size:=by
 rw[ByteArray.size_append]
 rfl
theorem l03Leaf_any (t:ByteArray) (w:World) (ht:t.size<=8000) :
  Calls Tryz.prog 134 #[.string t] w fun e w'=>e=.returned (.string (leafV t))/\Below w.heap.size w w':=by
 go_enter Tryz.func134,Tryz.ntmps134
 go_wp2_with fail
 refine(all_any _ w (by rw[mark0_size];omega)).mono ?_
 rintro e w1 ⟨rfl,hb1⟩
 go_wp2_with fail
 go_ret
 exact⟨rfl,hb1⟩
theorem l03Node_any (a b:ByteArray) (w:World) (ha:a.size<=8000) (hb:b.size<=8000) :
  Calls Tryz.prog 166 #[.string a,.string b] w fun e w'=>e=.returned (.string (nodeV a b))/\Below w.heap.size w w':=by
 go_enter Tryz.func166,Tryz.ntmps166
 go_wp2_with fail
 refine(all_any _ w (by rw[ByteArray.size_append,mark1_size];omega)).mono ?_
 rintro e w1 ⟨rfl,hb1⟩
 go_wp2_with fail
 go_ret
 exact⟨rfl,hb1⟩
def leafR (t:ByteArray):ByteArray:=if 100<t.size then ⟨#[]⟩ else leafV t
theorem leafR_no (t:ByteArray) (h:100<t.size):leafR t=⟨#[]⟩:=if_pos h
theorem leafR_yes (t:ByteArray) (h:¬100<t.size):leafR t=leafV t:=if_neg h
def nodeR (a b:ByteArray):ByteArray:=if a.size=32/\b.size=32 then nodeV a b else ⟨#[]⟩
theorem nodeR_no (a b:ByteArray) (h:¬(a.size=32/\b.size=32)):nodeR a b=⟨#[]⟩:=if_neg h
theorem nodeR_yes (a b:ByteArray) (h:a.size=32) (h':b.size=32):nodeR a b=nodeV a b:=if_pos ⟨h,h'⟩
theorem leaf_impl (t:ByteArray) (w:World) (ht:t.size<=maxLen) (hV:Vars w) :
  Calls Tryz.prog 175 #[.string t] w fun e w'=>e=.returned (.string (leafR t))/\Below w.heap.size w w':=by
 have HT:=hideS ht
 unfold maxLen at ht
 have HV:=hideS hV
 have h2:=hV.two
 clear hV
 by_cases h:100<t.size
 ·have HP:=hideS (leafR_no t h)
  go_enter Tryz.func175,Tryz.ntmps175
  go_wp2_with fail
  go_ret
  exact⟨Nu.ret_strJ HP.out.symm,Below.refl _ _⟩
 ·have HP:=hideS (leafR_yes t h)
  have HD:=hideS (show digestV (⟨#[0]⟩++t)=leafV t by unfold digestV leafV;rw[if_pos (by rw[mark0_size];omega)])
  go_enter Tryz.func175,Tryz.ntmps175
  go_wp2_with fail
  refine(Nu.join_any ⟨#[0]⟩ t w (by rw[show (⟨#[0]⟩:ByteArray).size=1 from rfl];omega)).mono ?_
  rintro e w1 ⟨rfl,hb1⟩
  go_wp2_with fail
  refine(digest_impl _ _ (by rw[mark0_size];unfold maxLen;omega) (HV.out.below hb1 h2)).mono ?_
  rintro e w2 ⟨rfl,hb2⟩
  have HB:=hideS (hb1.trans (hb2.mono hb1.size))
  clear hb1 hb2
  go_wp2_with fail
  go_ret
  exact⟨Nu.ret_strJ (HD.out.trans HP.out.symm),HB.out⟩
theorem node_impl (a b:ByteArray) (w:World) (hV:Vars w) :
  Calls Tryz.prog 233 #[.string a,.string b] w fun e w'=>e=.returned (.string (nodeR a b))/\Below w.heap.size w w':=by
 have HV:=hideS hV
 have h2:=hV.two
 clear hV
 by_cases h:a.size=32
 ·by_cases h':b.size=32
  ·have HP:=hideS (nodeR_yes a b h h')
   have HD:=hideS (show digestV (⟨#[1]⟩++(a++b))=nodeV a b by unfold digestV nodeV;rw[if_pos (by rw[mark1_size,ByteArray.size_append];omega),ByteArray.append_assoc])
   go_enter Tryz.func233,Tryz.ntmps233
   go_wp2_with fail
   refine(Nu.join_any a b w (by omega)).mono ?_
   rintro e w1 ⟨rfl,hb1⟩
   go_wp2_with fail
   refine(Nu.join_any ⟨#[1]⟩ (a++b) _ (by rw[show (⟨#[1]⟩:ByteArray).size=1 from rfl,ByteArray.size_append];omega)).mono ?_
   rintro e w2 ⟨rfl,hb2⟩
   go_wp2_with fail
   refine(digest_impl _ _ (by rw[mark1_size,ByteArray.size_append];unfold maxLen;omega) ((HV.out.below hb1 h2).below hb2 (by have:=hb1.size;omega))).mono ?_
   rintro e w3 ⟨rfl,hb3⟩
   have HB:=hideS (below3 hb1 hb2 hb3)
   clear hb1 hb2 hb3
   go_wp2_with fail
   go_ret
   exact⟨Nu.ret_strJ (HD.out.trans HP.out.symm),HB.out⟩
  ·have HP:=hideS (nodeR_no a b (fun x=>h' x.2))
   go_enter Tryz.func233,Tryz.ntmps233
   go_wp2_with fail
   go_ret
   exact⟨Nu.ret_strJ HP.out.symm,Below.refl _ _⟩
 ·have HP:=hideS (nodeR_no a b (fun x=>h x.1))
  go_enter Tryz.func233,Tryz.ntmps233
  go_wp2_with fail
  go_ret
  exact⟨Nu.ret_strJ HP.out.symm,Below.refl _ _⟩
end Go.Proofs.YtpddanmnlkcdpaaGreatDoor.Sh


/- Plain mathematics of trees of digests: where a list is cut, the tree of a list of texts. -/
namespace Go.Proofs.YtpddanmnlkcdpaaGreatDoor.Tr
open Sh (sha sha_size leafV nodeV nodeV_size)
def half (n:Nat):Nat:=2 ^ Nat.log2 (n-1)
theorem half_pos (n:Nat):1<=half n:=Nat.one_le_two_pow
theorem half_lt (n:Nat) (h:2<=n):half n<n:=by
 have:=Nat.log2_self_le (n:=n-1) (by omega)
 unfold half
 omega
theorem half_two (n:Nat) (h:2<=n):n<=2*half n:=by
 have:=Nat.lt_log2_self (n:=n-1)
 unfold half
 rw[Nat.pow_succ]at this
 omega
def tree (l:List ByteArray):ByteArray :=
 if h0:l.length=0 then sha ⟨#[]⟩
 else if h1:l.length=1 then leafV (l[0]'(by omega))
 else nodeV (tree (l.take (half l.length))) (tree (l.drop (half l.length)))
termination_by l.length
decreasing_by
 ·have:=half_lt l.length (by omega)
  simp
  omega
 ·have:=half_pos l.length
  simp
  omega
def right (l:List ByteArray):Bool:=decide (l.length<=64) && l.all (fun s=>decide (s.size<=100))
def treeR (l:List ByteArray):ByteArray:=if right l=true then tree l else ⟨#[]⟩
end Go.Proofs.YtpddanmnlkcdpaaGreatDoor.Tr


/- Where a list is cut: spec.l03Half by doubling, impl.firstPart by the number of bits (math/bits.Len64). -/
namespace Go.Proofs.YtpddanmnlkcdpaaGreatDoor.Tr
open Go.RowKit
open St (hideT)
theorem ret_int {a b:Int} (h:a=b):Ending.returned (.int .i64 a)=.returned (.int .i64 b):=by rw[h]
def len (x:Nat):Nat:=if x=0 then 0 else Nat.log2 x+1
end Go.Proofs.YtpddanmnlkcdpaaGreatDoor.Tr


/- The walks of math/bits.OnesCount64 (for small numbers) and spec.l03Ones. -/
namespace Go.Proofs.YtpddanmnlkcdpaaGreatDoor.Tr
open Go.RowKit
open St (hideT)
end Go.Proofs.YtpddanmnlkcdpaaGreatDoor.Tr


namespace Go.Proofs.YtpddanmnlkcdpaaGreatDoor.Tr
open Go.RowKit
open St (hideT)
def renL:Go.Shelf.Ren:=⟨fun _=>153,fun k=>if k=53 then 201 else if k=46 then 164 else if k=3 then 3 else if k=4 then 4 else if k=5 then 5 else 9,fun k=>k⟩
theorem laysL:Lays.n129 Tryz.prog renL where
 mixed:=by kernel_rfl
 f129:=by kernel_rfl
 t3:=by kernel_rfl
 a3:=fun w=>by kernel_rfl
 z3:=fun w=>by kernel_rfl
 v3:=fun w=>by kernel_rfl
 t4:=by kernel_rfl
 a4:=fun w=>by kernel_rfl
 z4:=fun w=>by kernel_rfl
 v4:=fun w=>by kernel_rfl
 t5:=by kernel_rfl
 a5:=fun w=>by kernel_rfl
 z5:=fun w=>by kernel_rfl
 v5:=fun w=>by kernel_rfl
 t9:=by kernel_rfl
 a9:=fun w=>by kernel_rfl
 z9:=fun w=>by kernel_rfl
 v9:=fun w=>by kernel_rfl
 t46:=by kernel_rfl
 a46:=fun w=>by kernel_rfl
 z46:=fun w=>by kernel_rfl
 v46:=fun w=>by kernel_rfl
 t53:=by kernel_rfl
 a53:=fun w=>by kernel_rfl
 z53:=fun w=>by kernel_rfl
 v53:=fun w=>by kernel_rfl
theorem len64_any (x:Nat) (w:World) (h:x<18446744073709551616) :
  Calls Tryz.prog 153 #[.int .u64 x] w fun e w'=>e=.returned (.int .i64 (Lib.bitLen x))/\w'=w:=by
 have:=Any.bits_Len64 laysL x w (by omega) (by omega)
 rw[Int.toNat_natCast]at this
 exact this
theorem bitLen_log (x:Nat) (h0:x≠0) (h:x<18446744073709551616):Lib.bitLen x=Nat.log2 x+1:=by
 induction x using Nat.strongRecOn with
 |ind x ih =>
  rw[Lib.bitLen_half x h0 h]
  by_cases h1:x/2=0
  ·have:x=1:=by omega
   subst this
   rfl
  ·rw[ih (x/2) (by omega) h1 (by omega)]
   have:Nat.log2 x=Nat.log2 (x/2)+1:=by
    refine(Nat.log2_eq_iff h0).2 ⟨?_,?_⟩
    ·have:=Nat.log2_self_le h1
     rw[Nat.pow_succ]
     omega
    ·have:=Nat.lt_log2_self (n:=x/2)
     rw[Nat.pow_succ]at this ⊢
     omega
   omega
theorem half_impl (n:Nat) (w:World) (h2:2<=n) (hn:n<9223372036854775808) :
  Calls Tryz.prog 219 #[.int .i64 n] w fun e w'=>e=.returned (.int .i64 (half n))/\w'=w:=by
 have e1:IntKind.u64.wrap ((n:Int)-1)=((n-1:Nat):Int):=by
  rw[IntKind.wrap_u64]
  omega
 have HL:=hideT (bitLen_log (n-1) (by omega) (by omega))
 obtain⟨k,hk⟩:∃ k,k=Nat.log2 (n-1):=⟨_,rfl⟩
 have HH:=hideT (show half n=2 ^ k by rw[hk];rfl)
 have hk62:k<=62:=by
  rw[hk]
  have:Nat.log2 (n-1)<63:=(Nat.log2_lt (by omega)).2 (by omega)
  omega
 rw[<-hk]at HL
 clear hk
 go_enter Tryz.func219,Tryz.ntmps219
 go_wp2_with fail
 refine(len64_any (n-1) w (by omega)).mono ?_
 rw[HL.out]
 rintro e w1 ⟨rfl,hw⟩
 subst w1
 go_wp2_with fail
 go_ret
 refine⟨ret_int ?_,rfl⟩
 have h3:(2:Nat) ^ k<=2 ^ 62:=Nat.pow_le_pow_right (by decide) hk62
 rw[HH.out]
 have h4:((2:Int) ^ k)=((2 ^ k:Nat):Int):=by simp
 rw[h4]
 generalize (2:Nat) ^ k=y at h3 ⊢
 unfold wrap64
 omega
end Go.Proofs.YtpddanmnlkcdpaaGreatDoor.Tr


/- The walks of impl.entriesRight and spec.l03Entries: whether entries are right. -/
namespace Go.Proofs.YtpddanmnlkcdpaaGreatDoor.Tr
open Go.RowKit
open St
end Go.Proofs.YtpddanmnlkcdpaaGreatDoor.Tr


/- The walk of impl.treeOf: of right entries it answers their tree, and writes nothing that was there. -/
namespace Go.Proofs.YtpddanmnlkcdpaaGreatDoor.Tr
open Go.RowKit
open St
open Sh (Vars leafV nodeV leafR nodeR leaf_impl node_impl digest_impl digestV leafR_yes nodeR_yes below3)
end Go.Proofs.YtpddanmnlkcdpaaGreatDoor.Tr


/- The walk of spec.l03Tree: of right entries it answers their tree, and writes nothing that was there. -/
namespace Go.Proofs.YtpddanmnlkcdpaaGreatDoor.Tr
open Go.RowKit
open St
open Sh (leafV nodeV all_any l03Leaf_any l03Node_any)
end Go.Proofs.YtpddanmnlkcdpaaGreatDoor.Tr


/- Plain mathematics of inclusion: climbing from a leaf down from the root's step, and up from the leaf's own, come to the same. -/
namespace Go.Proofs.YtpddanmnlkcdpaaGreatDoor.Tr
open Sh (nodeV)
def climbR:Nat->Nat->Nat->List ByteArray->ByteArray->Option ByteArray
 |0,_,_,_,_=>none
 |f+1,n,i,p,h =>
  if n<=1 then (if p=[] then some h else none)
  else match p.getLast? with
   |none=>none
   |some s=>if i<half n then (climbR f (half n) i p.dropLast h).map (fun x=>nodeV x s) else (climbR f (n-half n) (i-half n) p.dropLast h).map (fun x=>nodeV s x)
def od (a:Nat):Nat:=if _h:a%2=0/\0<a then od (a/2) else a
termination_by a
decreasing_by omega
theorem od_even (a:Nat) (h:a%2=0) (h0:0<a):od a=od (a/2):=by rw[od,dif_pos ⟨h,h0⟩]
theorem od_odd (a:Nat) (h:¬(a%2=0/\0<a)):od a=a:=by rw[od,dif_neg h]
def climbS:Nat->Nat->List ByteArray->ByteArray->Option ByteArray
 |_,last,[],h=>if last=0 then some h else none
 |a,last,p :: ps,h =>
  if last=0 then none
  else if a%2=1 then climbS (a/2) (last/2) ps (nodeV p h)
  else if a=last then climbS (od a/2) (od a/2) ps (nodeV p h)
  else climbS (a/2) (last/2) ps (nodeV h p)
theorem climbS_zero (a:Nat) (p:List ByteArray) (h:ByteArray) (hp:p≠[]):climbS a 0 p h=none:=by
 cases p with
 |nil=>exact absurd rfl hp
 |cons x xs=>rw[climbS,if_pos rfl]
theorem climbS_odd (a last:Nat) (x:ByteArray) (xs:List ByteArray) (h:ByteArray) (h0:last≠0) (h1:a%2=1):climbS a last (x :: xs) h=climbS (a/2) (last/2) xs (nodeV x h):=by
 rw[climbS,if_neg h0,if_pos h1]
theorem climbS_end (a:Nat) (x:ByteArray) (xs:List ByteArray) (h:ByteArray) (h0:a≠0) (h1:a%2=0):climbS a a (x :: xs) h=climbS (od a/2) (od a/2) xs (nodeV x h):=by
 rw[climbS,if_neg h0,if_neg (by omega),if_pos rfl]
theorem climbS_even (a last:Nat) (x:ByteArray) (xs:List ByteArray) (h:ByteArray) (h0:last≠0) (h1:a%2=0) (h2:a≠last):climbS a last (x :: xs) h=climbS (a/2) (last/2) xs (nodeV h x):=by
 rw[climbS,if_neg h0,if_neg (by omega),if_neg h2]
theorem climbS_nil (a last:Nat) (h:ByteArray):climbS a last [] h=if last=0 then some h else none:=by rw[climbS]
theorem pow_half (t:Nat) (h:0<t):2 ^ t/2=2 ^ (t-1)/\2 ^ t=2*2 ^ (t-1):=by
 obtain⟨s,rfl⟩:∃ s,t=s+1:=⟨t-1,by omega⟩
 rw[Nat.pow_succ]
 simp
 omega
theorem pow_pos2 (t:Nat):1<=2 ^ t:=Nat.one_le_two_pow
theorem climb_left:∀ (p:List ByteArray) (t a last:Nat) (s h:ByteArray),a<2 ^ t->2 ^ t<=last->last<2 ^ (t+1) ->
  climbS a last (p++[s]) h=(climbS a (2 ^ t-1) p h).map (fun x=>nodeV x s)
 |[],t,a,last,s,h,h1,h2,h3=>by
  have hp:=pow_pos2 t
  rw[List.nil_append,climbS_nil]
  rcases Nat.eq_zero_or_pos t with h0|h0
  ·subst h0
   rw[climbS_even a last s [] h (by omega) (by omega) (by omega),climbS_nil,if_pos (by omega),if_pos (by omega)]
   rfl
  ·obtain⟨e1,e2⟩:=pow_half t h0
   have hq:=pow_pos2 (t-1)
   rw[if_neg (by omega)]
   by_cases ha:a%2=1
   ·rw[climbS_odd a last s [] h (by omega) ha,climbS_nil,if_neg (by omega)]
    rfl
   ·rw[climbS_even a last s [] h (by omega) (by omega) (by omega),climbS_nil,if_neg (by omega)]
    rfl
 |x :: xs,t,a,last,s,h,h1,h2,h3=>by
  have hp:=pow_pos2 t
  rw[List.cons_append]
  rcases Nat.eq_zero_or_pos t with h0|h0
  ·subst h0
   rw[climbS_even a last x (xs++[s]) h (by omega) (by omega) (by omega)]
   rw[show last/2=0 by omega,climbS_zero _ _ _ (by simp)]
   rw[show 2 ^ 0-1=0 by omega,climbS_zero _ _ _ (by simp)]
   rfl
  ·obtain⟨e1,e2⟩:=pow_half t h0
   have hq:=pow_pos2 (t-1)
   have e3:(2 ^ t-1)/2=2 ^ (t-1)-1:=by omega
   have e4:2 ^ (t+1)=2*2 ^ t:=by rw[Nat.pow_succ];omega
   have e5:2 ^ (t-1+1)=2 ^ t:=by rw[show t-1+1=t by omega]
   by_cases ha:a%2=1
   ·rw[climbS_odd a last x _ h (by omega) ha,climbS_odd a (2 ^ t-1) x _ h (by omega) ha,e3]
    exact climb_left xs (t-1) (a/2) (last/2) s (nodeV x h) (by omega) (by omega) (by omega)
   ·rw[climbS_even a last x _ h (by omega) (by omega) (by omega),climbS_even a (2 ^ t-1) x _ h (by omega) (by omega) (by omega),e3]
    exact climb_left xs (t-1) (a/2) (last/2) s (nodeV h x) (by omega) (by omega) (by omega)
theorem od_pow:∀ t:Nat,od (2 ^ t)=1
 |0=>by rw[od_odd _ (by decide)]
 |t+1=>by
  have hp:=pow_pos2 t
  rw[Nat.pow_succ,od_even _ (by omega) (by omega),show 2 ^ t*2/2=2 ^ t by omega]
  exact od_pow t
theorem od_top:∀ (t r:Nat),0<r->r<2 ^ t->∃ u,1<=u/\u<=t/\od (2 ^ t+r)=2 ^ u+od r/\od r<2 ^ u/\0<od r
 |0,r,h0,h1=>by simp at h1;omega
 |t+1,r,h0,h1=>by
  have hp:=pow_pos2 t
  have e:2 ^ (t+1)=2*2 ^ t:=by rw[Nat.pow_succ];omega
  by_cases hr:r%2=0
  ·obtain⟨u,u1,u2,u3,u4,u5⟩:=od_top t (r/2) (by omega) (by omega)
   refine⟨u,u1,by omega,?_,?_,?_⟩
   ·rw[od_even (2 ^ (t+1)+r) (by omega) (by omega),od_even r hr h0,show (2 ^ (t+1)+r)/2=2 ^ t+r/2 by omega]
    exact u3
   ·rw[od_even r hr h0];exact u4
   ·rw[od_even r hr h0];exact u5
  ·refine⟨t+1,by omega,Nat.le_refl _,?_,?_,?_⟩
   ·rw[od_odd (2 ^ (t+1)+r) (by omega),od_odd r (by omega)]
   ·rw[od_odd r (by omega)];exact h1
   ·rw[od_odd r (by omega)];exact h0
theorem climb_right:∀ (p:List ByteArray) (t a last:Nat) (s h:ByteArray),2 ^ t<=a->a<=last->last<2 ^ (t+1) ->
  climbS a last (p++[s]) h=(climbS (a-2 ^ t) (last-2 ^ t) p h).map (fun x=>nodeV s x)
 |[],t,a,last,s,h,h1,h2,h3=>by
  have hp:=pow_pos2 t
  have e4:2 ^ (t+1)=2*2 ^ t:=by rw[Nat.pow_succ];omega
  rw[List.nil_append,climbS_nil (a-2 ^ t)]
  by_cases hl:last=2 ^ t
  ·obtain rfl:a=last:=by omega
   rw[if_pos (by omega)]
   by_cases ha:a%2=1
   ·rw[climbS_odd a a s [] h (by omega) ha,climbS_nil,if_pos (by
     rcases Nat.eq_zero_or_pos t with h0|h0
     ·subst h0;omega
     ·obtain⟨e1,e2⟩:=pow_half t h0;omega)]
    rfl
   ·rw[climbS_end a s [] h (by omega) (by omega),climbS_nil,hl,od_pow,if_pos (by decide)]
    rfl
  ·rw[if_neg (by omega)]
   have h0:0<t:=by
    rcases Nat.eq_zero_or_pos t with h0|h0
    ·subst h0;omega
    ·exact h0
   obtain⟨e1,e2⟩:=pow_half t h0
   have hq:=pow_pos2 (t-1)
   by_cases ha:a%2=1
   ·rw[climbS_odd a last s [] h (by omega) ha,climbS_nil,if_neg (by omega)]
    rfl
   ·by_cases hal:a=last
    ·subst hal
     obtain⟨u,u1,u2,u3,u4,u5⟩:=od_top t (a-2 ^ t) (by omega) (by omega)
     rw[show 2 ^ t+(a-2 ^ t)=a by omega]at u3
     obtain⟨f1,f2⟩:=pow_half u u1
     have hq':=pow_pos2 (u-1)
     rw[climbS_end a s [] h (by omega) (by omega),climbS_nil,if_neg (by omega)]
     rfl
    ·rw[climbS_even a last s [] h (by omega) (by omega) hal,climbS_nil,if_neg (by omega)]
     rfl
 |x :: xs,t,a,last,s,h,h1,h2,h3=>by
  have hp:=pow_pos2 t
  have e4:2 ^ (t+1)=2*2 ^ t:=by rw[Nat.pow_succ];omega
  rw[List.cons_append]
  by_cases hl:last=2 ^ t
  ·obtain rfl:a=last:=by omega
   rw[show a-2 ^ t=0 by omega,climbS_zero _ _ _ (by simp)]
   by_cases ha:a%2=1
   ·rw[climbS_odd a a x _ h (by omega) ha,show a/2=0 by
     rcases Nat.eq_zero_or_pos t with h0|h0
     ·subst h0;omega
     ·obtain⟨e1,e2⟩:=pow_half t h0;omega,climbS_zero _ _ _ (by simp)]
    rfl
   ·rw[climbS_end a x _ h (by omega) (by omega),hl,od_pow,show 1/2=0 from rfl,climbS_zero _ _ _ (by simp)]
    rfl
  ·have h0:0<t:=by
    rcases Nat.eq_zero_or_pos t with h0|h0
    ·subst h0;omega
    ·exact h0
   obtain⟨e1,e2⟩:=pow_half t h0
   have hq:=pow_pos2 (t-1)
   have e5:2 ^ (t-1+1)=2 ^ t:=by rw[show t-1+1=t by omega]
   have e6:(a-2 ^ t)/2=a/2-2 ^ (t-1):=by omega
   have e7:(last-2 ^ t)/2=last/2-2 ^ (t-1):=by omega
   by_cases ha:a%2=1
   ·rw[climbS_odd a last x _ h (by omega) ha,climbS_odd (a-2 ^ t) (last-2 ^ t) x _ h (by omega) (by omega),e6,e7]
    exact climb_right xs (t-1) (a/2) (last/2) s (nodeV x h) (by omega) (by omega) (by omega)
   ·by_cases hal:a=last
    ·subst hal
     obtain⟨u,u1,u2,u3,u4,u5⟩:=od_top t (a-2 ^ t) (by omega) (by omega)
     rw[show 2 ^ t+(a-2 ^ t)=a by omega]at u3
     obtain⟨f1,f2⟩:=pow_half u u1
     have f5:2 ^ (u-1+1)=2 ^ u:=by rw[show u-1+1=u by omega]
     rw[climbS_end a x _ h (by omega) (by omega),climbS_end (a-2 ^ t) x _ h (by omega) (by omega)]
     rw[show od (a-2 ^ t)/2=od a/2-2 ^ (u-1) by omega]
     exact climb_right xs (u-1) (od a/2) (od a/2) s (nodeV x h) (by omega) (by omega) (by omega)
    ·rw[climbS_even a last x _ h (by omega) (by omega) hal,climbS_even (a-2 ^ t) (last-2 ^ t) x _ h (by omega) (by omega) (by omega),e6,e7]
     exact climb_right xs (t-1) (a/2) (last/2) s (nodeV h x) (by omega) (by omega) (by omega)
end Go.Proofs.YtpddanmnlkcdpaaGreatDoor.Tr


/- An append of some things onto a row of the call's own, or onto one that is empty and has no room: the row behind it lies above a mark. -/
namespace Go.Proofs.YtpddanmnlkcdpaaGreatDoor.Ap
open Go.RowKit
def Own0 (w:World) (base:Nat) (e:TypeId) (size:Nat) (v:Value) (n:Nat) (xs:List Value):Prop :=
 (∃ b,v=.slice (some b) 0 0/\n=0/\xs=[])∨w.ownsRow base e size v n xs
theorem Own0.below {w w':World} {base:Nat} {e:TypeId} {size:Nat} {v:Value} {n:Nat} {xs:List Value} (h:Own0 w base e size v n xs) (b:Below w.heap.size w w'):Own0 w' base e size v n xs:=by
 rcases h with h|⟨hl,h⟩
 ·exact .inl h
 ·refine .inr ⟨hl,?_⟩
  rcases h with h|⟨g,cap,cur,hv,hg,hb,rest⟩
  ·exact .inl h
  ·exact .inr ⟨g,cap,cur,hv,hg,by rw[b.block g (Array.getElem?_eq_some_iff.1 hb).1];exact hb,rest⟩
end Go.Proofs.YtpddanmnlkcdpaaGreatDoor.Ap


/- An append of some things onto a row of the call's own, or onto one that is empty and has no room: rows of another element type stay as they were. -/
namespace Go.Proofs.YtpddanmnlkcdpaaGreatDoor.Ap
open Go.RowKit
def KeepE (e:TypeId) (W W':World):Prop:=∀ (g:Nat) (cur:Array Value) (t:TypeId),t≠e->W.heap[g]? = some (.cells cur t (0,0))->W'.heap[g]? = some (.cells cur t (0,0))
theorem KeepE.below {e:TypeId} {W W':World} (h:Below W.heap.size W W'):KeepE e W W':=fun g _ _ _ hg=>(h.block g (Array.getElem?_eq_some_iff.1 hg).1).trans hg
theorem keepE_own {W W':World} {base size n:Nat} {e:TypeId} {v:Value} {xs:List Value} (h:W.grownBy W' v.ownBlock) (ho:W.ownsRow base e size v n xs):KeepE e W W':=fun g cur t ht hg=>by
 rw[h.block g (Array.getElem?_eq_some_iff.1 hg).1 (by
  intro hk
  obtain⟨_,ho⟩:=ho
  rcases ho with⟨hv,_⟩|⟨k,cap,cs,hv,_,hb,_⟩
  ·subst hv
   simp[Value.ownBlock]at hk
  ·subst hv
   simp[Value.ownBlock]at hk
   subst hk
   rw[hb]at hg
   simp at hg
   exact ht hg.2.symm)]
 exact hg
theorem run_append_own0k {P:Program} (w:World) (base:Nat) (t ty e:TypeId) (i:TypeInfo) (z:Value) (size bytes:Nat) (ht:P.underlying t=some (.slice e)) (hi:P.info? e=some i) (hz:i.zero=some z)
  (hsize:i.size=size) (hby:i.bytes=bytes) (hzs:z.cells.size=size) (hsz:0<size)
  (v:Value) (n:Nat) (xs:List Value) (hown:Own0 w base e size v n xs)
  (a:Addr) (m c:Nat) (news:List Value) (hl:news.length=m*size) (hnews:∀ j u,news[j]? = some u->w.cell? (a.add j)=some u) (h1:∀ u∈news,u.oneCell'=true) (hm:0<m)
  (h63:n+m<=maxLen) (hbytes:(n+m)*bytes<=140737488355328) (hbase:base<=w.heap.size) :
  ∃ v' w',(Builtin.append_ #[t,t] ty #[v,.slice (some a) m c]).run P w=.ok v' w'/\w'.ownsRow base e size v' (n+m) (xs++news)/\(∀ B,B<=base->Below B w w')/\KeepE e w w':=by
 rcases hown with⟨b,rfl,rfl,rfl⟩|hown
 ·subst hsize
  subst hby
  have hsmall:m<=9223372036854775807:=by simp only[maxLen]at h63;omega
  have hr:=run_append_grow (P:=P) w t ty e i z ht hi hz b 0 0 [] (by simp) (by simp) a m c news hl hnews (by omega) (by omega) (growslice_fits (by omega) hbytes)
  refine⟨_,_,hr,?_,fun B hB=>?_,KeepE.below (((Below.refl _ w).drew).alloc (Nat.le_refl _) _)⟩
  ·have hge:=grownCap_ge w (0+m) 0 e
   have hcm:grownCap w (0+m) 0 e<=maxLen:=grownCap_le_maxLen w (0+m) 0 e h63
   refine⟨by simpa using hl,.inr ⟨w.heap.size,_,_,rfl,hbase,heap_alloc_new w.drew _,hge,hcm,?_,?_⟩⟩
   ·simp only[Array.size_append,List.size_toArray,size_zeroCells,hzs,hl,List.length_nil]
    rw[Nat.zero_add,<-Nat.add_mul]
    congr 1
    omega
   ·simp only[Array.toList_append,List.nil_append]
    rw[show (0+m)*i.size=news.length by rw[Nat.zero_add,hl]]
    exact List.take_left
  ·exact((Below.refl B w).drew).alloc (by simp;omega) _
 ·obtain⟨v',w',hr,h2,h3,_⟩:=run_append_own (P:=P) w base t ty e i z size bytes ht hi hz hsize hby hzs hsz v n xs hown a m c news hl hnews h1 h63 hbytes hbase
  refine⟨v',w',hr,h2,fun B hB=>(Below.refl B w).grown h3 (by omega) ?_,keepE_own h3 hown⟩
  intro k hk
  exact Nat.le_trans hB (hown.lt k hk).1
theorem wpList_append_own0k {P:Program} (w:World) {ops:Array Oper} {rest:List Oper} {o:Oper} {a:Act} {Q:Exit->Act->World->Prop} (hgd:o.guard=none) (s x:Operand) (t:TypeId)
  (ho:o.op=.call { callee:=.builtin .append,args:=#[s,x],argTypes:=#[t,t] })
  (base:Nat) (e:TypeId) (i:TypeInfo) (z:Value) (size bytes:Nat) (ht:P.underlying t=some (.slice e)) (hi:P.info? e=some i) (hz:i.zero=some z)
  (hsize:i.size=size) (hby:i.bytes=bytes) (hzs:z.cells.size=size) (hsz:0<size)
  (v:Value) (n:Nat) (xs:List Value) (hs:a.eval s=v) (hown:Own0 w base e size v n xs)
  (ad:Addr) (m c:Nat) (news:List Value) (hx:a.eval x=.slice (some ad) m c) (hl:news.length=m*size) (hnews:∀ j u,news[j]? = some u->w.cell? (ad.add j)=some u) (h1:∀ u∈news,u.oneCell'=true) (hm:0<m)
  (h63:n+m<=maxLen) (hbytes:(n+m)*bytes<=140737488355328) (hbase:base<=w.heap.size)
  (h:∀ v' w',w'.ownsRow base e size v' (n+m) (xs++news)->(∀ B,B<=base->Below B w w')->KeepE e w w'->wpList P ops Q rest (a.put o.dst v') w'):wpList P ops Q (o :: rest) a w :=
 wpList_plain hgd fun _ hK=>by
  obtain⟨v',w',hr,h2,h3,h4⟩:=run_append_own0k (P:=P) w base t o.type e i z size bytes ht hi hz hsize hby hzs hsz v n xs hown ad m c news hl hnews h1 hm h63 hbytes hbase
  unfold Oper.wp execOp
  simp only[ho,resolve,invoke,builtin,Sem.run_bind,Sem.run_pure,Result.andThen_ok,List.map_toArray,List.map_cons,List.map_nil,hs,hx,hr]
  exact hK _ _ (h v' w' h2 h3 h4)
end Go.Proofs.YtpddanmnlkcdpaaGreatDoor.Ap

