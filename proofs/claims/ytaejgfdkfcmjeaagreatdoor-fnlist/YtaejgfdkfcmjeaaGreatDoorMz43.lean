import Derived.Deep.Cut
import Derived.Test.YtaejgfdkfcmjeaaGreatDoorMz25
set_option maxRecDepth 100000
set_option maxHeartbeats 8000000
namespace Go.Proofs.YtaejgfdkfcmjeaaGreatDoor
open Go.RowKit
open Go.Proofs.Tryz
namespace Ls
theorem blkL {w w':World} {g:Nat} {x:Obj} (h:w.heap[g]? = some x) (hb:Below w.heap.size w w'):w'.heap[g]? = some x:=(hb.block g (Array.getElem?_eq_some_iff.1 h).1).trans h
theorem lowL {w0 w w':World} (h:Below w0.heap.size w0 w) (hb:Below w.heap.size w w'):Below w0.heap.size w0 w':=h.trans (hb.mono h.size)
theorem cells3 {W:World} {g:Nat} {x y z:Value} {t:TypeId} (h:W.heap[g]? = some (.cells #[x,y,z] t (0,0))):W.cell? ⟨g,0,none⟩=some x/\W.cell? ⟨g,1,none⟩=some y/\W.cell? ⟨g,2,none⟩=some z :=
 ⟨cell_of_row W g 0 _ _ _ h,cell_of_row W g 1 _ _ _ h,cell_of_row W g 2 _ _ _ h⟩
def oV (z b:Int) (r:ByteArray) (c:Int):Value:=.agg #[.int .i64 z,.int .i64 b,.string r,.int .i64 c]
theorem cells4 {W:World} {g:Nat} {x y z u:Value} {t:TypeId} (h:W.heap[g]? = some (.cells #[x,y,z,u] t (0,0))):W.cell? ⟨g,0,none⟩=some x/\W.cell? ⟨g,1,none⟩=some y/\W.cell? ⟨g,2,none⟩=some z/\W.cell? ⟨g,3,none⟩=some u :=
 ⟨cell_of_row W g 0 _ _ _ h,cell_of_row W g 1 _ _ _ h,cell_of_row W g 2 _ _ _ h,cell_of_row W g 3 _ _ _ h⟩
theorem set_k4 {W:World} {g:Nat} {x y z u:Value} {T:TypeId} (h:W.heap[g]? = some (.cells #[x,y,z,u] T (0,0))) (v:Value):(W.setCell ⟨g,0,none⟩ v).heap[g]? = some (.cells #[v,y,z,u] T (0,0))/\(W.setCell ⟨g,1,none⟩ v).heap[g]? = some (.cells #[x,v,z,u] T (0,0))/\(W.setCell ⟨g,2,none⟩ v).heap[g]? = some (.cells #[x,y,v,u] T (0,0))/\(W.setCell ⟨g,3,none⟩ v).heap[g]? = some (.cells #[x,y,z,v] T (0,0)):=by
 refine⟨?_,?_,?_,?_⟩
 ·rw[heap_setCell_same W g 0 _ T v h];rfl
 ·rw[heap_setCell_same W g 1 _ T v h];rfl
 ·rw[heap_setCell_same W g 2 _ T v h];rfl
 ·rw[heap_setCell_same W g 3 _ T v h];rfl
theorem set4_cells {W:World} {g:Nat} {x y z u:Value} {T:TypeId} (h:W.heap[g]? = some (.cells #[x,y,z,u] T (0,0))) (a b c d:Value) :
  ((((W.setCell ⟨g,0,none⟩ a).setCell ⟨g,1,none⟩ b).setCell ⟨g,2,none⟩ c).setCell ⟨g,3,none⟩ d).cell? ⟨g,0,none⟩=some a/\((((W.setCell ⟨g,0,none⟩ a).setCell ⟨g,1,none⟩ b).setCell ⟨g,2,none⟩ c).setCell ⟨g,3,none⟩ d).cell? ⟨g,1,none⟩=some b/\((((W.setCell ⟨g,0,none⟩ a).setCell ⟨g,1,none⟩ b).setCell ⟨g,2,none⟩ c).setCell ⟨g,3,none⟩ d).cell? ⟨g,2,none⟩=some c/\((((W.setCell ⟨g,0,none⟩ a).setCell ⟨g,1,none⟩ b).setCell ⟨g,2,none⟩ c).setCell ⟨g,3,none⟩ d).cell? ⟨g,3,none⟩=some d :=
 cells4 (set_k4 (set_k4 (set_k4 (set_k4 h a).1 b).2.1 c).2.2.1 d).2.2.2
theorem set4_low {B:Nat} {w W:World} (h:Below B w W) (a b c d:Value):Below B w ((((W.setCell ⟨B,0,none⟩ a).setCell ⟨B,1,none⟩ b).setCell ⟨B,2,none⟩ c).setCell ⟨B,3,none⟩ d):=(((h.setCell (p:=⟨B,0,none⟩) nl a).setCell (p:=⟨B,1,none⟩) nl b).setCell (p:=⟨B,2,none⟩) nl c).setCell (p:=⟨B,3,none⟩) nl d
theorem lowB {B:Nat} {w0 w w':World} (hB:w0.heap.size=B) (h:Below B w0 w) (hb:Below w.heap.size w w'):Below B w0 w':=h.trans (hb.mono (by rw[<-hB];exact h.size))
theorem lowB_alloc {B:Nat} {w0 w:World} (hB:w0.heap.size=B) (h:Below B w0 w) (o:Obj):Below B w0 (w.alloc o):=h.alloc (by rw[<-hB];exact h.size) o
theorem blk_alloc {W:World} {g:Nat} {x:Obj} (h:W.heap[g]? = some x) (o:Obj):(W.alloc o).heap[g]? = some x:=blkL h ((Below.refl _ _).alloc nl o)
end Ls
namespace Kp
open Ls (blkL lowL blk_alloc)
theorem hideK {p:Prop} (h:p):Hid p:=h
structure Cx (w0 W:World) (l:List (Nat × Obj)):Prop where
 low:Below w0.heap.size w0 W
 blk:∀ x∈l,W.heap[x.1]? = some x.2
theorem Cx.call {w0 W W':World} {l:List (Nat × Obj)} (h:Cx w0 W l) (hb:Below W.heap.size W W'):Cx w0 W' l:=⟨lowL h.low hb,fun x hx=>blkL (h.blk x hx) hb⟩
theorem Cx.new {w0 W:World} {l:List (Nat × Obj)} (h:Cx w0 W l) (o:Obj):Cx w0 (W.alloc o) ((W.heap.size,o) :: l) :=
 ⟨h.low.alloc h.low.size o,fun x hx=>by
  rcases List.mem_cons.1 hx with rfl|hx
  ·exact heap_alloc_new W o
  ·exact blk_alloc (h.blk x hx) o⟩
theorem Cx.get {w0 W:World} {l:List (Nat × Obj)} (h:Cx w0 W l) (i:Nat) {g:Nat} {o:Obj} (hx:l[i]? = some (g,o)):W.heap[g]? = some o:=h.blk (g,o) (List.mem_of_getElem? hx)
theorem lt_rowK {w:World} {g:Nat} {o:Obj} (h:w.heap[g]? = some o):g<w.heap.size:=(Array.getElem?_eq_some_iff.1 h).1
def kV (z b:Int) (r s:ByteArray) (y:Int):Value:=.agg #[.int .i64 z,.int .i64 b,.string r,.string s,.int .i64 y]
def Five (W:World) (g:Nat) (x0 x1 x2 x3 x4:Value):Prop :=
 (W.cell? ⟨g,0,none⟩=some x0/\W.cell? ⟨g,1,none⟩=some x1/\W.cell? ⟨g,2,none⟩=some x2/\W.cell? ⟨g,3,none⟩=some x3/\W.cell? ⟨g,4,none⟩=some x4)/\W.frozen? ⟨g,0,none⟩=false/\W.frozen? ⟨g,1,none⟩=false/\W.frozen? ⟨g,2,none⟩=false/\W.frozen? ⟨g,3,none⟩=false/\W.frozen? ⟨g,4,none⟩=false
end Kp
namespace Se
open Nu (bv arr_string ret_strJ hideJ)
def crcOf (s:ByteArray):Nat:=Cr.fin (Cr.crcL (Cr.fin 0) s.data.toList)
def fourL (n:Nat):List UInt8:=[UInt8.ofNat (n%256),UInt8.ofNat (n/256%256),UInt8.ofNat (n/65536%256),UInt8.ofNat (n/16777216)]
def fourS (n:Nat):ByteArray:=⟨(fourL n).toArray⟩
def sealV (t:ByteArray):ByteArray:=if t.size<=7996 then t++fourS (crcOf t) else ⟨#[]⟩
theorem crcOf_lt (s:ByteArray):crcOf s<4294967296:=Cr.fin_lt (Cr.crcL_lt _ _ (Cr.fin_lt (by decide)))
theorem fourS_size (n:Nat):(fourS n).size=4:=rfl
theorem moreV_crc (s:ByteArray) (h:s.size<=8000):Cr.moreV 0 s=(crcOf s:Nat):=Cr.moreV_yes 0 s h (by decide)
theorem bv_of (q:Nat) (x:Int) (hq:(q:Int)=x) (h:q<256):bv (UInt8.ofNat q)=.int .u8 x:=by
 unfold bv;rw[UInt8.toNat_ofNat',Nat.mod_eq_of_lt (by omega),hq]
theorem four_cells (n:Nat) (h:n<4294967296) :
  (#[.int .u8 ((n:Int)%256),.int .u8 ((n:Int)/256%256),.int .u8 ((n:Int)/65536%256),.int .u8 ((n:Int)/16777216)]:Array Value).toList=(fourL n).map bv:=by
 simp only[fourL,List.map_cons,List.map_nil]
 rw[bv_of (n%256) ((n:Int)%256) (by omega) (by omega),bv_of (n/256%256) ((n:Int)/256%256) (by omega) (by omega),
  bv_of (n/65536%256) ((n:Int)/65536%256) (by omega) (by omega),bv_of (n/16777216) ((n:Int)/16777216) (by omega) (by omega)]
theorem four_conv {P:Program} {src dst e:TypeId} (t:TypeId) (u:World) (n:Nat) (h:n<4294967296) (hs:P.underlying src=some (.slice e)) (he:P.underlying e=some (.int .u8)) (hd:P.underlying dst=some .string) :
  (convert src dst (.slice (some ⟨u.heap.size,0,none⟩) 4 4)).run P (u.alloc (.cells #[.int .u8 ((n:Int)%256),.int .u8 ((n:Int)/256%256),.int .u8 ((n:Int)/65536%256),.int .u8 ((n:Int)/16777216)] t)) =
   .ok (.string (fourS n)) (u.alloc (.cells #[.int .u8 ((n:Int)%256),.int .u8 ((n:Int)/256%256),.int .u8 ((n:Int)/65536%256),.int .u8 ((n:Int)/16777216)] t)) :=
 arr_string (P:=P) (fourL n) 4 (heap_alloc_new u _) (by rw[four_cells n h];rfl) hs he hd
theorem four_any (n:Nat) (w:World) (hn:n<4294967296) :
  Calls prog 138 #[.int .i64 n] w fun e w'=>e=.returned (.string (fourS n))/\Below w.heap.size w w':=by
 have hcv:=four_conv (P:=prog) 5 w n hn underlying22 underlying5 underlying9;go_enter func138,ntmps138
 go_wp2
 go_ret;exact⟨rfl,(Below.refl _ _).alloc nl _⟩
theorem sum_any (s:ByteArray) (w:World) (hs:s.size<=8000) :
  Calls prog 126 #[.string s] w fun e w'=>e=.returned (.string (fourS (crcOf s)))/\Below w.heap.size w w':=by
 have HV:=hideJ (moreV_crc s hs);have hn:=crcOf_lt s;generalize crcOf s=n at HV hn ⊢;have hcv:=four_conv (P:=prog) 182 w n hn underlying22 underlying5 underlying9;go_enter func126,ntmps126
 go_wp2_with fail
 refine(Cr.crc_impl0 s _ (by unfold maxLen;omega)).mono ?_;rw[HV.o];rintro e w' ⟨rfl,hw⟩;subst w'
 go_wp2
 refine wp_loop_rounds 5 ?_;rw[rounds_succ];go_wp2;rw[rounds_succ];go_wp2;rw[rounds_succ];go_wp2;rw[rounds_succ];go_wp2;rw[rounds_succ];go_wp2;go_ret;exact⟨rfl,(Below.refl _ _).alloc nl _⟩
theorem seal_spec (t:ByteArray) (w:World) (ht:t.size<=maxLen) :
  Calls prog 99 #[.string t] w fun e w'=>e=.returned (.string (sealV t))/\Below w.heap.size w w':=by
 unfold maxLen at ht;by_cases h:7996<t.size
 ·have HP:=hideJ (show sealV t=⟨#[]⟩ by unfold sealV;rw[if_neg (by omega)])
  go_enter func99,ntmps99
  go_wp2
  go_ret;exact⟨ret_strJ HP.o.symm,Below.refl _ _⟩
 ·have HP:=hideJ (show sealV t=t++fourS (crcOf t) by unfold sealV;rw[if_pos (by omega)])
  have hc:=crcOf_lt t;have hf:=fourS_size (crcOf t);have HF:=hideJ hf;clear hf
  have hf4:(fourS (crcOf t)).size<=4:=by rw[HF.o];omega
  go_enter func99,ntmps99
  go_wp2_with fail
  refine(Cr.crc_spec 0 t _ (by omega) (by omega)).mono ?_;rintro e w' ⟨rfl,hw⟩;subst w'
  go_wp2_with fail
  refine(four_any (crcOf t) _ hc).mono ?_;rintro e w1 ⟨rfl,hb1⟩
  go_wp2
  go_ret;exact⟨ret_strJ HP.o.symm,hb1⟩
theorem seal_impl (t:ByteArray) (w:World) (ht:t.size<=maxLen) :
  Calls prog 92 #[.string t] w fun e w'=>e=.returned (.string (sealV t))/\Below w.heap.size w w':=by
 unfold maxLen at ht;by_cases h:7996<t.size
 ·have HP:=hideJ (show sealV t=⟨#[]⟩ by unfold sealV;rw[if_neg (by omega)])
  go_enter func92,ntmps92
  go_wp2
  go_ret;exact⟨ret_strJ HP.o.symm,Below.refl _ _⟩
 ·have HP:=hideJ (show sealV t=t++fourS (crcOf t) by unfold sealV;rw[if_pos (by omega)])
  have HF:=hideJ (fourS_size (crcOf t));go_enter func92,ntmps92
  go_wp2_with fail
  refine(sum_any t _ (by omega)).mono ?_;rintro e w1 ⟨rfl,hb1⟩
  go_wp2_with fail
  refine(Nu.join_any _ _ _ (by rw[HF.o];omega)).mono ?_;rintro e w2 ⟨rfl,hb2⟩
  go_wp2
  go_ret;exact⟨ret_strJ HP.o.symm,hb1.trans (hb2.mono hb1.size)⟩
end Se
namespace Bi
open Sh
open Nu (ret_strJ)
theorem open_yes (t:ByteArray) (m:Nat) (w:World) (ht:¬8000<t.size) (hm:m<=8*t.size) :
  Calls prog 180 #[.string t,.int .i64 m] w fun e w'=>e=.returned (.string (openV t m))/\Below w.heap.size w w':=by
 obtain⟨i0,hi,hz0,hz1,hz2⟩:=info_parts Nu.Tryz.infoJ5;have hd8:decide (8000<(t.size:Int))=false:=decide_eq_false (by omega);have hd0:decide ((m:Int)<0)=false:=decide_eq_false (by omega);have hd1:decide (8*(t.size:Int)<m)=false:=decide_eq_false (by omega);go_enter func180,ntmps180
 go_wp2_with (at_make;refine wpList_make_full _ rfl (.tmp 21) (.tmp 21) 22 rfl w.heap.size 5 i0 (.int .u8 0) 1 underlying22 hi hz0 hz1 .i64 .i64 _ _ m rfl rfl (by simp) (by simp) (by rw[hz2];omega) (by unfold maxLen;omega) nl ?_;intro w1 hown1 hgrow1;have HR:=hideB (made_row hown1);have HB:=hideB ((Below.refl w.heap.size w).grown hgrow1 nl (by simp));clear hown1 hgrow1)
 go_loopw [24] (fun i wr=>∃ k:Nat,i=.int .i64 k/\k<=m/\IsB wr w.heap.size 5 .u8 m (fun j=>(opK t k j:Nat))/\Below w.heap.size w wr) (fun i _=>m-(intOf i).toNat)
 case atStart=>exact⟨0,rfl,by omega,IsB.congr HR.o (fun j hj=>by rw[opK_zero];rfl),HB.o⟩
 case round =>
  obtain⟨k,rfl,hk,hr,hbel⟩:=hrel;have HR2:=hideB hr;by_cases hlt:k<m
  ·obtain⟨q,hq⟩:∃ q:Nat,q=k/8:=⟨_,rfl⟩
   have hqi:(k:Int)/8=q:=by omega
   have hqt:q<t.size:=by omega
   obtain⟨y,b0,hy⟩:=byte_at t q hqt;obtain⟨s,hs⟩:∃ s:Nat,s=7-k%8:=⟨_,rfl⟩
   have hsi:(7:Int)-(k:Int)%8=s:=by omega
   have ce:=hr.cell (j:=k) (by omega);have cf:=hr.frozen k
   have hy2:(y.toNat:Int)<256:=by have:=y.toNat_lt;omega
   have HO:=hideB (bitOf_any y.toNat s wr (by omega))
   have HV:Hid (((bitB y.toNat s:Nat):Int)=((bitB (bt t (k/8)) (7-k%8):Nat):Int)):=by
    unfold Hid;rw[hy,hs,hq]
   clear hr hy hs hq
   go_wp2_with fail
   refine HO.o.mono ?_;rintro e w' ⟨rfl,hw⟩;subst w'
   go_wp2_with fail
   go_roundw
   case rel =>
    exact⟨k+1,by go_num,by omega,IsB.congr (HR2.o.set k _) (fun j hj=>opK_next t k j _ HV.o),hbel.setCell nl _⟩
   case measure=>simp[intOf];omega
  ·obtain rfl:k=m:=by omega
   have hcv:=hr.str (P:=prog) (src:=22) (dst:=9) k k nl (fun j _=>opK_lt t k j) underlying22 underlying5 underlying9;rw[opK_all]at hcv;clear hr
   go_wp2_with fail
   go_ret;exact⟨rfl,hbel⟩
theorem open_impl (t:ByteArray) (m:Int) (w:World) (ht:t.size<=1048576) :
  Calls prog 180 #[.string t,.int .i64 m] w fun e w'=>e=.returned (.string (openR t m))/\Below w.heap.size w w':=by
 by_cases h:8000<t.size
 ·have HE:=hideB (openR_no t m (Or.inl h))
  go_enter func180,ntmps180
  go_wp2_with fail
  go_ret;exact⟨ret_strJ HE.o.symm,Below.refl _ _⟩
 ·have hd8:decide (8000<(t.size:Int))=false:=decide_eq_false (by omega)
  by_cases h0:m<0
  ·have HE:=hideB (openR_no t m (Or.inr (Or.inl h0)))
   go_enter func180,ntmps180
   go_wp2_with fail
   go_ret;exact⟨ret_strJ HE.o.symm,Below.refl _ _⟩
  ·by_cases h1:8*(t.size:Int)<m
   ·have HE:=hideB (openR_no t m (Or.inr (Or.inr h1)))
    have hd0:decide (m<0)=false:=decide_eq_false (by omega);go_enter func180,ntmps180;(go_wp2_with fail);go_ret;exact⟨ret_strJ HE.o.symm,Below.refl _ _⟩
   ·obtain⟨k,rfl⟩:∃ k:Nat,m=k:=⟨m.toNat,by omega⟩
    rw[openR_yes t k h (by omega)];exact open_yes t k w h (by omega)
theorem lit8 (W:World) (t:TypeId) (r:Nat) (h:r<8):∃ p:Int,(W.alloc (Obj.cells #[Value.int IntKind.i64 128,Value.int IntKind.i64 64,Value.int IntKind.i64 32,Value.int IntKind.i64 16,Value.int IntKind.i64 8,Value.int IntKind.i64 4,Value.int IntKind.i64 2,Value.int IntKind.i64 1] t)).cell? ⟨W.heap.size,r,none⟩=some (.int .i64 p)/\p=(2:Int) ^ (7-r)/\0<p/\p<=128:=by
 have h8:r=0∨r=1∨r=2∨r=3∨r=4∨r=5∨r=6∨r=7:=by omega
 rcases h8 with rfl|rfl|rfl|rfl|rfl|rfl|rfl|rfl
 ·exact⟨128,(cell_of_row _ _ 0 _ t (0,0) (heap_alloc_last W _)).trans rfl,by decide,by decide⟩
 ·exact⟨64,(cell_of_row _ _ 1 _ t (0,0) (heap_alloc_last W _)).trans rfl,by decide,by decide⟩
 ·exact⟨32,(cell_of_row _ _ 2 _ t (0,0) (heap_alloc_last W _)).trans rfl,by decide,by decide⟩
 ·exact⟨16,(cell_of_row _ _ 3 _ t (0,0) (heap_alloc_last W _)).trans rfl,by decide,by decide⟩
 ·exact⟨8,(cell_of_row _ _ 4 _ t (0,0) (heap_alloc_last W _)).trans rfl,by decide,by decide⟩
 ·exact⟨4,(cell_of_row _ _ 5 _ t (0,0) (heap_alloc_last W _)).trans rfl,by decide,by decide⟩
 ·exact⟨2,(cell_of_row _ _ 6 _ t (0,0) (heap_alloc_last W _)).trans rfl,by decide,by decide⟩
 ·exact⟨1,(cell_of_row _ _ 7 _ t (0,0) (heap_alloc_last W _)).trans rfl,by decide,by decide⟩
theorem quo_pow (y s:Nat) (v:Int) (hv:v=(2:Int) ^ s):(48+(y:Int)/v%2)%256=((bitB y s:Nat):Int):=by
 subst hv;rw[div_cast];unfold bitB;omega
theorem openS_yes (t:ByteArray) (m:Nat) (w:World) (ht:¬8000<t.size) (hm:m<=8*t.size) :
  Calls prog 145 #[.string t,.int .i64 m] w fun e w'=>e=.returned (.string (openV t m))/\Below w.heap.size w w':=by
 obtain⟨i0,hi,hz0,hz1,hz2⟩:=info_parts Nu.Tryz.infoJ5;have hd8:decide (8000<(t.size:Int))=false:=decide_eq_false (by omega);have HI:=hideB (is_yes m 0 (8*(t.size:Int)) w (by omega) (by omega));go_enter func145,ntmps145
 go_wp2_with fail
 refine HI.o.mono ?_;rintro e w' ⟨rfl,hw⟩;subst w'
 go_wp2_with (at_make;refine wpList_make_full _ rfl (.tmp 19) (.tmp 19) 22 rfl w.heap.size 5 i0 (.int .u8 0) 1 underlying22 hi hz0 hz1 .i64 .i64 _ _ m rfl rfl (by simp) (by simp) (by rw[hz2];omega) (by unfold maxLen;omega) nl ?_;intro w1 hown1 hgrow1;have HR:=hideB (made_row hown1);have HB:=hideB ((Below.refl w.heap.size w).grown hgrow1 nl (by simp));clear hown1 hgrow1)
 go_loopw [6] (fun i wr=>∃ k:Nat,i=.int .i64 k/\k<=m/\IsB wr w.heap.size 5 .u8 m (fun j=>(opK t k j:Nat))/\Below w.heap.size w wr) (fun i _=>m-(intOf i).toNat)
 case atStart=>exact⟨0,rfl,by omega,IsB.congr HR.o (fun j hj=>by rw[opK_zero];rfl),HB.o⟩
 case round =>
  obtain⟨k,rfl,hk,hr,hbel⟩:=hrel;have HR2:=hideB hr;have GB:=hideB hbel;have hsz:=hbel.size;clear hbel;by_cases hlt:k<m
  ·obtain⟨q,hq⟩:∃ q:Nat,q=k/8:=⟨_,rfl⟩
   have hqi:(k:Int)/8=q:=by omega
   have hqt:q<t.size:=by omega
   obtain⟨y,b0,hy⟩:=byte_at t q hqt;have HY:=hideB hy;have HQ:=hideB hq;have ce:∀ o,(wr.alloc o).cell? ⟨w.heap.size,k,none⟩=some (.int .u8 ((opK t k k:Nat):Int)):=fun o=>(hr.alloc o).cell (by omega);have cf:∀ o,(wr.alloc o).frozen? ⟨w.heap.size,k,none⟩=false:=fun o=>(hr.alloc o).frozen k;clear hr hy hq
   have hy2:(y.toNat:Int)<256:=by have:=y.toNat_lt;omega
   obtain⟨r,hr8⟩:∃ r:Nat,r=k%8:=⟨_,rfl⟩
   have hri:(k:Int)%8=r:=by omega
   have hrl:r<8:=by omega
   obtain⟨p,hp,hp2,hp3⟩:=lit8 wr 2 r hrl
   have HV:Hid ((48+(y.toNat:Int)/p%2)%256=((bitB (bt t (k/8)) (7-k%8):Nat):Int)):=by
    unfold Hid;rw[quo_pow y.toNat (7-r) p hp2,<-hr8,HY.o,HQ.o]
   have HV2:Hid (48+(y.toNat:Int)/p%2=((bitB (bt t (k/8)) (7-k%8):Nat):Int)):=by
    unfold Hid;rw[<-HV.o];omega
   have hpz:(p==0)=false:=by rw[beq_eq_false_iff_ne];omega
   have hq0:0<=(y.toNat:Int)/p:=Int.ediv_nonneg (by omega) (by omega);have hq1:(y.toNat:Int)/p<256:=Int.lt_of_le_of_lt (Int.ediv_le_self _ (by omega)) hy2;clear hp2 hr8
   go_wp2_with fail
   go_region
   all_goals (try go_wp2_with fail)
   all_goals go_roundw
   case rel=>exact⟨k+1,by go_num,by omega,IsB.congr (IsB.set (IsB.of_heap (w':=World.drew (World.alloc wr _)) (IsB.alloc HR2.o _) rfl) k _) (fun j hj=>opK_next t k j _ (by first|exact HV.o|exact HV2.o)),Below.setCell (Below.drew (GB.o.alloc hsz _)) nl _⟩
   case measure=>simp[intOf];omega
  ·obtain rfl:k=m:=by omega
   have hcv:=hr.str (P:=prog) (src:=22) (dst:=9) k k nl (fun j _=>opK_lt t k j) underlying22 underlying5 underlying9;rw[opK_all]at hcv;clear hr
   go_wp2_with fail
   go_ret;exact⟨rfl,GB.o⟩
theorem open_spec (t:ByteArray) (m:Int) (w:World) (ht:t.size<=1048576) :
  Calls prog 145 #[.string t,.int .i64 m] w fun e w'=>e=.returned (.string (openR t m))/\Below w.heap.size w w':=by
 by_cases h:8000<t.size
 ·have HE:=hideB (openR_no t m (Or.inl h))
  go_enter func145,ntmps145
  go_wp2_with fail
  go_ret;exact⟨ret_strJ HE.o.symm,Below.refl _ _⟩
 ·have hd8:decide (8000<(t.size:Int))=false:=decide_eq_false (by omega)
  by_cases h0:m<0∨8*(t.size:Int)<m
  ·have HE:=hideB (openR_no t m (Or.inr h0))
   have HI:=hideB (is_no m 0 (8*(t.size:Int)) w h0);clear h0;go_enter func145,ntmps145
   go_wp2_with fail
   refine HI.o.mono ?_;rintro e w' ⟨rfl,hw⟩;subst w'
   go_wp2_with fail
   go_ret;exact⟨ret_strJ HE.o.symm,Below.refl _ _⟩
  ·obtain⟨k,rfl⟩:∃ k:Nat,m=k:=⟨m.toNat,by omega⟩
   rw[openR_yes t k h (by omega)];exact openS_yes t k w h (by omega)
end Bi
namespace Ze
open Bi (upTo_impl)
open In (Ints OwnI IsO one_newI one_cellI app_one)
open In.Tryz (infoI2)
theorem OwnI.zeros {w:World} {base:Nat} {v:Value} {l:List Int} {m:Nat} (h:w.ownsRow base 2 1 v (l.length+m) (l.map (Value.int .i64)++List.replicate m (.int .i64 0))):OwnI w base v (l++List.replicate m 0):=by
 unfold OwnI;rw[List.length_append,List.map_append,List.length_replicate,List.map_replicate];exact h
theorem zerosBack_impl (l:List Int) (a:Option Addr) (cap B:Nat) (w:World) (hi:Ints w B a l) (hB:B<=w.heap.size) (hn:l.length<=1048576) :
  Calls prog 183 #[.slice a l.length cap] w fun e w'=>∃ v,e=.returned v/\OwnI w' w.heap.size v (backR l)/\Below w.heap.size w w':=by
 obtain⟨i0,hi0,hz0,hz1,hz2⟩:=info_parts infoI2;by_cases hlong:400<l.length
 ·rw[backR_no (numsR_long hlong)]
  clear hi;generalize l.length=n at hlong hn ⊢;go_enter func183,ntmps183
  go_wp2_with fail
  go_ret;exact⟨_,rfl,OwnI.nil _ _,Below.refl _ _⟩
 ·have HU:=hideZ (upTo_impl l 256 a cap B w hi hn)
  cases hu:upTo l 256 with
  |false =>
   rw[backR_no ((numsR_of (by omega)).trans hu)];rw[hu]at HU;clear hi hu;generalize l.length=n at HU hlong hn ⊢;have hd:decide (400<(n:Int))=false:=decide_eq_false (by omega);go_enter func183,ntmps183
   go_wp2_with fail
   refine HU.o.mono ?_;rintro e w' ⟨rfl,hw⟩;subst w'
   go_wp2_with fail
   go_ret;exact⟨_,rfl,OwnI.nil _ _,Below.refl _ _⟩
  |true =>
   have HNR:=hideZ ((numsR_of (by omega)).trans hu);have HUP:=hideZ (upTo_yes hu);rw[hu]at HU;have HS:=hideZ (hi.mono hB);clear hi hu;obtain⟨n,hln⟩:∃ n,n=l.length:=⟨_,rfl⟩;have HLN:=hideZ hln;rw[<-hln]at HU hlong ⊢;clear hln hn;have hd:decide (400<(n:Int))=false:=decide_eq_false (by omega);go_enter func183,ntmps183
   go_wp2_with fail
   refine HU.o.mono ?_;rintro e w' ⟨rfl,hw⟩;subst w'
   go_wp2_with fail
   go_loopw [17,3,4] (fun i u m wr=>∃ k q:Nat,i=.int .i64 k/\m=.int .i64 q/\k<=n/\q=(bst (l.take k)).2/\(bst (l.take k)).1.length<=400/\OwnI wr w.heap.size u (bst (l.take k)).1/\Below w.heap.size w wr) (fun i _ _ _=>n-(intOf i).toNat)
   case atStart=>exact⟨0,1,rfl,rfl,Nat.zero_le _,rfl,by simp[bst],OwnI.nil _ _,Below.refl _ _⟩
   case round =>
    obtain⟨k,q,rfl,rfl,hk,hq,h400,hown,hbel⟩:=hrel;have hwo:=(bst_worth l k (by have:=HLN.o;omega)).2;rw[<-hq]at hwo;have hq4:q<=401:=(by omega);have GB:=hideZ hbel;have HQ:=hideZ hq;have hsz:=hbel.size;obtain⟨a',cap',rfl,_,_⟩:=hown.ints;obtain⟨lk,hlk⟩:∃ lk,lk=(bst (l.take k)).1:=⟨_,rfl⟩;rw[<-hlk]at hown h400 ⊢;have G1:=hideZ hown;have HLK:=hideZ hlk;clear hq hown hbel hlk hwo;by_cases hlt:k<n
    ·have hkl:k<l.length:=by rw[<-HLN.o];exact hlt
     obtain⟨b,off,rfl,hb,hc⟩:=(HS.o.below GB.o).some (by omega);have ci:=hc k hkl;have hx256:=HUP.o _ (List.getElem_mem hkl);obtain⟨x,hx⟩:∃ x,x=l[k]:=⟨_,rfl⟩;have HX:=hideZ hx;rw[<-hx]at ci hx256;clear hc hx;by_cases h0:1<x
     ·have HZ1:Hid (bst (l.take (k+1))=(lk++[x-1],1)):=by
       unfold Hid;rw[bst_one hkl (by rw[<-HX.o];exact h0),HX.o,HLK.o]
      go_wp2_with (at_builtin;refine wpList_append_own _ rfl (.tmp 23) (.tmp 26) 80 rfl w.heap.size 2 i0 (.int .i64 0) 1 8 underlying80 hi0 hz0 hz1 hz2 rfl (by decide) _ _ _ rfl (OwnI.alloc G1.o _) ⟨wr.heap.size,0,none⟩ 1 1 [.int .i64 (x-1)] rfl rfl (one_newI _ _ _) (one_cellI _) (by unfold maxLen;omega) (by omega) (by simp;omega) ?_)
      intro v' w6 hown' hgrow _;have hown6:=OwnI.snoc hown';have b6:=hideZ (app_one GB.o (by omega) nl G1.o hgrow);obtain⟨l6,hl6⟩:∃ l6,l6=lk++[x-1]:=⟨_,rfl⟩;rw[<-hl6]at hown6 HZ1;have N6:=hideZ hown6;obtain⟨a6,cap6,rfl,_,_⟩:=hown6.ints;clear hown' hgrow hown6 hl6;by_cases h4:400<l6.length
      ·have HE:Hid (backR l=[]):=backR_long (k:=k+1) (by have:=HLN.o;omega) (by rw[HZ1.o];exact h4)
       have h4':(400:Int)<(l6.length:Int):=by omega
       (go_wp2_with fail);go_ret;exact⟨_,rfl,by rw[HE.o];exact OwnI.nil _ _,b6.o⟩
      ·have h4':¬(400:Int)<(l6.length:Int):=by omega
       (go_wp2_with fail)
       go_roundw
       case rel=>exact⟨k+1,1,by go_num,rfl,by omega,by rw[HZ1.o],by rw[HZ1.o];simp only;omega,by rw[HZ1.o];exact N6.o,b6.o⟩
       case measure=>simp[intOf];omega
     ·have HZ1:Hid (bst (l.take (k+1))=(lk++List.replicate ((x.toNat+1)*q) 0,q*2)):=by
       unfold Hid;rw[bst_zeros hkl (by rw[<-HX.o];exact h0),HQ.o,HX.o,HLK.o]
      obtain⟨xn,rfl⟩:∃ xn:Nat,x=xn:=⟨x.toNat,by omega⟩;obtain⟨mm,hmm⟩:∃ mm,mm=(xn+1)*q:=⟨_,rfl⟩
      have hm8:mm<=802:=by
       have:xn=0∨xn=1:=by omega
       rcases this with rfl|rfl<;>omega
      have hmul:((xn:Int)+1)*(q:Int)=(mm:Int):=by rw[hmm];simp
      rw[Int.toNat_natCast,<-hmm]at HZ1;clear hmm
      go_wp2_with (at_builtin;refine wpList_append_zeros _ rfl (.tmp 28) (.tmp 32) 80 2 rfl w.heap.size 2 i0 underlying80 underlying2 hi0 hz0 hz1 hz2 _ _ _ rfl G1.o mm rfl (by omega) (by omega) ?_)
      intro v' w6 hown' hgrow;have hown6:=OwnI.zeros hown';have b6:=hideZ (app_row GB.o (by omega) nl G1.o hgrow);obtain⟨l6,hl6⟩:∃ l6,l6=lk++List.replicate mm 0:=⟨_,rfl⟩;rw[<-hl6]at hown6 HZ1;have N6:=hideZ hown6;obtain⟨a6,cap6,rfl,_,_⟩:=hown6.ints;clear hown' hgrow hown6 hl6;by_cases h4:400<l6.length
      ·have HE:Hid (backR l=[]):=backR_long (k:=k+1) (by have:=HLN.o;omega) (by rw[HZ1.o];exact h4)
       have h4':(400:Int)<(l6.length:Int):=by omega
       (go_wp2_with fail);go_ret;exact⟨_,rfl,by rw[HE.o];exact OwnI.nil _ _,b6.o⟩
      ·have h4':¬(400:Int)<(l6.length:Int):=by omega
       (go_wp2_with fail)
       go_roundw
       case rel=>exact⟨k+1,q*2,by go_num,by go_num,by omega,by rw[HZ1.o],by rw[HZ1.o];simp only;omega,by rw[HZ1.o];exact N6.o,b6.o⟩
       case measure=>simp[intOf];omega
    ·have hkn:k=l.length:=by have:=HLN.o;omega
     have HT:Hid (l.take k=l):=by
      unfold Hid;rw[hkn,List.take_length]
     have HE:Hid (backR l=lk):=by
      unfold Hid;rw[HLK.o,HT.o,backR_yes HNR.o (by rw[<-HT.o,<-HLK.o];exact h400)]
     clear hkn;(go_wp2_with fail);go_ret;exact⟨_,rfl,by rw[HE.o];exact G1.o,GB.o⟩
end Ze
namespace Bi
open In (Ints)
open St (IsS)
open Nu (ret_strJ own_string bv)
theorem own_lenB {w:World} {B m n:Nat} {e:TypeId} {v:Value} {xs:List Value} (h:w.ownsRow B e 1 v m xs) (hm:m=n):w.ownsRow B e 1 v n xs:=by rw[<-hm];exact h
theorem l04Put_any (l s:List Int) (a a':Option Addr) (cap cap':Nat) (w:World) (hl:Ints w w.heap.size a l) (hs:Ints w w.heap.size a' s) (hm:¬400<s.length) (hw:whole l=true) (hok:∀ x∈s,okS l x) :
  Calls prog 136 #[.slice a l.length cap,.slice a' s.length cap'] w fun e w'=>e=.returned (.string ⟨(putL l s).toArray⟩)/\Below w.heap.size w w':=by
 obtain⟨i0,hi0,hz0,hz1,hz2⟩:=info_parts Sb.builderX.infoByte;have HC:=hideB (codes_spec l a cap w.heap.size w hl nl (whole_right hw));have HS:=hideB hs;have HK:=hideB (whole_ok hw);have hn:=whole_len hw;have HCL:=hideB (codesV_length l);have HOK:=hideB (fun (j:Nat) (hj:j<s.length)=>hok _ (List.getElem_mem hj));clear hl hs hw hok;obtain⟨n,hln⟩:∃ n,n=l.length:=⟨_,rfl⟩;obtain⟨m,hms⟩:∃ m,m=s.length:=⟨_,rfl⟩;have HLN:=hideB hln;have HMS:=hideB hms;rw[<-hln]at hn HC HCL ⊢;rw[<-hms]at hm ⊢;clear hln hms;go_enter func136,ntmps136
 go_wp2_with fail
 refine HC.o.mono ?_;rintro e w1 ⟨rfl,hi1,hb1⟩;have X1:=hideB hi1;have B1:=hideB hb1;have z1:w.heap.size<w1.heap.size:=hi1.lt;clear hi1 hb1
 go_wp2_with fail
 go_loopw [7,6] (fun i v wr=>∃ k:Nat,i=.int .i64 k/\k<=m/\wr.ownsRow w1.heap.size 5 1 v (putL l (s.take k)).length (Lib.byteCells (putL l (s.take k)))/\Below w1.heap.size w1 wr) (fun i _ _=>m-(intOf i).toNat)
 case atStart=>exact⟨0,rfl,Nat.zero_le _,World.ownsRow_made _ _ _ nl (by decide) rfl,(Below.refl _ _).alloc nl _⟩
 case round =>
  obtain⟨k,rfl,hk,hown,hbel⟩:=hrel;have HO:=hideB hown;have GB:=hideB hbel;have hbz:=hbel.size;clear hown hbel;by_cases hlt:k<m
  ·have hkl:k<s.length:=by rw[<-HMS.o];exact hlt
   obtain⟨b,off,rfl,hb,hc⟩:=(HS.o.below (B1.o.trans (GB.o.mono (Nat.le_of_lt z1)))).some (by omega);have ci:=hc k hkl;have HM:=hideB (putL_more (l:=l) hkl);have ho:=HOK.o k hkl;obtain⟨x,hx⟩:∃ x,x=s[k]:=⟨_,rfl⟩;rw[<-hx]at ci HM ho;clear hc hx;obtain⟨i,rfl⟩:∃ i:Nat,x=i:=⟨x.toNat,by have:=ho.1;omega⟩
   have hin:i<n:=by have h1:=ho.2.1;have h2:=HLN.o;omega
   have hiv:i<(codesV l).length:=by rw[HCL.o];omega
   have cc:=(X1.o.below GB.o z1).cell hiv;rw[codes_get l HK.o i hiv]at cc;have hcl:=codeOf_le l HK.o i;obtain⟨c,hcc⟩:∃ c,c=codeOf l i:=⟨_,rfl⟩;have HCC:=hideB hcc;rw[<-hcc]at cc hcl;clear hcc ho;obtain⟨q,hq⟩:∃ q,q=(putL l (s.take k)).length:=⟨_,rfl⟩
   have hqb:q<=4800:=by
    have h1:=putL_le l HK.o (s.take k);rw[List.length_take]at h1;omega
   have HNX:Hid (Lib.byteCells (putL l (s.take k))++Lib.strCells c=Lib.byteCells (putL l (s.take (k+1)))):=by
    unfold Hid;rw[HM.o,Lib.byteCells_append,Lib.strCells_eq,HCC.o];rfl
   have HNL:Hid (q+c.size=(putL l (s.take (k+1))).length):=by
    unfold Hid;rw[HM.o,List.length_append,hq,HCC.o];rfl
   have hown:=HO.o;rw[<-hq]at hown;clear hq
   go_wp2_with (at_builtin;refine Lib.wpList_append_own_string _ rfl _ _ 22 9 rfl w1.heap.size 5 i0 underlying22 underlying9 hi0 hz0 hz1 hz2 _ _ _ rfl hown c rfl ?c3 ?c4 ?c5 ?_)
   case c3=>unfold maxLen;omega
   case c4=>omega
   case c5=>omega
   intro v' w2 hown' hgrow _;rw[HNX.o]at hown';have R2:=hideB (own_lenB hown' HNL.o);have B2:=hideB (GB.o.grown hgrow (by omega) (fun k hk=>(hown.lt k hk).1));clear hown' hgrow hown
   go_wp2_with fail
   go_roundw
   case rel=>exact⟨k+1,by go_num,by omega,R2.o,B2.o⟩
   case measure=>simp[intOf];omega
  ·have HE:Hid (putL l (s.take k)=putL l s):=by
    unfold Hid;rw[List.take_of_length_le (by have:=HMS.o;omega)]
   have hcv:=own_string (P:=prog) (src:=22) (dst:=9) (putL l (s.take k)) HO.o underlying22 underlying5 underlying9;rw[HE.o]at hcv
   go_wp2_with fail
   go_ret;exact⟨rfl,B1.o.trans (GB.o.mono (Nat.le_of_lt z1))⟩
end Bi
namespace So
open In (OwnI IsO one_newI one_cellI)
open In.Tryz (infoI2)
open Ze (own_some own_news own_cells)
theorem turn_spec (t:ByteArray) (k:Nat) (w:World) (ht:t.size<=1048576) (hk:k<=t.size) :
  Calls prog 205 #[.string t,.int .i64 k] w fun e w'=>e=.returned (.string (turnV t k))/\∃ q,w'=w.drewN q:=by
 have mixed:=mixed;unfold turnV
 have hq0:(t.extract k t.size).size+(t.extract 0 k).size<=9223372036854775807:=by simp;omega
 have hle:(k:Int)<=(t.size:Int):=by omega
 have hge:¬(t.size:Int)<(k:Int):=by omega
 go_enter func205,ntmps205
 go_wp2_with fail
 go_quiet (fail)
 go_wp2_with fail
 go_ret;exact⟨rfl,nq,rfl⟩
theorem below_drewN {B:Nat} {w w':World} (h:Below B w w') (n:Nat):Below B w (w'.drewN n):=⟨h.os,h.tape,h.output,h.size,h.block⟩
theorem own_drewN {w:World} {base:Nat} {v:Value} {l:List Int} (h:OwnI w base v l) (n:Nat):OwnI (w.drewN n) base v l :=
 h.below (below_drewN (Below.refl _ _) n)
theorem isO_take {w:World} {g:Nat} {l:List Nat} (h:IsO w g 2 (ints l)) (p:Nat):IsO w g 2 (ints (l.take p)):=by
 obtain⟨cur,hb,hc⟩:=h;refine⟨cur,hb,fun j hj=>?_⟩
 have hj2:j<min p l.length:=by simpa [ints] using hj
 have hj':j<p/\j<l.length:=by omega
 have:=hc j (by rw[ints_len];exact hj'.2)
 simpa [ints] using this
theorem isO_drop {w:World} {g:Nat} {l:List Nat} (h:IsO w g 2 (ints l)) (p:Nat):∀ (j:Nat) (u:Value),((ints (l.drop p)).map (Value.int .i64))[j]? = some u->w.cell? ((⟨g,p,none⟩:Addr).add j)=some u:=by
 intro j u hj
 have hadd:(⟨g,p,none⟩:Addr).add j=⟨g,p+j,none⟩:=by unfold Addr.add;split<;>simp_all
 rw[hadd];simp only[ints,List.getElem?_map,List.getElem?_drop]at hj
 cases hl:l[p+j]? with
 |none=>rw[hl]at hj;cases hj
 |some x =>
  rw[hl]at hj;obtain⟨hlt,hx⟩:=List.getElem?_eq_some_iff.1 hl;rw[h.cell (j:=p+j) (by rw[ints_len];exact hlt)];simp[ints,hx]at hj ⊢;exact hj
theorem block_spec (t:ByteArray) (w:World) (hn:t.size<=1048576):Calls prog 68 #[.string t] w fun e w'=>e=.returned (.bool (decide (t.size<=48)))/\w'=w:=by
 by_cases h:t.size<=48
 ·rw[decide_eq_true h]
  have h':(t.size:Int)<=48:=by omega
  go_enter func68,ntmps68
  go_wp2_with fail
  go_ret;exact⟨rfl,rfl⟩
 ·rw[decide_eq_false h]
  have h':decide ((t.size:Int)<=48)=false:=decide_eq_false (by omega);go_enter func68,ntmps68
  go_wp2_with fail
  go_ret;exact⟨rfl,rfl⟩
theorem own_ne {w:World} {base:Nat} {v:Value} {l:List Int} (h:OwnI w base v l) (hl:0<l.length):v≠.slice none 0 0:=by
 rcases h.split with⟨_,rfl⟩|⟨g,cap,rfl,_⟩
 ·simp at hl
 ·simp
theorem order_spec (t:ByteArray) (w:World) (ht:t.size<=48) :
  Calls prog 172 #[.string t] w fun e w'=>∃ v l,e=.returned v/\OwnI w' w.heap.size v (ints l)/\OrdOk t l/\v≠.slice none 0 0/\Below w.heap.size w w':=by
 have mixed:=mixed;obtain⟨i0,hi0,hz0,hz1,hz2⟩:=info_parts infoI2;have HW:=hideO (Ze.OwnI.empty w);have HT:=hideO (fun (k:Nat) (W:World) (hk:k<=t.size)=>turn_spec t k W (by omega) hk)
 have htz:(t.size:Int)<=48:=by omega
 go_enter func172,ntmps172
 go_wp2_with fail
 go_loopw [4,3] (fun i u wr=>∃ (k:Nat) (l:List Nat),i=.int .i64 k/\k<=t.size/\l.Perm (List.range k)/\l.Pairwise (lx (clT (turnV t)))/\OwnI wr w.heap.size u (ints l)/\u≠.slice none 0 0/\Below w.heap.size w wr) (fun i _ _=>t.size-(intOf i).toNat)
 case atStart=>exact⟨0,[],rfl,Nat.zero_le _,List.Perm.refl _,List.Pairwise.nil,HW.o,by simp,(Below.refl _ _).alloc nl _⟩
 case round =>
  obtain⟨k,l,rfl,hk,hp,hs,hown,hne,hbel⟩:=hrel;have HP:=hideO hp;have HS:=hideO hs;have GB:=hideO hbel;have hsz:=hbel.size
  have hlk:l.length=k:=by have:=hp.length_eq;simpa using this
  have HL:=hideO hlk;have G1:=hideO hown;obtain⟨g,cap,rfl,hg,hgl,ho⟩:=own_some hown hne;rw[ints_len,hlk]at G1 ⊢;have HO:=hideO ho
  have hcap:k<=cap:=by
   obtain⟨_,h⟩:=hown
   rcases h with⟨h,_⟩|⟨g',cap',cur,hv,_,_,hle,_⟩
   ·cases h
   ·simp at hv
    rw[ints_len,hlk]at hle;omega
  have hcm:cap<=maxLen:=by
   obtain⟨_,h⟩:=hown
   rcases h with⟨h,_⟩|⟨g',cap',cur,hv,_,_,_,hle,_⟩
   ·cases h
   ·simp at hv
    omega
  clear hown hne hbel hp hs ho hlk;by_cases hlt:k<t.size
  ·have hlt':(k:Int)<(t.size:Int):=by omega
   obtain⟨wo,hwo⟩:∃ wo,wo=wr:=⟨_,rfl⟩;subst hwo
   go_wp2_with fail
   go_loopw [5] (fun i wr2=>∃ (p q:Nat),i=.int .i64 p/\p<=k/\(∀ j (h:j<l.length),p<=j->clT (turnV t) k l[j]=true)/\wr2=wo.drewN q) (fun i _=>(intOf i).toNat)
   case atStart=>exact⟨k,0,rfl,nl,fun j h1 h2=>absurd h1 (by have:=HL.o;omega),rfl⟩
   case round =>
    obtain⟨p,q,rfl,hpk,hhi,hwr⟩:=hrel;have HHI:=hideO hhi;have HWR:=hideO hwr;have hO2:IsO wr g 2 (ints l):=(by rw[hwr];exact HO.o.of_heap rfl);clear hhi hwr;by_cases hp0:0<p
    ·obtain⟨pp,hpp⟩:∃ pp,p=pp+1:=⟨p-1,by omega⟩
     have hppl:pp<l.length:=by have:=HL.o;omega
     have c0:=hO2.cell (j:=pp) (by rw[ints_len];exact hppl);have ey:(ints l)[pp]'(by rw[ints_len];exact hppl)=((l[pp]:Nat):Int):=(by simp[ints]);rw[ey]at c0
     have hyk:l[pp]<k:=by
      have:=HP.o.mem_iff.1 (List.getElem_mem hppl)
      simpa using this
     obtain⟨y,hy⟩:∃ y,y=l[pp]:=⟨_,rfl⟩;rw[<-hy]at c0 hyk;have c1:=fun n'=>(show (wr.drewN n').cell? ⟨g,pp,none⟩=some (.int .i64 (y:Nat)) from c0);have HTK:=hideO (fun W=>HT.o k W (by omega));have HTY:=hideO (fun W=>HT.o y W (by omega));have HCL:Hid (Op.bytesLess (turnV t k).toList (turnV t y).toList=clT (turnV t) k y):=rfl;have e1:(p:Int)-1=(pp:Int):=(by omega);have hwp:IntKind.i64.wrap (pp:Int)=(pp:Int):=(by rw[IntKind.wrap_i64];omega);have hpz:(pp:Int)<(k:Int):=(by omega);have hp0':(0:Int)<(p:Int):=(by omega);have hpd:decide ((0:Int)<(p:Int))=true:=decide_eq_true hp0';have HPP:=hideO hpp;have HY:=hideO hy;generalize turnV t k=A at HTK HCL;generalize turnV t y=B at HTY HCL;clear c0 ey hpp hy hO2
     cases hcb:clT (turnV t) k y with
     |true =>
      have hbl:Op.bytesLess A.toList B.toList=true:=HCL.o.trans hcb
      have HC2:Hid (∀ j (h:j<l.length),pp<=j->clT (turnV t) k l[j]=true):=fun j h1 h2=>by
       rcases Nat.eq_or_lt_of_le h2 with e|e
       ·subst e
        rw[<-HY.o];exact hcb
       ·exact HHI.o j h1 (by have:=HPP.o;omega)
      (go_wp2_with fail)
      go_quiet (first|(go_at_call 205;(with_reducible refine Calls.quiet_of (HTK.o _)))|(go_at_call 205;(with_reducible refine Calls.quiet_of (HTY.o _))))
      all_goals (try go_wp2_with fail)
      go_roundw
      case rel=>exact⟨pp,q+nq,rfl,by omega,HC2.o,by rw[HWR.o];exact World.drewN_drewN _ _ _⟩
      case measure=>have:=HPP.o;simp[intOf];omega
     |false =>
      have hbl:Op.bytesLess A.toList B.toList=false:=HCL.o.trans hcb;(go_wp2_with fail)
      go_quiet (first|(go_at_call 205;(with_reducible refine Calls.quiet_of (HTK.o _)))|(go_at_call 205;(with_reducible refine Calls.quiet_of (HTY.o _))))
      have HQ:=hideO (ord_put (clT_weak (turnV t)) HP.o HS.o (show p<=l.length by have:=HL.o;omega) HHI.o (by
       have:=HPP.o
       exact Or.inr ⟨by omega,by
        have e:l[p-1]'(by omega)=y:=by rw[HY.o];congr 1;omega
        rw[e]
        exact hcb⟩))
      have G4:=hideO (own_drewN G1.o (q+nq));have O4:Hid (IsO (wo.drewN (q+nq)) g 2 (ints l)):=HO.o.of_heap rfl;have B4:=hideO (below_drewN GB.o (q+nq));have hW:wr.drewN nq=wo.drewN (q+nq):=(by rw[HWR.o];exact World.drewN_drewN _ _ _);have z4:g<(wo.drewN (q+nq)).heap.size:=hgl;have zs4:w.heap.size<=(wo.drewN (q+nq)).heap.size:=hsz;rw[hW];clear hW;generalize wo.drewN (q+nq)=W at G4 O4 B4 z4 zs4 ⊢;have HEM:=hideO (Ze.OwnI.empty W)
      have HTA:Hid ((ints l).length=k):=by
       unfold Hid;rw[ints_len,HL.o]
      have hpc:(p:Int)<=(cap:Int):=by omega
      have hpk':(p:Int)<=(k:Int):=by omega
      go_wp2_with (at_builtin;refine wpList_append_own _ rfl (.tmp 33) (.tmp 36) 80 rfl W.heap.size 2 i0 (.int .i64 0) 1 8 underlying80 hi0 hz0 hz1 hz2 rfl (by decide) _ 0 [] rfl HEM.o ⟨g,0,none⟩ p cap ((ints (l.take p)).map (Value.int .i64)) rfl ?len1 ?new1 (own_cells _) (by unfold maxLen;omega) (by omega) (by simp) ?_)
      case len1=>simp[ints_len];have:=HL.o;omega
      case new1=>exact own_news (isO_take (O4.o.below ((Below.refl _ W).alloc nl _) z4) p)
      intro v1 w1 hown1 hgrow1 _
      have HO1:Hid (OwnI w1 W.heap.size v1 (ints (l.take p))):=by
       have e:(ints (l.take p)).length=p:=by simp[ints_len];have:=HL.o;omega
       unfold Hid OwnI;rw[e];exact hown1
      have hb1:Below W.heap.size W w1:=((Below.refl W.heap.size W).alloc nl _).grown hgrow1 (by simp) (fun k hk=>by simp[Value.ownBlock]at hk;omega);have z1:=hb1.size;have O1:=hideO (O4.o.below hb1 z4);have B1:=hideO hb1;clear hown1 hgrow1 hb1
      have HLT:Hid ((ints (l.take p)).length=p):=by
       unfold Hid;simp[ints_len]
       have:=HL.o
       omega
      go_wp2_with (at_builtin;refine wpList_append_own _ rfl (.tmp 38) (.tmp 40) 80 rfl W.heap.size 2 i0 (.int .i64 0) 1 8 underlying80 hi0 hz0 hz1 hz2 rfl (by decide) _ _ _ rfl (Ze.OwnI.alloc HO1.o _) ⟨w1.heap.size,0,none⟩ 1 1 [.int .i64 (k:Nat)] rfl rfl (one_newI _ _ _) (one_cellI _) (by rw[HLT.o];unfold maxLen;omega) (by rw[HLT.o];omega) (by simp;omega) ?_)
      intro v2 w2 hown2 hgrow2 _
      have HO2:Hid (OwnI w2 W.heap.size v2 (ints (l.take p++[k]))):=by
       unfold Hid;rw[ints_snoc];exact In.OwnI.snoc hown2
      have hb2:=In.app_one B1.o z1 nl HO1.o hgrow2;have z2:=hb2.size;have O2:=hideO (O4.o.below hb2 z4);have B2:=hideO hb2;clear hown2 hgrow2 hb2 B1 O1
      have HLT2:Hid ((ints (l.take p++[k])).length=p+1):=by
       unfold Hid;simp[ints_len]
       have:=HL.o
       omega
      have HLD:Hid ((ints (l.drop p)).length=k-p):=by
       unfold Hid;simp[ints_len,HL.o]
      have HFIN:Hid (∀ v3 w3,w3.ownsRow W.heap.size 2 1 v3 (p+1+(k-p)) ((ints (l.take p++[k])).map (Value.int .i64)++(ints (l.drop p)).map (Value.int .i64))->OwnI w3 W.heap.size v3 (ints (l.take p++[k]++l.drop p))):=fun v3 w3 h=>by
       have e:ints (l.take p++[k]++l.drop p)=ints (l.take p++[k])++ints (l.drop p):=by simp[ints]
       rw[e]
       apply Ze.OwnI.joined
       rw[HLT2.o,HLD.o];exact h
      have HOW2:Hid (w2.ownsRow W.heap.size 2 1 v2 (p+1) ((ints (l.take p++[k])).map (Value.int .i64))):=by
       have:=HO2.o
       unfold OwnI at this;rw[HLT2.o]at this;exact this
      have hv2:v2≠.slice none 0 0:=own_ne HO2.o (by rw[HLT2.o];omega);by_cases hkp:p=k
      ·have HD0:Hid (ints (l.drop p)=[]):=by
        unfold Hid;rw[hkp,<-HL.o,List.drop_length];rfl
       subst hkp;by_cases hcp:cap=p
       ·subst hcp
        go_wp2_with (at_builtin;refine wpList_append_own _ rfl (.tmp 42) (.tmp 45) 80 rfl W.heap.size 2 i0 (.int .i64 0) 1 8 underlying80 hi0 hz0 hz1 hz2 rfl (by decide) _ _ _ rfl HOW2.o _ 0 _ [] rfl rfl (by intro j u hj;simp at hj) (by intro u hu;simp at hu) (by unfold maxLen;omega) (by omega) (by omega) ?_)
        intro v3 w3 hown3 hgrow3 _;have HO3:=hideO (HFIN.o v3 w3 (by rw[HD0.o,Nat.sub_self,List.map_nil,List.append_nil];exact hown3));have HN3:=hideO (own_ne HO3.o (by simp[ints_len];omega));have hb3:=hideO (Ze.app_row B2.o z2 nl HO2.o hgrow3);clear hown3 hgrow3;(go_wp2_with fail)
        go_roundw
        case rel=>exact⟨cap+1,_,by go_num,by omega,HQ.o.1,HQ.o.2,HO3.o.mono zs4,HN3.o,B4.o.trans (hb3.o.mono zs4)⟩
        case measure=>simp[intOf];omega
       ·have hcp1:¬(cap:Int)=(p:Int):=by omega
        have hcp2:p<cap:=by omega
        go_wp2_with (at_builtin;refine wpList_append_own _ rfl (.tmp 42) (.tmp 45) 80 rfl W.heap.size 2 i0 (.int .i64 0) 1 8 underlying80 hi0 hz0 hz1 hz2 rfl (by decide) _ _ _ rfl HOW2.o _ 0 _ [] rfl rfl (by intro j u hj;simp at hj) (by intro u hu;simp at hu) (by unfold maxLen;omega) (by omega) (by omega) ?_)
        intro v3 w3 hown3 hgrow3 _;have HO3:=hideO (HFIN.o v3 w3 (by rw[HD0.o,Nat.sub_self,List.map_nil,List.append_nil];exact hown3));have HN3:=hideO (own_ne HO3.o (by simp[ints_len];omega));have hb3:=hideO (Ze.app_row B2.o z2 nl HO2.o hgrow3);clear hown3 hgrow3;(go_wp2_with fail)
        go_roundw
        case rel=>exact⟨p+1,_,by go_num,by omega,HQ.o.1,HQ.o.2,HO3.o.mono zs4,HN3.o,B4.o.trans (hb3.o.mono zs4)⟩
        case measure=>simp[intOf];omega
      ·have hpk2:p<k:=by omega
       have hcp0:¬cap=p:=by omega
       have hcp1:¬(cap:Int)=(p:Int):=by omega
       obtain⟨dl,hdl⟩:∃ dl,dl=k-p:=⟨_,rfl⟩;have edl:(k:Int)-(p:Int)=(dl:Int):=(by omega);have edl2:k-p=dl:=hdl.symm;rw[<-hdl]at HFIN HLD;clear hkp hdl
       go_wp2_with (at_builtin;refine wpList_append_own _ rfl (.tmp 42) (.tmp 45) 80 rfl W.heap.size 2 i0 (.int .i64 0) 1 8 underlying80 hi0 hz0 hz1 hz2 rfl (by decide) _ _ _ rfl HOW2.o ⟨g,p,none⟩ dl _ ((ints (l.drop p)).map (Value.int .i64)) rfl ?len3 ?new3 (own_cells _) ?c31 ?c32 (by omega) ?_)
       case len3=>rw[List.length_map,HLD.o,Nat.mul_one]
       case new3=>exact isO_drop O2.o p
       case c31=>have:=HLD.o;unfold maxLen;omega
       case c32=>have:=HLD.o;omega
       intro v3 w3 hown3 hgrow3 _;have HO3:=hideO (HFIN.o v3 w3 hown3);have HN3:=hideO (own_ne HO3.o (by simp[ints_len];omega));have hb3:=hideO (Ze.app_row B2.o z2 nl HO2.o hgrow3);clear hown3 hgrow3;(go_wp2_with fail)
       go_roundw
       case rel=>exact⟨k+1,_,by go_num,by omega,HQ.o.1,HQ.o.2,HO3.o.mono zs4,HN3.o,B4.o.trans (hb3.o.mono zs4)⟩
       case measure=>simp[intOf];omega
    ·have hpd:decide ((0:Int)<(p:Int))=false:=decide_eq_false (by omega)
     have hpn:¬(0:Int)<(p:Int):=by omega
     clear hO2;(go_wp2_with fail)
     go_quiet (fail)
     have HQ:=hideO (ord_put (clT_weak (turnV t)) HP.o HS.o (show p<=l.length by have:=HL.o;omega) HHI.o (by exact Or.inl (by omega)));have G4:=hideO (own_drewN G1.o (q+nq));have O4:Hid (IsO (wo.drewN (q+nq)) g 2 (ints l)):=HO.o.of_heap rfl;have B4:=hideO (below_drewN GB.o (q+nq));have hW:wr.drewN nq=wo.drewN (q+nq):=(by rw[HWR.o];exact World.drewN_drewN _ _ _);have z4:g<(wo.drewN (q+nq)).heap.size:=hgl;have zs4:w.heap.size<=(wo.drewN (q+nq)).heap.size:=hsz;rw[hW];clear hW;generalize wo.drewN (q+nq)=W at G4 O4 B4 z4 zs4 ⊢;have HEM:=hideO (Ze.OwnI.empty W)
     have HTA:Hid ((ints l).length=k):=by
      unfold Hid;rw[ints_len,HL.o]
     have hpc:(p:Int)<=(cap:Int):=by omega
     have hpk':(p:Int)<=(k:Int):=by omega
     go_wp2_with (at_builtin;refine wpList_append_own _ rfl (.tmp 33) (.tmp 36) 80 rfl W.heap.size 2 i0 (.int .i64 0) 1 8 underlying80 hi0 hz0 hz1 hz2 rfl (by decide) _ 0 [] rfl HEM.o ⟨g,0,none⟩ p cap ((ints (l.take p)).map (Value.int .i64)) rfl ?len1 ?new1 (own_cells _) (by unfold maxLen;omega) (by omega) (by simp) ?_)
     case len1=>simp[ints_len];have:=HL.o;omega
     case new1=>exact own_news (isO_take (O4.o.below ((Below.refl _ W).alloc nl _) z4) p)
     intro v1 w1 hown1 hgrow1 _
     have HO1:Hid (OwnI w1 W.heap.size v1 (ints (l.take p))):=by
      have e:(ints (l.take p)).length=p:=by simp[ints_len];have:=HL.o;omega
      unfold Hid OwnI;rw[e];exact hown1
     have hb1:Below W.heap.size W w1:=((Below.refl W.heap.size W).alloc nl _).grown hgrow1 (by simp) (fun k hk=>by simp[Value.ownBlock]at hk;omega);have z1:=hb1.size;have O1:=hideO (O4.o.below hb1 z4);have B1:=hideO hb1;clear hown1 hgrow1 hb1
     have HLT:Hid ((ints (l.take p)).length=p):=by
      unfold Hid;simp[ints_len]
      have:=HL.o
      omega
     go_wp2_with (at_builtin;refine wpList_append_own _ rfl (.tmp 38) (.tmp 40) 80 rfl W.heap.size 2 i0 (.int .i64 0) 1 8 underlying80 hi0 hz0 hz1 hz2 rfl (by decide) _ _ _ rfl (Ze.OwnI.alloc HO1.o _) ⟨w1.heap.size,0,none⟩ 1 1 [.int .i64 (k:Nat)] rfl rfl (one_newI _ _ _) (one_cellI _) (by rw[HLT.o];unfold maxLen;omega) (by rw[HLT.o];omega) (by simp;omega) ?_)
     intro v2 w2 hown2 hgrow2 _
     have HO2:Hid (OwnI w2 W.heap.size v2 (ints (l.take p++[k]))):=by
      unfold Hid;rw[ints_snoc];exact In.OwnI.snoc hown2
     have hb2:=In.app_one B1.o z1 nl HO1.o hgrow2;have z2:=hb2.size;have O2:=hideO (O4.o.below hb2 z4);have B2:=hideO hb2;clear hown2 hgrow2 hb2 B1 O1
     have HLT2:Hid ((ints (l.take p++[k])).length=p+1):=by
      unfold Hid;simp[ints_len]
      have:=HL.o
      omega
     have HLD:Hid ((ints (l.drop p)).length=k-p):=by
      unfold Hid;simp[ints_len,HL.o]
     have HFIN:Hid (∀ v3 w3,w3.ownsRow W.heap.size 2 1 v3 (p+1+(k-p)) ((ints (l.take p++[k])).map (Value.int .i64)++(ints (l.drop p)).map (Value.int .i64))->OwnI w3 W.heap.size v3 (ints (l.take p++[k]++l.drop p))):=fun v3 w3 h=>by
      have e:ints (l.take p++[k]++l.drop p)=ints (l.take p++[k])++ints (l.drop p):=by simp[ints]
      rw[e]
      apply Ze.OwnI.joined
      rw[HLT2.o,HLD.o];exact h
     have HOW2:Hid (w2.ownsRow W.heap.size 2 1 v2 (p+1) ((ints (l.take p++[k])).map (Value.int .i64))):=by
      have:=HO2.o
      unfold OwnI at this;rw[HLT2.o]at this;exact this
     have hv2:v2≠.slice none 0 0:=own_ne HO2.o (by rw[HLT2.o];omega);by_cases hkp:p=k
     ·have HD0:Hid (ints (l.drop p)=[]):=by
       unfold Hid;rw[hkp,<-HL.o,List.drop_length];rfl
      subst hkp;by_cases hcp:cap=p
      ·subst hcp
       go_wp2_with (at_builtin;refine wpList_append_own _ rfl (.tmp 42) (.tmp 45) 80 rfl W.heap.size 2 i0 (.int .i64 0) 1 8 underlying80 hi0 hz0 hz1 hz2 rfl (by decide) _ _ _ rfl HOW2.o _ 0 _ [] rfl rfl (by intro j u hj;simp at hj) (by intro u hu;simp at hu) (by unfold maxLen;omega) (by omega) (by omega) ?_)
       intro v3 w3 hown3 hgrow3 _;have HO3:=hideO (HFIN.o v3 w3 (by rw[HD0.o,Nat.sub_self,List.map_nil,List.append_nil];exact hown3));have HN3:=hideO (own_ne HO3.o (by simp[ints_len];omega));have hb3:=hideO (Ze.app_row B2.o z2 nl HO2.o hgrow3);clear hown3 hgrow3;(go_wp2_with fail)
       go_roundw
       case rel=>exact⟨cap+1,_,by go_num,by omega,HQ.o.1,HQ.o.2,HO3.o.mono zs4,HN3.o,B4.o.trans (hb3.o.mono zs4)⟩
       case measure=>simp[intOf];omega
      ·have hcp1:¬(cap:Int)=(p:Int):=by omega
       have hcp2:p<cap:=by omega
       go_wp2_with (at_builtin;refine wpList_append_own _ rfl (.tmp 42) (.tmp 45) 80 rfl W.heap.size 2 i0 (.int .i64 0) 1 8 underlying80 hi0 hz0 hz1 hz2 rfl (by decide) _ _ _ rfl HOW2.o _ 0 _ [] rfl rfl (by intro j u hj;simp at hj) (by intro u hu;simp at hu) (by unfold maxLen;omega) (by omega) (by omega) ?_)
       intro v3 w3 hown3 hgrow3 _;have HO3:=hideO (HFIN.o v3 w3 (by rw[HD0.o,Nat.sub_self,List.map_nil,List.append_nil];exact hown3));have HN3:=hideO (own_ne HO3.o (by simp[ints_len];omega));have hb3:=hideO (Ze.app_row B2.o z2 nl HO2.o hgrow3);clear hown3 hgrow3;(go_wp2_with fail)
       go_roundw
       case rel=>exact⟨p+1,_,by go_num,by omega,HQ.o.1,HQ.o.2,HO3.o.mono zs4,HN3.o,B4.o.trans (hb3.o.mono zs4)⟩
       case measure=>simp[intOf];omega
     ·have hpk2:p<k:=by omega
      have hcp0:¬cap=p:=by omega
      have hcp1:¬(cap:Int)=(p:Int):=by omega
      obtain⟨dl,hdl⟩:∃ dl,dl=k-p:=⟨_,rfl⟩;have edl:(k:Int)-(p:Int)=(dl:Int):=(by omega);have edl2:k-p=dl:=hdl.symm;rw[<-hdl]at HFIN HLD;clear hkp hdl
      go_wp2_with (at_builtin;refine wpList_append_own _ rfl (.tmp 42) (.tmp 45) 80 rfl W.heap.size 2 i0 (.int .i64 0) 1 8 underlying80 hi0 hz0 hz1 hz2 rfl (by decide) _ _ _ rfl HOW2.o ⟨g,p,none⟩ dl _ ((ints (l.drop p)).map (Value.int .i64)) rfl ?len3 ?new3 (own_cells _) ?c31 ?c32 (by omega) ?_)
      case len3=>rw[List.length_map,HLD.o,Nat.mul_one]
      case new3=>exact isO_drop O2.o p
      case c31=>have:=HLD.o;unfold maxLen;omega
      case c32=>have:=HLD.o;omega
      intro v3 w3 hown3 hgrow3 _;have HO3:=hideO (HFIN.o v3 w3 hown3);have HN3:=hideO (own_ne HO3.o (by simp[ints_len];omega));have hb3:=hideO (Ze.app_row B2.o z2 nl HO2.o hgrow3);clear hown3 hgrow3;(go_wp2_with fail)
      go_roundw
      case rel=>exact⟨k+1,_,by go_num,by omega,HQ.o.1,HQ.o.2,HO3.o.mono zs4,HN3.o,B4.o.trans (hb3.o.mono zs4)⟩
      case measure=>simp[intOf];omega
  ·obtain rfl:k=t.size:=by omega
   go_wp2_with fail
   go_ret;exact⟨_,l,rfl,G1.o,⟨HP.o,HS.o⟩,by simp,GB.o⟩
end So
namespace Fr
open Sh (IsB rowF upd made_row upd_same upd_other strF)
open Ze (hideZ numsR upTo upTo_yes numsR_of numsR_long numsR_yes nums_spec)
open St (Aft)
open In (Ints)
open Nu (ret_strJ bv own_string app_below)
open Ap (Own0 wpList_append_own0)
def Own0B (w:World) (base:Nat) (v:Value) (l:List UInt8):Prop:=Own0 w base 5 1 v l.length (l.map bv)
theorem own0_string {P:Program} {w:World} {base src dst:TypeId} {v:Value} (l:List UInt8) (h:Own0B w base v l)
  (hs:P.underlying src=some (.slice 5)) (he:P.underlying 5=some (.int .u8)) (hd:P.underlying dst=some .string) :
  (convert src dst v).run P w=.ok (.string ⟨l.toArray⟩) w:=by
 rcases h with⟨b,rfl,h0,_⟩|h
 ·obtain rfl:l=[]:=List.eq_nil_of_length_eq_zero h0
  exact run_convert_bytes_back w src dst 5 b 0 [] hs he hd (by intro j hj;exact absurd hj (Nat.not_lt_zero j))
 ·exact own_string l h hs he hd
theorem one_newB (W:World) (s:Int) (t:TypeId):∀ (j:Nat) (u:Value),[(Value.int .u8) s][j]? = some u->(W.alloc (.cells #[.int .u8 s] t)).cell? ((⟨W.heap.size,0,none⟩:Addr).add j)=some u:=by
 intro j u hj
 match j,hj with
 |0,hj=>simp at hj;subst hj;simp[Addr.add]
theorem one_cellB (s:Int):∀ u∈[(Value.int .u8) s],u.oneCell'=true:=by
 intro u hu;simp at hu;subst hu;rfl
theorem own0B_snoc {w:World} {base:Nat} {v:Value} {l:List UInt8} {x:Int} (h0:0<=x) (h1:x<256) (h:w.ownsRow base 5 1 v (l.length+1) (l.map bv++[.int .u8 x])):Own0B w base v (l++[UInt8.ofNat x.toNat]):=by
 refine .inr ?_
 have e:bv (UInt8.ofNat x.toNat)=.int .u8 x:=by
  simp[bv];omega
 rw[List.length_append,List.map_append,List.map_singleton,e];exact h
theorem frontBack_spec (l:List Int) (a:Option Addr) (cap B:Nat) (w:World) (hi:Ints w B a l) (hB:B<=w.heap.size) (hn:l.length<=1048576) :
  Calls prog 147 #[.slice a l.length cap] w fun e w'=>e=.returned (.string ⟨(fbackR l).toArray⟩)/\Below w.heap.size w w':=by
 obtain⟨i0,hi0,hz0,hz1,hz2⟩:=info_parts Nu.Tryz.infoJ5;have HS:=hideZ (hi.mono hB);have HU:=hideZ (fun W (hW:Below w.heap.size w W)=>nums_spec l 255 a cap w.heap.size W ((hi.mono hB).below hW) hn);have hb0:Below w.heap.size w (w.alloc (.cells #[] 5)):=(Below.refl _ _).alloc nl _;have HB0:=hideZ hb0;have HRS:=hideZ (row_spec (w.alloc (.cells #[] 5)))
 have zs:(w.alloc (.cells #[] 5)).heap.size=w.heap.size+1:=by simp
 rw[zs]at HRS;clear hi hb0 zs
 cases hu:numsR l 255 with
 |false =>
  rw[fbackR_no hu];rw[hu]at HU;clear hu;generalize l.length=n at HU hn ⊢;go_enter func147,ntmps147
  go_wp2_with fail
  refine HRS.o.mono ?_;rintro e w1 ⟨rfl,hr1,hb1⟩;have HB1:=hideZ (HB0.o.trans (hb1.mono (by omega)));have H0:Hid (Own0B w1 (w.heap.size+2) (.slice (some ⟨w.heap.size,0,none⟩) 0 0) []):=.inl ⟨_,rfl,rfl,rfl⟩;have hcv:=own0_string (P:=prog) (src:=22) (dst:=9) [] H0.o underlying22 underlying5 underlying9;clear hr1 hb1;by_cases h0:0<n
  ·have hd0:decide ((0:Int)<(n:Int))=true:=decide_eq_true (by omega)
   go_wp2_with fail
   go_loopw [5,3] (fun i u wr=>i=.int .i64 0/\u=.slice (some ⟨w.heap.size,0,none⟩) 0 0/\wr=w1) (fun _ _ _=>0)
   case atStart=>exact⟨rfl,rfl,rfl⟩
   case round =>
    obtain⟨rfl,rfl,rfl⟩:=hrel;(go_wp2_with fail);refine(HU.o _ HB1.o).mono ?_;rintro e w' ⟨rfl,hw⟩;subst w';(go_wp2_with fail);go_ret;exact⟨rfl,HB1.o⟩
  ·have hd0:decide ((0:Int)<(n:Int))=false:=decide_eq_false (by omega)
   go_wp2_with fail
   go_loopw [5,3] (fun i u wr=>i=.int .i64 0/\u=.slice (some ⟨w.heap.size,0,none⟩) 0 0/\wr=w1) (fun _ _ _=>0)
   case atStart=>exact⟨rfl,rfl,rfl⟩
   case round =>
    obtain⟨rfl,rfl,rfl⟩:=hrel;(go_wp2_with fail);go_ret;exact⟨rfl,HB1.o⟩
 |true =>
  rw[fbackR_yes hu];have HUP:=hideZ (upTo_yes (numsR_yes hu).2);have hlong:=(numsR_yes hu).1;rw[hu]at HU;clear hu;obtain⟨n,hln⟩:∃ n,n=l.length:=⟨_,rfl⟩;have HLN:=hideZ hln;rw[<-hln]at HU hlong ⊢;clear hln hn;go_enter func147,ntmps147
  go_wp2_with fail
  refine HRS.o.mono ?_;rintro e w1 ⟨rfl,hr1,hb1⟩;have HB1:=hideZ (HB0.o.trans (hb1.mono (by omega)));have HR1:=hideZ hr1;have hg1:=hr1.lt;clear hr1 hb1 HRS
  go_wp2_with fail
  go_loopw [5,3] (fun i u wr=>∃ k:Nat,i=.int .i64 k/\k<=n/\IsB wr (w.heap.size+1) 5 .u8 256 (kst (l.take k)).2/\Own0B wr (w.heap.size+2) u (kst (l.take k)).1/\Below w.heap.size w wr) (fun i _ _=>n-(intOf i).toNat)
  case atStart=>exact⟨0,rfl,Nat.zero_le _,HR1.o,.inl ⟨_,rfl,rfl,rfl⟩,HB1.o⟩
  case round =>
   obtain⟨k,rfl,hk,hrow,hown,hbel⟩:=hrel;obtain⟨hfull,hlen⟩:=kst_full l HUP.o k (by have:=HLN.o;omega);have R1:=hideZ hrow;have O1:=hideZ hown;have GB:=hideZ hbel;have hgs:=hrow.lt;clear hbel;by_cases hlt:k<n
   ·have hd0:decide ((k:Int)<(n:Int))=true:=decide_eq_true (by omega)
    have hkl:k<l.length:=by rw[<-HLN.o];exact hlt
    obtain⟨b,off,rfl,hb,hc⟩:=(HS.o.below GB.o).some (by omega);have ci:=hc k hkl
    have HC:Hid (∀ W:World,Below w.heap.size w W->W.cell? ⟨b,off+k,none⟩=some (.int .i64 l[k])):=fun W hW=>by
     obtain⟨b',off',e1,_,hc'⟩:=((HS.o.below hW).some (by omega:0<l.length))
     cases e1
     exact hc' k hkl
    have hx255:=HUP.o _ (List.getElem_mem hkl);have HM:=hideZ (kst_more hkl);obtain⟨x,hx⟩:∃ x,x=l[k]:=⟨_,rfl⟩;rw[<-hx]at ci hx255 HM HC;obtain⟨p,rfl⟩:∃ p:Nat,x=p:=⟨x.toNat,by omega⟩;have hp:p<256:=(by omega);have hfp:=hfull.2 p hp;rw[Int.toNat_natCast]at HM;obtain⟨f,hf⟩:∃ f,f=(kst (l.take k)).2:=⟨_,rfl⟩;obtain⟨bs,hbs⟩:∃ bs,bs=(kst (l.take k)).1:=⟨_,rfl⟩;rw[<-hf]at R1 HM hrow hfp;rw[<-hbs]at O1 HM hlen hown;have c1:=hrow.cell (j:=p) hp;obtain⟨y,hy⟩:∃ y,y=f p:=⟨_,rfl⟩;rw[<-hy]at c1 hfp HM;have HFP:=hideZ hfp;have HL:=hideZ hlen;clear hc hx hf hbs hrow hown hfull hlen hy hfp;(go_wp2_with fail);refine(HU.o _ GB.o).mono ?_;rintro e w' ⟨rfl,hw⟩;subst w'
    go_wp2_with (at_builtin;refine wpList_append_own0 _ rfl (.tmp 18) (.tmp 26) 22 rfl (w.heap.size+2) 5 i0 (.int .u8 0) 1 1 underlying22 hi0 hz0 hz1 hz2 rfl (by decide) _ bs.length (bs.map bv) rfl (Own0.alloc O1.o _) ⟨wr.heap.size,0,none⟩ 1 1 [.int .u8 y] rfl rfl (one_newB _ _ _) (one_cellB _) (by decide) (by unfold maxLen;have:=HL.o;omega) (by have:=HL.o;omega) (by simp;omega) ?_)
    intro v' w5 hown' hb5;have N5:=hideZ (own0B_snoc HFP.o.1 HFP.o.2 hown');have ba:Below (w.heap.size+2) wr w5:=((Below.refl (w.heap.size+2) wr).alloc (by omega) _).trans (hb5 _ nl);have R5:=hideZ (R1.o.below ba (by omega));have B5:=hideZ (GB.o.trans (ba.mono (by omega)));have c5:=HC.o w5 B5.o;have HFS:=hideZ (front_spec (w.heap.size+1) p 256 5 f w5 R5.o hp);have z5:=ba.size;clear hown' hb5 ba ci c1;(go_wp2_with fail);refine HFS.o.mono ?_;rintro e w6 ⟨rfl,hr6,ha6⟩;have R6:=hideZ hr6;have N6:=hideZ (N5.o.keep (fun j hj1 hj2=>ha6.2.2.2.2 j hj2 (by omega)));have B6:=hideZ (Aft.below B5.o ha6 (by omega) (by omega));clear hr6 ha6;(go_wp2_with fail)
    go_roundw
    case rel=>exact⟨k+1,by go_num,by omega,by rw[HM.o];exact R6.o,by rw[HM.o];exact N6.o,B6.o⟩
    case measure=>simp[intOf];omega
   ·have hd0:decide ((k:Int)<(n:Int))=false:=decide_eq_false (by omega)
    obtain rfl:k=n:=by omega
    have HT:Hid (l.take k=l):=by
     unfold Hid;rw[HLN.o,List.take_length]
    rw[HT.o]at hown;have hcv:=own0_string (P:=prog) (src:=22) (dst:=9) _ hown underlying22 underlying5 underlying9;clear hrow hown hfull hlen;(go_wp2_with fail);go_ret;exact⟨rfl,GB.o⟩
end Fr
namespace Se
open Nu (bv arr_string ret_strJ hideJ)
def outV (t:ByteArray) (at_ code:Int):Value:=.agg #[.string t,.int .i64 at_,.int .i64 code]
def unsealV (s:ByteArray):Value :=
 if 8000<s.size then outV ⟨#[]⟩ 0 2 else if s.size<4 then outV ⟨#[]⟩ 0 4
 else if sealV (s.extract 0 (s.size-4))=s then outV (s.extract 0 (s.size-4)) 0 0 else outV ⟨#[]⟩ 0 5
theorem bcell {W w1:World} (hb:Below W.heap.size W w1):(∀ b o,b<W.heap.size->w1.cell? ⟨b,o,none⟩=W.cell? ⟨b,o,none⟩)/\(∀ b o,b<W.heap.size->w1.frozen? ⟨b,o,none⟩=W.frozen? ⟨b,o,none⟩) :=
 ⟨fun b o h=>hb.cell (p:=⟨b,o,none⟩) h,fun b o h=>hb.frozen (p:=⟨b,o,none⟩) h⟩
theorem below3 {w wa wb:World} {o:Obj} (h1:Below (w.alloc o).heap.size (w.alloc o) wa) (h2:Below (w.alloc o).heap.size wa wb):Below w.heap.size w wb :=
 ((Below.refl w.heap.size w).alloc nl o).trans ((h1.trans h2).mono (by simp))
theorem below2d {w wa:World} {o:Obj} (h1:Below (w.alloc o).drew.heap.size (w.alloc o).drew wa):Below w.heap.size w wa :=
 ((Below.refl w.heap.size w).alloc nl o).drew.trans (h1.mono (by simp))
theorem list_eq_iff (a b:ByteArray):(a.toList==b.toList)=decide (a=b):=by
 by_cases h:a=b
 ·rw[h];simp
 ·rw[decide_eq_false h,beq_eq_false_iff_ne]
  intro e
  apply h
  rw[ByteArray.toList_eq,ByteArray.toList_eq]at e
  have e2:a.data=b.data:=by rw[<-Array.toArray_toList (xs:=a.data),e,Array.toArray_toList]
  cases a;cases b;simpa using e2
theorem unsealV_yes (s t:ByteArray) (h1:¬8000<s.size) (h2:¬s.size<4) (ht:t=s.extract 0 (s.size-4)) (h:sealV t=s):unsealV s=outV t 0 0:=by
 unfold unsealV;rw[if_neg h1,if_neg h2,<-ht,if_pos h]
theorem unsealV_no (s t:ByteArray) (h1:¬8000<s.size) (h2:¬s.size<4) (ht:t=s.extract 0 (s.size-4)) (h:¬sealV t=s):unsealV s=outV ⟨#[]⟩ 0 5:=by
 unfold unsealV;rw[if_neg h1,if_neg h2,<-ht,if_neg h]
theorem unseal_impl (s:ByteArray) (w:World) (hs:s.size<=maxLen) :
  Calls prog 74 #[.string s] w fun e w'=>e=.returned (unsealV s)/\Below w.heap.size w w':=by
 unfold maxLen at hs;by_cases h1:8000<s.size
 ·have HV:=hideJ (show unsealV s=outV ⟨#[]⟩ 0 2 by unfold unsealV;rw[if_pos h1])
  go_enter func74,ntmps74
  go_wp2
  refine bodyPost_ret (v:=outV ⟨#[]⟩ 0 2) (by simp[results,outV,results74,go_sem]) rfl ⟨by rw[HV.o],?_⟩;exact(Below.refl _ _).alloc nl _
 ·by_cases h2:s.size<4
  ·have HV:=hideJ (show unsealV s=outV ⟨#[]⟩ 0 4 by unfold unsealV;rw[if_neg h1,if_pos h2])
   go_enter func74,ntmps74
   go_wp2
   refine bodyPost_ret (v:=outV ⟨#[]⟩ 0 4) (by simp[results,outV,results74,go_sem]) rfl ⟨by rw[HV.o],?_⟩;exact(Below.refl _ _).alloc nl _
  ·obtain⟨t,ht⟩:∃ t,t=s.extract 0 (s.size-4):=⟨_,rfl⟩
   have hts:t.size<=7996:=by rw[ht];simp;omega
   have HT:=hideJ ht;by_cases hq:sealV t=s
   ·have HV:=hideJ (unsealV_yes s t h1 h2 ht hq)
    have hB:((sealV t).toList==s.toList)=true:=by rw[list_eq_iff];exact decide_eq_true hq
    clear ht hq;go_enter func74,ntmps74;(go_wp2_with fail);rw[show ((s.size:Int)-4)=((s.size-4:Nat):Int) from by omega];refine(Nu.cut_any s 0 (s.size-4) _ (by omega) (by omega) (by omega)).mono ?_;rw[<-HT.o];rintro e wa ⟨rfl,hb1⟩;obtain⟨hc1,hf1⟩:=bcell hb1;have hz1:w.heap.size+1<=wa.heap.size:=(by have:=hb1.size;simpa using this);(go_wp2_with fail);refine(seal_impl t _ (by unfold maxLen;omega)).mono ?_;rintro e wb ⟨rfl,hb2⟩;obtain⟨hc2,hf2⟩:=bcell hb2;have hz2:wa.heap.size<=wb.heap.size:=hb2.size;have hlt:w.heap.size<wa.heap.size:=(by omega)
    go_wp2
    refine bodyPost_ret (v:=outV t 0 0) (by simp[results,outV,results74,go_sem,hc2,hc1,hlt]) rfl ⟨by rw[HV.o],?_⟩;exact((below3 hb1 (hb2.mono (by simpa using hz1))).setCell nl _ |>.setCell nl _).setCell nl _
   ·have HV:=hideJ (unsealV_no s t h1 h2 ht hq)
    have hB:((sealV t).toList==s.toList)=false:=by rw[list_eq_iff];exact decide_eq_false hq
    clear ht hq;go_enter func74,ntmps74;(go_wp2_with fail);rw[show ((s.size:Int)-4)=((s.size-4:Nat):Int) from by omega];refine(Nu.cut_any s 0 (s.size-4) _ (by omega) (by omega) (by omega)).mono ?_;rw[<-HT.o];rintro e wa ⟨rfl,hb1⟩;obtain⟨hc1,hf1⟩:=bcell hb1;have hz1:w.heap.size+1<=wa.heap.size:=(by have:=hb1.size;simpa using this);(go_wp2_with fail);refine(seal_impl t _ (by unfold maxLen;omega)).mono ?_;rintro e wb ⟨rfl,hb2⟩;obtain⟨hc2,hf2⟩:=bcell hb2;have hz2:wa.heap.size<=wb.heap.size:=hb2.size;have hlt:w.heap.size<wa.heap.size:=(by omega)
    go_wp2
    refine bodyPost_ret (v:=outV ⟨#[]⟩ 0 5) (by simp[results,outV,results74,go_sem,hc2,hc1,hlt]) rfl ⟨by rw[HV.o],?_⟩;exact((below3 hb1 (hb2.mono (by simpa using hz1))).setCell nl _ |>.setCell nl _).setCell nl _
end Se
namespace Bi
open St (IsS Strs)
def wthK (l:List Int) (t:ByteArray) (k:Nat):Bool:=(List.range k).any fun i=>decide (0<l.getD i 0) && Lib.hasPrefix (codeOf l i).data.toList t.data.toList
theorem wthK_next (l:List Int) (t:ByteArray) (k:Nat):wthK l t (k+1)=(wthK l t k || (decide (0<l.getD k 0) && Lib.hasPrefix (codeOf l k).data.toList t.data.toList)):=by
 unfold wthK;rw[List.range_succ,List.any_append,List.any_cons,List.any_nil,Bool.or_false]
def nxt (l:List Int) (t:ByteArray):Int:=match sym l t with
 |some i=>(i:Int)
 |none=>if wth l t=true then -2 else -1
theorem toList_beq {x y:ByteArray}:(x.toList==y.toList)=true↔x=y:=by
 rw[beq_iff_eq,ByteArray.toList_eq,ByteArray.toList_eq]
 constructor
 ·intro h
  have h2:x.data=y.data:=Array.toList_inj.1 h
  cases x;cases y;simp at h2;rw[h2]
 ·intro h;rw[h]
theorem pre_no {c t:ByteArray} (h:c.size<=t.size) (hne:¬t.extract 0 c.size=c):Lib.hasPrefix c.data.toList t.data.toList=false:=by
 rw[<-Lib.hasPrefix_raw];by_cases hs:t.size<=c.size
 ·rw[decide_eq_true hs,Bool.true_and]
  cases hb:((c.extract 0 t.size).toList==t.toList) with
  |false=>rfl
  |true =>
   have h1:=toList_beq.1 hb
   have h2:t.size=c.size:=by omega
   rw[h2,ByteArray.extract_zero_size]at h1;exact absurd (by rw[h1];exact ByteArray.extract_zero_size) hne
 ·rw[decide_eq_false hs,Bool.false_and]
theorem pre_is {c t:ByteArray} (h:t.size<c.size):((c.extract 0 t.size).toList==t.toList)=Lib.hasPrefix c.data.toList t.data.toList:=by
 rw[<-Lib.hasPrefix_raw,decide_eq_true (by omega),Bool.true_and]
theorem next_spec (l:List Int) (t:ByteArray) (p:Nat) (x:Option Addr) (cap B:Nat) (w:World) (hs:Strs w B x (codesV l)) (hr:right l=true) (hp:p<=t.size) (ht:t.size<=8000) :
  Calls prog 217 #[.slice x l.length cap,.string t,.int .i64 p] w fun e w'=>e=.returned (.int .i64 (nxt l (rst t p)))/\w'=w:=by
 have hok:=(within_yes (right_yes hr).1).2;have hcs:=(right_yes hr).2;have hn:=(within_yes (right_yes hr).1).1;have HS:=hideB hs;have HK:=hideB hok;have HSO:=hideB (fun (i:Nat) (h:mt l (rst t p) i)=>sym_of hcs hok h);have HSN:=hideB (fun (h:∀ i,¬mt l (rst t p) i)=>sym_none h);have HCL:=hideB (codesV_length l);clear hs hok hcs hr;obtain⟨n,hln⟩:∃ n,n=l.length:=⟨_,rfl⟩;have HLN:=hideB hln;rw[<-hln]at hn HCL ⊢;clear hln;obtain⟨r,hrr⟩:∃ r,r=rst t p:=⟨_,rfl⟩;have hre:t.extract p t.size=r:=hrr.symm
 have hrz:r.size<=8000:=by rw[hrr,rst_size];omega
 obtain⟨rs,hrs⟩:∃ rs,rs=nxt l (rst t p):=⟨_,rfl⟩;have HRS:=hideB hrs;rw[<-hrs];rw[<-hrr]at HRS HSO HSN;clear hrr hrs
 have hpi:(p:Int)<=t.size:=by omega
 go_enter func217,ntmps217
 go_wp2_with fail
 go_loopw [9,8] (fun i b wr=>∃ (k:Nat) (wb:Bool),i=.int .i64 k/\b=.bool wb/\k<=n/\wb=wthK l r k/\(∀ j,j<k->¬mt l r j)/\wr=w) (fun i _ _=>n-(intOf i).toNat)
 case atStart=>exact⟨0,false,rfl,rfl,Nat.zero_le _,rfl,fun j hj=>absurd hj (Nat.not_lt_zero j),rfl⟩
 case round =>
  obtain⟨k,wb,rfl,rfl,hk,hwb,hall,hw⟩:=hrel;subst hw;have HWB:=hideB hwb;have HA:=hideB hall;clear hwb hall;by_cases hlt:k<n
  ·have hkl:k<l.length:=by rw[<-HLN.o];exact hlt
   have hkv:k<(codesV l).length:=by rw[HCL.o];exact hlt
   obtain⟨b,off,rfl,hb,hc⟩:=HS.o.some (by omega);have ci:=hc k hkv;rw[codes_get l HK.o k hkv]at ci;have HNX:=hideB (wthK_next l r k);have HNONE:=hideB (codeOf_none l k);have HSZ:=hideB (codeOf_size l k);have hcl:=codeOf_le l HK.o k;have HMT:Hid (mt l r k↔0<l.getD k 0/\wd l k<=r.size/\r.extract 0 (wd l k)=codeOf l k):=⟨fun h=>h.2,fun h=>⟨hkl,h⟩⟩;rw[show (l.getD k 0).toNat=wd l k from rfl]at HSZ;rw[<-HSZ.o]at HMT;obtain⟨c,hcc⟩:∃ c,c=codeOf l k:=⟨_,rfl⟩;rw[<-hcc]at ci HNX HNONE hcl HMT
   have HS2:Hid (c.size=wd l k):=by
    unfold Hid;rw[hcc];exact HSZ.o
   clear hc hcc HSZ;by_cases h0:0<l.getD k 0
   ·have hne:c.toList.isEmpty=false:=nonempty c (by rw[HS2.o];unfold wd;omega)
    rw[decide_eq_true h0,Bool.true_and]at HNX;by_cases hge:c.size<=r.size
    ·have hgi:(c.size:Int)<=r.size:=by omega
     by_cases hm:r.extract 0 c.size=c
     ·have hbq:((r.extract 0 c.size).toList==c.toList)=true:=toList_beq.2 hm
      have HE:Hid (rs=(k:Int)):=by
       unfold Hid;rw[HRS.o];unfold nxt;rw[HSO.o k (HMT.o.2 ⟨h0,hge,hm⟩)]
      clear hm h0;(go_wp2_with fail);go_ret;exact⟨by rw[HE.o];rfl,rfl⟩
     ·have hbq:((r.extract 0 c.size).toList==c.toList)=false:=by
       cases hq:((r.extract 0 c.size).toList==c.toList) with
       |false=>rfl
       |true=>exact absurd (toList_beq.1 hq) hm
      have HNO:Hid (∀ j,j<k+1->¬mt l r j):=fun j hj hmj=>by
       by_cases e:j=k
       ·subst e;exact hm (HMT.o.1 hmj).2.2
       ·exact HA.o j (by omega) hmj
      have HW2:Hid (wb=wthK l r (k+1)):=by
       unfold Hid;rw[HNX.o,pre_no hge hm,Bool.or_false];exact HWB.o
      have hlf:decide ((r.size:Int)<c.size)=false:=decide_eq_false (by omega);clear hm h0
      cases wb with
      |true =>
       (go_wp2_with fail)
       go_roundw
       case rel=>exact⟨k+1,true,by go_num,rfl,by omega,HW2.o,HNO.o,trivial⟩
       case measure=>simp[intOf];omega
      |false =>
       (go_wp2_with fail)
       go_roundw
       case rel=>exact⟨k+1,false,by go_num,rfl,by omega,HW2.o,HNO.o,trivial⟩
       case measure=>simp[intOf];omega
    ·have hgi:decide ((c.size:Int)<=r.size)=false:=decide_eq_false (by omega)
     have hlt':(r.size:Int)<c.size:=by omega
     have hri:(r.size:Int)<=c.size:=by omega
     have HNO:Hid (∀ j,j<k+1->¬mt l r j):=fun j hj hmj=>by
      by_cases e:j=k
      ·subst e;exact hge (HMT.o.1 hmj).2.1
      ·exact HA.o j (by omega) hmj
     have hbq:=pre_is (c:=c) (t:=r) (by omega)
     have HW2:Hid ((wb || Lib.hasPrefix c.data.toList r.data.toList)=wthK l r (k+1)):=by
      unfold Hid;rw[HNX.o,HWB.o]
     generalize Lib.hasPrefix c.data.toList r.data.toList=pb at hbq HW2;clear h0
     cases wb with
     |true =>
      (go_wp2_with fail)
      go_roundw
      case rel=>exact⟨k+1,true,by go_num,rfl,by omega,HW2.o,HNO.o,trivial⟩
      case measure=>simp[intOf];omega
     |false =>
      cases pb with
      |true =>
       (go_wp2_with fail)
       go_roundw
       case rel=>exact⟨k+1,true,by go_num,rfl,by omega,HW2.o,HNO.o,trivial⟩
       case measure=>simp[intOf];omega
      |false =>
       (go_wp2_with fail)
       go_roundw
       case rel=>exact⟨k+1,false,by go_num,rfl,by omega,HW2.o,HNO.o,trivial⟩
       case measure=>simp[intOf];omega
   ·have hce:=HNONE.o h0
    have HNO:Hid (∀ j,j<k+1->¬mt l r j):=fun j hj hmj=>by
     by_cases e:j=k
     ·subst e;exact h0 (HMT.o.1 hmj).1
     ·exact HA.o j (by omega) hmj
    have HW2:Hid (wb=wthK l r (k+1)):=by
     unfold Hid;rw[HNX.o,decide_eq_false h0,Bool.false_and,Bool.or_false];exact HWB.o
    subst hce;clear h0;(go_wp2_with fail)
    go_roundw
    case rel=>exact⟨k+1,wb,by go_num,rfl,by omega,HW2.o,HNO.o,trivial⟩
    case measure=>simp[intOf];omega
  ·obtain rfl:k=n:=by omega
   have HSY:Hid (sym l r=none):=HSN.o (fun i hm=>HA.o i (by rw[HLN.o];exact hm.1) hm)
   have HWT:Hid (wb=wth l r):=by
    unfold Hid;rw[HWB.o,HLN.o];rfl
   cases wb with
   |true =>
    have HE:Hid (rs = -2):=by
     unfold Hid;rw[HRS.o];unfold nxt;rw[HSY.o];simp only[<-HWT.o,if_true]
    (go_wp2_with fail);go_ret;exact⟨by rw[HE.o];rfl,rfl⟩
   |false =>
    have HE:Hid (rs = -1):=by
     unfold Hid;rw[HRS.o];unfold nxt;rw[HSY.o];simp only[<-HWT.o];rfl
    (go_wp2_with fail);go_ret;exact⟨by rw[HE.o];rfl,rfl⟩
end Bi
namespace Bi
open In (Ints IsI OwnIn OwnI one_newI one_cellI)
open St (IsS Strs)
def OutV (w:World) (g:Nat) (v:Value) (p:Int):Prop:=w.heap[g]? = some (.cells #[v,.int .i64 p,.int .i64 0] 158 (0,0))
theorem OutV.c0 {w:World} {g:Nat} {v:Value} {p:Int} (h:OutV w g v p):w.cell? ⟨g,0,none⟩=some v:=(cell_of_row w g 0 _ _ _ h).trans rfl
theorem OutV.c1 {w:World} {g:Nat} {v:Value} {p:Int} (h:OutV w g v p):w.cell? ⟨g,1,none⟩=some (.int .i64 p):=(cell_of_row w g 1 _ _ _ h).trans rfl
theorem OutV.c2 {w:World} {g:Nat} {v:Value} {p:Int} (h:OutV w g v p):w.cell? ⟨g,2,none⟩=some (.int .i64 0):=(cell_of_row w g 2 _ _ _ h).trans rfl
theorem OutV.fr {w:World} {g:Nat} {v:Value} {p:Int} (h:OutV w g v p) (j:Nat):w.frozen? ⟨g,j,none⟩=false:=frozen_of_row w g j _ _ h
theorem OutV.of_heap {w w':World} {g:Nat} {v:Value} {p:Int} (h:OutV w g v p) (e:w'.heap[g]? = w.heap[g]?):OutV w' g v p:=by unfold OutV;rw[e];exact h
theorem OutV.set0 {w:World} {g:Nat} {v:Value} {p:Int} (h:OutV w g v p) (v':Value):OutV (w.setCell ⟨g,0,none⟩ v') g v' p:=by unfold OutV;rw[heap_setCell_same w g 0 _ _ _ h];rfl
theorem OutV.set1 {w:World} {g:Nat} {v:Value} {p:Int} (h:OutV w g v p) (q:Int):OutV (w.setCell ⟨g,1,none⟩ (.int .i64 q)) g v q:=by unfold OutV;rw[heap_setCell_same w g 1 _ _ _ h];rfl
theorem ownI_set {w:World} {base:Nat} {v:Value} {l:List Int} (h:OwnI w base v l) (a:Addr) (x:Value) (ha:a.block<base):OwnI (w.setCell a x) base v l:=by
 obtain⟨hl,h⟩:=h;refine⟨hl,?_⟩
 rcases h with h|⟨g,cap,cur,hv,hg,hb,rest⟩
 ·exact .inl h
 ·exact .inr ⟨g,cap,cur,hv,hg,by rw[heap_setCell_other w a g x (by omega)];exact hb,rest⟩
theorem ownI_alloc {w:World} {base:Nat} {v:Value} {l:List Int} (h:OwnI w base v l) (o:Obj):OwnI (w.alloc o) base v l:=World.ownsRow.alloc h o
theorem in_mono {w:World} {lo hi lo' hi':Nat} {v:Value} {l:List Int} (h:OwnIn w lo hi v l) (h1:lo'<=lo) (h2:hi<=hi'):OwnIn w lo' hi' v l:=by
 rcases h with h|⟨g,cap,hv,hg,hh,ho⟩
 ·exact .inl h
 ·exact .inr ⟨g,cap,hv,by omega,by omega,ho⟩
theorem nxt_some {l:List Int} {t:ByteArray} {i:Nat} (h:sym l t=some i):nxt l t=(i:Int):=by unfold nxt;rw[h]
theorem nxt_short {l:List Int} {t:ByteArray} (h:sym l t=none) (hw:wth l t=true):nxt l t = -2:=by unfold nxt;rw[h];simp only[hw,if_true]
theorem nxt_none {l:List Int} {t:ByteArray} (h:sym l t=none) (hw:wth l t=false):nxt l t = -1:=by unfold nxt;rw[h];simp only[hw];rfl
theorem l04Get_any (l:List Int) (t:ByteArray) (m:Nat) (a:Option Addr) (cap:Nat) (w:World) (hl:Ints w w.heap.size a l) (h8:t.size<=8000) (hr:right l=true) (hm:m<=400) :
  Calls prog 186 #[.slice a l.length cap,.string t,.int .i64 m] w fun e w'=>∃ v,e=.returned (.agg #[v,.int .i64 (outS (st l t m)).2.1,.int .i64 (outS (st l t m)).2.2])/\OwnIn w' w.heap.size w'.heap.size v (outS (st l t m)).1/\Below w.heap.size w w':=by
 obtain⟨i0,hi0,hz0,hz1,hz2⟩:=info_parts Tryz.infoG2;obtain⟨W0,hW0⟩:∃ W0,W0=w.alloc (.cells #[.slice none 0 0,.int .i64 0,.int .i64 0] 158):=⟨_,rfl⟩
 have z0:W0.heap.size=w.heap.size+1:=by rw[hW0];simp
 have B0:=hideB (show Below w.heap.size w W0 by rw[hW0];exact(Below.refl _ _).alloc nl _);have O0:=hideB (show Out0 W0 w.heap.size by rw[hW0];exact Out0.new w);have HCO:=hideB (codes_spec l a cap W0.heap.size W0 ((hl.below B0.o).mono B0.o.size) nl hr);have HL:=hideB hl;have HR:=hideB hr;have hn:=(within_yes (right_yes hr).1).1;clear hl hr;obtain⟨n,hln⟩:∃ n,n=l.length:=⟨_,rfl⟩;have HLN:=hideB hln;rw[<-hln]at hn HCO ⊢;clear hln;go_enter func186,ntmps186
 go_wp2_with fail
 rw[<-hW0];have HW0:=hideB hW0;clear hW0;refine HCO.o.mono ?_;rintro e w1 ⟨rfl,hx1,hb1⟩;have X1:=hideB hx1;have B1:=hideB (B0.o.trans (hb1.mono (by omega)));have O1:=hideB (O0.o.below hb1 (by omega));have z1:W0.heap.size<w1.heap.size:=hx1.lt;clear hx1 hb1;obtain⟨b,hb⟩:∃ b,b=W0.heap.size:=⟨_,rfl⟩;rw[<-hb]at z0 z1 X1 ⊢
 have zb:w.heap.size<b:=by omega
 clear hb HW0 O0 B0 z0 HCO
 go_wp2_with fail
 go_loopw [2] (fun mv wr=>∃ (k p:Nat) (xs:List Int) (v:Value),mv=.int .i64 ((m:Int)-k)/\k<=m/\st l t k=.inr (xs,p)/\OutV wr w1.heap.size v p/\OwnI wr (w1.heap.size+1) v xs/\IsS wr b 9 (codesV l)/\Out0 wr w.heap.size/\Below w.heap.size w wr/\w1.heap.size<wr.heap.size) (fun mv _=>(intOf mv).toNat)
 case atStart=>exact⟨0,0,[],.slice none 0 0,by go_num,Nat.zero_le _,rfl,heap_alloc_last w1 _,OwnI.nil _ _,X1.o.of_heapS (Below.heap_alloc w1 _ b z1),O1.o.below ((Below.refl w1.heap.size w1).alloc nl _) (by omega),B1.o.alloc B1.o.size _,by simp⟩
 case round =>
  obtain⟨k,p,xs,v,rfl,hk,hst,hov,hown,hx,ho,hbel,hz⟩:=hrel;have HST:=hideB hst;have V3:=hideB hov;have N3:=hideB hown;have X3:=hideB hx;have O3:=hideB ho;have B3:=hideB hbel;obtain⟨hps,hxl⟩:=st_facts k p xs hst;have HXL:=hideB hxl;obtain⟨vx,vc,rfl,hvc,_⟩:=hown.ints;clear hst hov hown hx ho hbel hxl;have c0:=V3.o.c0;have c1:=V3.o.c1;have c2:=V3.o.c2;have f0:=V3.o.fr 0;have f1:=V3.o.fr 1;have d0:=O3.o.c0;have d1:=O3.o.c1;have d2:=O3.o.c2;have e0:=O3.o.fr 0;have e1:=O3.o.fr 1;have e2:=O3.o.fr 2;obtain⟨xl,hxl2⟩:∃ xl,xl=xs.length:=⟨_,rfl⟩;have HX2:=hideB hxl2;rw[<-hxl2]at c0 V3 N3 hvc;clear hxl2;by_cases hlt:k<m
  ·have hpos:(0:Int)<(m:Int)-k:=by omega
   have HNX:=hideB (next_spec l t p (some ⟨b,0,none⟩) n (b+1) wr (X3.o.strs (Nat.lt_succ_self b)) HR.o hps h8);rw[<-HLN.o]at HNX
   cases hs:sym l (rst t p) with
   |none =>
    have HB:=hideB (st_bad HST.o hs)
    have HE:Hid (outS (st l t m)=([],0,why l (rst t p))):=by
     have h1:=st_stay HB.o (m-(k+1));rw[show k+1+(m-(k+1))=m by omega]at h1;unfold Hid;rw[h1];rfl
    cases hw:wth l (rst t p) with
    |true =>
     rw[nxt_short hs hw]at HNX
     have HE2:Hid (outS (st l t m)=([],0,4)):=by
      unfold Hid;rw[HE.o];unfold why;rw[if_pos hw]
     clear hs hw;(go_wp2_with fail);refine HNX.o.mono ?_;rintro e w' ⟨rfl,hw'⟩;subst w';(go_wp2_with fail);refine bodyPost_ret (v:=.agg #[.slice none 0 0,.int .i64 0,.int .i64 4]) (by simp[results,results186,go_sem,d0,d1,d2]) rfl ⟨.slice none 0 0,?_,?_,?_⟩
     ·rw[HE2.o]
     ·rw[HE2.o]
      exact .inl ⟨rfl,rfl⟩
     ·exact((B3.o.setCell nl _).setCell nl _).setCell nl _
    |false =>
     rw[nxt_none hs hw]at HNX
     have HE2:Hid (outS (st l t m)=([],0,3)):=by
      unfold Hid;rw[HE.o];unfold why;rw[if_neg (by rw[hw];decide)]
     clear hs hw;(go_wp2_with fail);refine HNX.o.mono ?_;rintro e w' ⟨rfl,hw'⟩;subst w';(go_wp2_with fail);refine bodyPost_ret (v:=.agg #[.slice none 0 0,.int .i64 0,.int .i64 3]) (by simp[results,results186,go_sem,d0,d1,d2]) rfl ⟨.slice none 0 0,?_,?_,?_⟩
     ·rw[HE2.o]
     ·rw[HE2.o]
      exact .inl ⟨rfl,rfl⟩
     ·exact((B3.o.setCell nl _).setCell nl _).setCell nl _
   |some i =>
    rw[nxt_some hs]at HNX;have HSM:=hideB (st_more HST.o hs);have hmt:=sym_mt hs;have hil:i<l.length:=hmt.1;have hin:i<n:=(by rw[HLN.o];exact hil);have hb1:((i:Int) == -1)=false:=beq_eq_false_iff_ne.2 (by omega);have hb2:((i:Int) == -2)=false:=beq_eq_false_iff_ne.2 (by omega)
    have hwl:wd l i<=12:=by
     have:=(within_yes (right_yes HR.o).1).2 _ (List.getElem_mem hil)
     unfold wd;rw[getD_lt hil];omega
    have HLI:Hid (l[i]=((wd l i:Nat):Int)):=by
     unfold Hid;rw[<-getD_lt hil];exact wd_int hmt.2.1
    clear hs hmt;have hown:=N3.o;(go_wp2_with fail);refine HNX.o.mono ?_;rintro e w' ⟨rfl,hw'⟩;subst w'
    go_wp2_with (at_builtin;refine wpList_append_own _ rfl (.tmp 30) (.tmp 32) 80 rfl (w1.heap.size+1) 2 i0 (.int .i64 0) 1 8 underlying80 hi0 hz0 hz1 hz2 rfl (by decide) _ _ _ rfl (ownI_alloc hown _) ⟨wr.heap.size,0,none⟩ 1 1 [.int .i64 (i:Int)] rfl rfl (one_newI _ _ _) (one_cellI _) (by unfold maxLen;have h1:=HXL.o;have h2:=HX2.o;omega) (by have h1:=HXL.o;have h2:=HX2.o;omega) (by simp;omega) ?_)
    intro v' w5 hown' hgrow _;have N5:=hideB (OwnI.snoc hown');have b5:Below (w1.heap.size+1) wr w5:=In.app_one (Below.refl _ _) (by omega) nl hown hgrow;have V5:=hideB (V3.o.of_heap (b5.block w1.heap.size (Nat.lt_succ_self _)));have X5:=hideB (X3.o.of_heapS (b5.block b (by omega)));have O5:=hideB (O3.o.below b5 (by omega));have B5:=hideB (B3.o.trans (b5.mono (by omega)));have z5:=b5.size;obtain⟨y,yc,rfl,hyc,_⟩:=N5.o.ints;obtain⟨yl,hyl⟩:∃ yl,yl=(xs++[(i:Int)]).length:=⟨_,rfl⟩;have HYL:=hideB hyl;rw[<-hyl]at N5 hyc ⊢;clear hown' hgrow hown b5 hyl;obtain⟨W6,hW6⟩:∃ W6,W6=w5.setCell ⟨w1.heap.size,0,none⟩ (.slice y yl yc):=⟨_,rfl⟩;have V6:=hideB (show OutV W6 w1.heap.size (.slice y yl yc) p by rw[hW6];exact V5.o.set0 _);have N6:=hideB (show OwnI W6 (w1.heap.size+1) (.slice y yl yc) (xs++[(i:Int)]) by rw[hW6];exact ownI_set N5.o _ _ (Nat.lt_succ_self _));have X6:=hideB (show IsS W6 b 9 (codesV l) by rw[hW6];exact X5.o.set_other _ _ (by simp;omega));have O6:=hideB (show Out0 W6 w.heap.size by rw[hW6];exact O5.o.set _ _ (by simp;omega));have B6:=hideB (show Below w.heap.size w W6 by rw[hW6];exact B5.o.setCell (p:=⟨w1.heap.size,0,none⟩) (by simp;omega) _);have z6:w1.heap.size<W6.heap.size:=(by rw[hW6];simp[World.setCell];omega);have HW6:=hideB hW6;have g0:=V5.o.c0;have g1:=V5.o.c1;have h0:=V5.o.fr 0;clear hW6 c0 c1 c2 f0 f1 d0 d1 d2 e0 e1 e2;(go_wp2_with fail);rw[<-HW6.o];clear g0 g1 h0;obtain⟨bl,offl,rfl,_,hcl⟩:=(HL.o.below B6.o).some (by omega);have cl:=hcl i hil;rw[HLI.o]at cl;have k1:=V6.o.c1;have j1:=V6.o.fr 1
    have V7:Hid (OutV (W6.setCell ⟨w1.heap.size,1,none⟩ (.int .i64 ((p:Int)+((wd l i:Nat):Int)))) w1.heap.size (.slice y yl yc) ((p+wd l i:Nat):Int)):=by
     have:=V6.o.set1 ((p:Int)+((wd l i:Nat):Int))
     unfold Hid;rw[Int.natCast_add];exact this
    generalize wd l i=wv at cl HSM V7 hwl;clear hcl HLI
    go_region
    all_goals (try go_wp2_with fail)
    all_goals go_roundw
    case rel=>exact⟨k+1,p+wv,xs++[(i:Int)],.slice y yl yc,by go_num,by omega,HSM.o,V7.o,ownI_set N6.o _ _ (Nat.lt_succ_self _),X6.o.set_other _ _ (by simp;omega),O6.o.set _ _ (by simp;omega),Below.drew (B6.o.setCell (p:=⟨w1.heap.size,1,none⟩) (by simp;omega) _),by simpa [World.setCell] using z6⟩
    case measure=>simp[intOf];omega
  ·obtain rfl:k=m:=by omega
   have HE:Hid (outS (st l t k)=(xs,(p:Int),0)):=by
    unfold Hid;rw[HST.o];rfl
   have hpos:¬(0:Int)<(k:Int)-k:=by omega
   go_wp2_with fail
   refine bodyPost_ret (v:=.agg #[.slice vx xl vc,.int .i64 p,.int .i64 0]) (by simp[results,results186,go_sem,d0,d1,d2]) rfl ⟨.slice vx xl vc,?_,?_,?_⟩
   ·rw[HE.o]
   ·rw[HE.o]
    exact in_mono (OwnI.inn (ownI_set (ownI_set (ownI_set N3.o ⟨w.heap.size,0,none⟩ _ (by simp;omega)) ⟨w.heap.size,1,none⟩ _ (by simp;omega)) ⟨w.heap.size,2,none⟩ _ (by simp;omega))) (by omega) nl
   ·exact((B3.o.setCell nl _).setCell nl _).setCell nl _
end Bi
namespace Dr
open Nu (bv own_string)
def IsRow (k:IntKind) (w:World) (a:Option Addr) (len cap:Nat) (zs:List Int):Prop :=
 (a=none/\len=0/\cap=0/\zs=[]) ∨
 ∃ x,a=some x/\len<=cap/\cap<=maxLen/\zs.length=cap/\(∀ i,i<zs.length->w.cell? (x.add i)=some (.int k (zs.getD i 0)))/\∀ n∈zs,(Lit.int k n).wf=true
theorem row_of {w:World} {a:Option Addr} {len cap:Nat} {zs:List Int} (h:IsRow .u8 w a len cap zs):Row w w.heap.size a len:=by
 rcases h with⟨_,rfl,_⟩|⟨x,rfl,hlc,_,hz,hc,hw⟩
 ·exact .inl rfl
 ·rcases Nat.eq_zero_or_pos len with h0|h0
  ·exact .inl h0
  ·obtain⟨b,off,spot⟩:=x
   have hc0:=hc 0 (by omega)
   have hspot:spot=none:=by simpa [Addr.add] using World.cell?_spot hc0
   subst hspot
   have e:∀ i,(⟨b,off,none⟩:Addr).add i=⟨b,off+i,none⟩:=fun i=>by unfold Addr.add;split<;>simp_all
   have hlt:=World.block_lt_of_cell? w _ hc0;rw[e 0]at hlt;refine .inr ⟨b,off,rfl,hlt,fun i hi=>⟨zs.getD i 0,by rw[<-e i];exact hc i (by omega),?_⟩⟩
   have hi':i<zs.length:=by omega
   have hm:zs.getD i 0∈zs:=by rw[List.getD_eq_getElem?_getD,List.getElem?_eq_getElem hi'];exact List.getElem_mem hi'
   have:=hw _ hm
   simpa [Lit.wf,IntKind.min,IntKind.max,IntKind.signed,IntKind.bits] using this
theorem Row.below {w w':World} {B:Nat} {a:Option Addr} {len:Nat} (h:Row w B a len) (hb:Below B w w'):Row w' B a len:=by
 rcases h with h0|⟨b,off,rfl,hlt,hc⟩
 ·exact .inl h0
 ·refine .inr ⟨b,off,rfl,hlt,fun i hi=>?_⟩
  obtain⟨z,hz,z1,z2⟩:=hc i hi;exact⟨z,(hb.cell (p:=⟨b,off+i,none⟩) hlt).trans hz,z1,z2⟩
theorem Row.mono {w:World} {B C:Nat} {a:Option Addr} {len:Nat} (h:Row w B a len) (hBC:B<=C):Row w C a len:=by
 rcases h with h0|⟨b,off,rfl,hlt,hc⟩
 ·exact .inl h0
 ·exact .inr ⟨b,off,rfl,Nat.lt_of_lt_of_le hlt hBC,hc⟩
def zeroS (n:Nat):ByteArray:=⟨(List.replicate n (0:UInt8)).toArray⟩
end Dr
namespace Se
open Nu (bv arr_string ret_strJ hideJ)
theorem seal_split (s t:ByteArray) (ht:t=s.extract 0 (s.size-4)) (hts:t.size<=7996):sealV t=s↔fourS (crcOf t)=s.extract (s.size-4) s.size:=by
 have e:t++s.extract (s.size-4) s.size=s:=by
  rw[ht,ByteArray.extract_append_extract];simp[Nat.max_eq_right]
 unfold sealV;rw[if_pos hts]
 constructor
 ·intro h
  rw[<-e]at h;generalize s.extract (s.size-4) s.size=r at h e ⊢
  have h':t++fourS (crcOf t)=t++r:=by
   rw[e]at h;rw[e];exact h
  exact(ByteArray.append_right_inj t).1 h'
 ·intro h
  rw[h];exact e
theorem unseal_spec (s:ByteArray) (w:World) (hs:s.size<=maxLen) :
  Calls prog 106 #[.string s] w fun e w'=>e=.returned (unsealV s)/\Below w.heap.size w w':=by
 unfold maxLen at hs;by_cases h1:8000<s.size
 ·have HV:=hideJ (show unsealV s=outV ⟨#[]⟩ 0 2 by unfold unsealV;rw[if_pos h1])
  go_enter func106,ntmps106
  go_wp2
  refine bodyPost_ret (v:=outV ⟨#[]⟩ 0 2) (by simp[results,outV,results106,go_sem]) rfl ⟨by rw[HV.o],?_⟩;exact(Below.refl _ _).alloc nl _
 ·by_cases h2:s.size<4
  ·have HV:=hideJ (show unsealV s=outV ⟨#[]⟩ 0 4 by unfold unsealV;rw[if_neg h1,if_pos h2])
   go_enter func106,ntmps106
   go_wp2
   refine bodyPost_ret (v:=outV ⟨#[]⟩ 0 4) (by simp[results,outV,results106,go_sem]) rfl ⟨by rw[HV.o],?_⟩;exact(Below.refl _ _).alloc nl _
  ·obtain⟨t,ht⟩:∃ t,t=s.extract 0 (s.size-4):=⟨_,rfl⟩
   have hts:t.size<=7996:=by rw[ht];simp;omega
   by_cases hq:sealV t=s
   ·have HV:=hideJ (unsealV_yes s t h1 h2 ht hq)
    have hB:((fourS (crcOf t)).toList==(s.extract (s.size-4) s.size).toList)=true:=by rw[list_eq_iff];exact decide_eq_true ((seal_split s t ht hts).1 hq)
    have hB2:((fourS (crcOf t)).toList==(s.extract ((s.size:Int)-4).toNat s.size).toList)=true:=by rw[show ((s.size:Int)-4).toNat=s.size-4 from by omega];exact hB
    have HT:=hideJ ht;clear ht hq;have g1:(0:Int)<=(s.size:Int)-4:=(by omega);have g2:(s.size:Int)-4<=(s.size:Int):=(by omega);have hwr:IntKind.i64.wrap ((s.size:Int)-4)=(s.size:Int)-4:=(by rw[IntKind.wrap_i64];omega);go_enter func106,ntmps106
    go_wp2
    rw[<-HT.o]
    go_region_with (first|(go_at_call 139;refine(Cr.crc_spec 0 t _ (by omega) (by omega)).mono ?_;rintro e w' ⟨rfl,hw⟩;subst w')|(go_at_call 138;refine(four_any (crcOf t) _ (crcOf_lt t)).mono ?_;rintro e wa ⟨rfl,hb1⟩))
    obtain⟨hc1,hf1⟩:=bcell hb1;have hz1:w.heap.size+1<=wa.heap.size:=(by have:=hb1.size;simpa using this)
    go_wp2
    refine bodyPost_ret (v:=outV t 0 0) (by simp[results,outV,results106,go_sem,hc1]) rfl ⟨by rw[HV.o],?_⟩;exact((below2d hb1).setCell nl _ |>.setCell nl _).setCell nl _
   ·have HV:=hideJ (unsealV_no s t h1 h2 ht hq)
    have hB:((fourS (crcOf t)).toList==(s.extract (s.size-4) s.size).toList)=false:=by rw[list_eq_iff];exact decide_eq_false (fun h=>hq ((seal_split s t ht hts).2 h))
    have hB2:((fourS (crcOf t)).toList==(s.extract ((s.size:Int)-4).toNat s.size).toList)=false:=by rw[show ((s.size:Int)-4).toNat=s.size-4 from by omega];exact hB
    have HT:=hideJ ht;clear ht hq;have g1:(0:Int)<=(s.size:Int)-4:=(by omega);have g2:(s.size:Int)-4<=(s.size:Int):=(by omega);have hwr:IntKind.i64.wrap ((s.size:Int)-4)=(s.size:Int)-4:=(by rw[IntKind.wrap_i64];omega);go_enter func106,ntmps106
    go_wp2
    rw[<-HT.o]
    go_region_with (first|(go_at_call 139;refine(Cr.crc_spec 0 t _ (by omega) (by omega)).mono ?_;rintro e w' ⟨rfl,hw⟩;subst w')|(go_at_call 138;refine(four_any (crcOf t) _ (crcOf_lt t)).mono ?_;rintro e wa ⟨rfl,hb1⟩))
    obtain⟨hc1,hf1⟩:=bcell hb1;have hz1:w.heap.size+1<=wa.heap.size:=(by have:=hb1.size;simpa using this)
    go_wp2
    refine bodyPost_ret (v:=outV ⟨#[]⟩ 0 5) (by simp[results,outV,results106,go_sem,hc1]) rfl ⟨by rw[HV.o],?_⟩;exact((below2d hb1).setCell nl _ |>.setCell nl _).setCell nl _
end Se
end Go.Proofs.YtaejgfdkfcmjeaaGreatDoor
