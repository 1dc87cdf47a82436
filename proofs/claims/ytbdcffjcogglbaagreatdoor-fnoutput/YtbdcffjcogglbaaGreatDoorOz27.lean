import Derived.Test.YtbdcffjcogglbaaGreatDoorOz16
import Derived.Deep.Cut
import Derived.Lib.QuietBelow
import Derived.Test.YtbdcffjcogglbaaGreatDoorOz26
import Derived.Maps.OwnOps
import Derived.Test.YtbdcffjcogglbaaGreatDoorOz34
set_option maxRecDepth 100000
set_option maxHeartbeats 8000000
namespace Go.Proofs.YtbdcffjcogglbaaGreatDoor
open Go.RowKit
open Go.Proofs.Tryz
namespace Ls
open Bk (cnt cnt_le count_any)
open Bi (is_yes is_no)
theorem hideL {p:Prop} (h:p):Hid p:=h
def rightB (z b:Int) (r:ByteArray):Bool:=decide (0<=z/\z<=1000/\1<=b/\b<=48/\r.size=32/\z<=b*64)
def lV (z b:Int) (r:ByteArray):Value:=.agg #[.int .i64 z,.int .i64 b,.string r]
def countN (z b:Int) (r:ByteArray):Nat:=if rightB z b r=true then cnt z.toNat b.toNat else 0
theorem rightB_yes {z b:Int} {r:ByteArray} (h:rightB z b r=true):0<=z/\z<=1000/\1<=b/\b<=48/\r.size=32/\z<=b*64:=of_decide_eq_true h
theorem countN_yes {p k:Nat} {r:ByteArray} (h:rightB p k r=true):countN p k r=cnt p k/\cnt p k<=64:=by
 have h1:=rightB_yes h;unfold countN;rw[if_pos h];refine⟨rfl,(cnt_le (by omega)).2 (by omega)⟩
theorem countN_no {z b:Int} {r:ByteArray} (h:rightB z b r=false):countN z b r=0:=by
 unfold countN;rw[h];rfl
theorem countN_le (z b:Int) (r:ByteArray):countN z b r<=64:=by
 cases h:rightB z b r with
 |false=>rw[countN_no h];omega
 |true =>
  have h1:=rightB_yes h;obtain⟨p,rfl⟩:=Int.eq_ofNat_of_zero_le h1.1;obtain⟨k,rfl⟩:=Int.eq_ofNat_of_zero_le (show 0<=b by omega)
  have:=countN_yes h
  omega
theorem right_impl (z b:Int) (r:ByteArray) (w:World) :
  Calls prog 18 #[lV z b r] w fun e w'=>e=.returned (.bool (rightB z b r))/\Below w.heap.size w w':=by
 unfold lV;by_cases h1:z<0
 ·have HF:Hid (rightB z b r=false):=by unfold Hid rightB;simp;omega
  rw[HF.o];go_enter func18,ntmps18
  go_wp2_with fail
  go_ret;exact⟨rfl,(Below.refl _ _).alloc nl _⟩
 ·by_cases h2:1000<z
  ·have HF:Hid (rightB z b r=false):=by unfold Hid rightB;simp;omega
   rw[HF.o];go_enter func18,ntmps18
   go_wp2_with fail
   go_ret;exact⟨rfl,(Below.refl _ _).alloc nl _⟩
  ·by_cases h3:b<1
   ·have HF:Hid (rightB z b r=false):=by unfold Hid rightB;simp;omega
    rw[HF.o];go_enter func18,ntmps18;(go_wp2_with fail);go_ret;exact⟨rfl,(Below.refl _ _).alloc nl _⟩
   ·by_cases h4:48<b
    ·have HF:Hid (rightB z b r=false):=by unfold Hid rightB;simp;omega
     rw[HF.o];go_enter func18,ntmps18;(go_wp2_with fail);go_ret;exact⟨rfl,(Below.refl _ _).alloc nl _⟩
    ·by_cases h5:r.size=32
     ·have HF:Hid (rightB z b r=decide (z<=b*64)):=by unfold Hid rightB;rw[decide_eq_decide];omega
      rw[HF.o];have h5':((r.size:Int)==32)=true:=(by rw[h5];rfl);have H5:=hideL h5;clear h5;have hw:IntKind.i64.wrap (b*64)=b*64:=(by rw[IntKind.wrap_i64];omega);go_enter func18,ntmps18;(go_wp2_with fail);go_ret;exact⟨rfl,(Below.refl _ _).alloc nl _⟩
     ·have HF:Hid (rightB z b r=false):=by unfold Hid rightB;simp;omega
      rw[HF.o];have h5':((r.size:Int)==32)=false:=beq_eq_false_iff_ne.2 (by omega);go_enter func18,ntmps18;(go_wp2_with fail);go_ret;exact⟨rfl,(Below.refl _ _).alloc nl _⟩
theorem right_spec (z b:Int) (r:ByteArray) (w:World) :
  Calls prog 22 #[lV z b r] w fun e w'=>e=.returned (.bool (rightB z b r))/\Below w.heap.size w w':=by
 unfold lV;have hbl:∀ o,Below w.heap.size w (w.alloc o):=fun o=>(Below.refl _ _).alloc nl _;by_cases h1:0<=z/\z<=1000
 ·have H1:=hideL (fun W=>is_yes z 0 1000 W h1.1 h1.2)
  obtain⟨p,rfl⟩:=Int.eq_ofNat_of_zero_le h1.1;by_cases h2:1<=b/\b<=48
  ·have H2:=hideL (fun W=>is_yes b 1 48 W h2.1 h2.2)
   obtain⟨k,rfl⟩:=Int.eq_ofNat_of_zero_le (show 0<=b by omega);by_cases h5:r.size=32
   ·have h5':((r.size:Int)==32)=true:=by rw[h5];rfl
    have HC:=hideL (fun W=>count_any p k W (by omega) (by omega) (by omega));have HE:=hideL (cnt_le (p:=p) (k:=k) (by omega));have H12:=hideL (And.intro h1 h2);have H5:=hideL h5;clear h1 h2 h5;by_cases h6:cnt p k<=64
    ·have HF:Hid (rightB p k r=true):=by unfold Hid rightB;have:=HE.o.1 h6;have:=H12.o;have:=H5.o;simp;omega
     have h6':((cnt p k:Nat):Int)<=64:=by omega
     rw[HF.o];generalize cnt p k=c at HC h6';clear h6 HE HF H12 H5;go_enter func22,ntmps22;(go_wp2_with fail);refine(H1.o _).mono ?_;rintro e w1 ⟨rfl,hw⟩;subst w1;(go_wp2_with fail);refine(H2.o _).mono ?_;rintro e w1 ⟨rfl,hw⟩;subst w1;(go_wp2_with fail);refine(HC.o _).mono ?_;rintro e w1 ⟨rfl,hw⟩;subst w1;(go_wp2_with fail);go_ret;exact⟨rfl,hbl _⟩
    ·have HF:Hid (rightB p k r=false):=by unfold Hid rightB;have:=HE.o.2;have:=H12.o;have:=H5.o;simp;omega
     have h6':decide (((cnt p k:Nat):Int)<=64)=false:=by simp;omega
     rw[HF.o];generalize cnt p k=c at HC h6';clear h6 HE HF H12 H5;go_enter func22,ntmps22;(go_wp2_with fail);refine(H1.o _).mono ?_;rintro e w1 ⟨rfl,hw⟩;subst w1;(go_wp2_with fail);refine(H2.o _).mono ?_;rintro e w1 ⟨rfl,hw⟩;subst w1;(go_wp2_with fail);refine(HC.o _).mono ?_;rintro e w1 ⟨rfl,hw⟩;subst w1;(go_wp2_with fail);go_ret;exact⟨rfl,hbl _⟩
   ·have HF:Hid (rightB p k r=false):=by unfold Hid rightB;simp;omega
    rw[HF.o];have h5':((r.size:Int)==32)=false:=beq_eq_false_iff_ne.2 (by omega);clear HF;go_enter func22,ntmps22;(go_wp2_with fail);refine(H1.o _).mono ?_;rintro e w1 ⟨rfl,hw⟩;subst w1;(go_wp2_with fail);refine(H2.o _).mono ?_;rintro e w1 ⟨rfl,hw⟩;subst w1;(go_wp2_with fail);go_ret;exact⟨rfl,hbl _⟩
  ·have H2:=hideL (fun W=>is_no b 1 48 W (by omega))
   have HF:Hid (rightB p b r=false):=by unfold Hid rightB;simp;omega
   rw[HF.o];clear HF h2;go_enter func22,ntmps22
   go_wp2_with fail
   refine(H1.o _).mono ?_;rintro e w1 ⟨rfl,hw⟩;subst w1
   go_wp2_with fail
   refine(H2.o _).mono ?_;rintro e w1 ⟨rfl,hw⟩;subst w1
   go_wp2_with fail
   go_ret;exact⟨rfl,hbl _⟩
 ·have H1:=hideL (fun W=>is_no z 0 1000 W (by omega))
  have HF:Hid (rightB z b r=false):=by unfold Hid rightB;simp;omega
  rw[HF.o];clear HF h1;go_enter func22,ntmps22
  go_wp2_with fail
  refine(H1.o _).mono ?_;rintro e w1 ⟨rfl,hw⟩;subst w1
  go_wp2_with fail
  go_ret;exact⟨rfl,hbl _⟩
theorem count_impl (z b:Int) (r:ByteArray) (w:World) :
  Calls prog 32 #[lV z b r] w fun e w'=>e=.returned (.int .i64 (countN z b r:Nat))/\Below w.heap.size w w':=by
 have HR:=hideL (fun W=>right_impl z b r W)
 cases hc:rightB z b r with
 |false =>
  have HF:=hideL (countN_no hc);rw[hc]at HR;rw[HF.o];clear HF hc;unfold lV at HR ⊢;go_enter func32,ntmps32
  go_wp2_with fail
  refine(HR.o _).mono ?_;rintro e w1 ⟨rfl,hb1⟩;have HB1:=hideL (((Below.refl w.heap.size w).alloc nl _).trans (hb1.mono (by simp)));clear hb1
  go_wp2_with fail
  go_ret;exact⟨rfl,HB1.o⟩
 |true =>
  have h1:=rightB_yes hc;obtain⟨p,rfl⟩:=Int.eq_ofNat_of_zero_le h1.1;obtain⟨k,rfl⟩:=Int.eq_ofNat_of_zero_le (show 0<=b by omega);obtain⟨HF,hcb⟩:=countN_yes hc;have HF:=hideL HF;rw[HF.o]
  have hq:((p:Int)+k-1).tdiv k=((cnt p k:Nat):Int):=by
   unfold cnt;rw[Int.tdiv_eq_ediv_of_nonneg (by omega),Int.natCast_ediv]
   congr 1
   omega
  have hk0:((k:Int)==0)=false:=by simp;omega
  rw[hc]at HR;clear HF hc;generalize cnt p k=c at hq hcb ⊢;obtain⟨v,hv⟩:∃ v,v=lV p k r:=⟨_,rfl⟩;unfold lV at HR ⊢;go_enter func32,ntmps32
  go_wp2_with fail
  have HX:Hid ((w.alloc (.cells #[.int .i64 p,.int .i64 k,.string r] 26)).heap[w.heap.size]? = some (.cells #[.int .i64 p,.int .i64 k,.string r] 26 (0,0))):=heap_alloc_new w _;refine(HR.o _).mono ?_;rintro e w1 ⟨rfl,hb1⟩;have HB1:=hideL (((Below.refl w.heap.size w).alloc nl _).trans (hb1.mono (by simp)));have HX1:=hideL ((hb1.block _ (by simp)).trans HX.o);clear hb1 HX;have c0:w1.cell? ⟨w.heap.size,0,none⟩=some (.int .i64 p):=cell_of_row w1 _ 0 _ _ _ HX1.o;have c1:w1.cell? ⟨w.heap.size,1,none⟩=some (.int .i64 k):=cell_of_row w1 _ 1 _ _ _ HX1.o
  go_wp2_with fail
  go_ret;exact⟨rfl,HB1.o⟩
theorem count_spec (z b:Int) (r:ByteArray) (w:World) :
  Calls prog 7 #[lV z b r] w fun e w'=>e=.returned (.int .i64 (countN z b r:Nat))/\Below w.heap.size w w':=by
 have HR:=hideL (fun W=>right_spec z b r W)
 cases hc:rightB z b r with
 |false =>
  have HF:=hideL (countN_no hc);rw[hc]at HR;rw[HF.o];clear HF hc;unfold lV at HR ⊢;go_enter func7,ntmps7
  go_wp2_with fail
  refine(HR.o _).mono ?_;rintro e w1 ⟨rfl,hb1⟩;have HB1:=hideL (((Below.refl w.heap.size w).alloc nl _).trans (hb1.mono (by simp)));clear hb1
  go_wp2_with fail
  go_ret;exact⟨rfl,HB1.o⟩
 |true =>
  have h1:=rightB_yes hc;obtain⟨p,rfl⟩:=Int.eq_ofNat_of_zero_le h1.1;obtain⟨k,rfl⟩:=Int.eq_ofNat_of_zero_le (show 0<=b by omega);obtain⟨HF,hcb⟩:=countN_yes hc;have HF:=hideL HF;rw[HF.o];have HC:=hideL (fun W=>count_any p k W (by omega) (by omega) (by omega));rw[hc]at HR;clear HF hc;generalize cnt p k=c at hcb HC ⊢;unfold lV at HR ⊢;go_enter func7,ntmps7
  go_wp2_with fail
  have HX:Hid ((w.alloc (.cells #[.int .i64 p,.int .i64 k,.string r] 26)).heap[w.heap.size]? = some (.cells #[.int .i64 p,.int .i64 k,.string r] 26 (0,0))):=heap_alloc_new w _;refine(HR.o _).mono ?_;rintro e w1 ⟨rfl,hb1⟩;have HB1:=hideL (((Below.refl w.heap.size w).alloc nl _).trans (hb1.mono (by simp)));have HX1:=hideL ((hb1.block _ (by simp)).trans HX.o);clear hb1 HX;have c0:w1.cell? ⟨w.heap.size,0,none⟩=some (.int .i64 p):=cell_of_row w1 _ 0 _ _ _ HX1.o;have c1:w1.cell? ⟨w.heap.size,1,none⟩=some (.int .i64 k):=cell_of_row w1 _ 1 _ _ _ HX1.o
  go_wp2_with fail
  refine(HC.o _).mono ?_;rintro e w2 ⟨rfl,hw⟩;subst w2
  go_wp2_with fail
  go_ret;exact⟨rfl,HB1.o⟩
theorem blkL {w w':World} {g:Nat} {x:Obj} (h:w.heap[g]? = some x) (hb:Below w.heap.size w w'):w'.heap[g]? = some x:=(hb.block g (Array.getElem?_eq_some_iff.1 h).1).trans h
theorem lowL {w0 w w':World} (h:Below w0.heap.size w0 w) (hb:Below w.heap.size w w'):Below w0.heap.size w0 w':=h.trans (hb.mono h.size)
theorem cells3 {W:World} {g:Nat} {x y z:Value} {t:TypeId} (h:W.heap[g]? = some (.cells #[x,y,z] t (0,0))):W.cell? ⟨g,0,none⟩=some x/\W.cell? ⟨g,1,none⟩=some y/\W.cell? ⟨g,2,none⟩=some z :=
 ⟨cell_of_row W g 0 _ _ _ h,cell_of_row W g 1 _ _ _ h,cell_of_row W g 2 _ _ _ h⟩
def oV (z b:Int) (r:ByteArray) (c:Int):Value:=.agg #[.int .i64 z,.int .i64 b,.string r,.int .i64 c]
theorem cells4 {W:World} {g:Nat} {x y z u:Value} {t:TypeId} (h:W.heap[g]? = some (.cells #[x,y,z,u] t (0,0))):W.cell? ⟨g,0,none⟩=some x/\W.cell? ⟨g,1,none⟩=some y/\W.cell? ⟨g,2,none⟩=some z/\W.cell? ⟨g,3,none⟩=some u :=
 ⟨cell_of_row W g 0 _ _ _ h,cell_of_row W g 1 _ _ _ h,cell_of_row W g 2 _ _ _ h,cell_of_row W g 3 _ _ _ h⟩
theorem set_k4 {W:World} {g:Nat} {x y z u:Value} {T:TypeId} (h:W.heap[g]? = some (.cells #[x,y,z,u] T (0,0))) (v:Value):(W.setCell ⟨g,0,none⟩ v).heap[g]? = some (.cells #[v,y,z,u] T (0,0))/\(W.setCell ⟨g,1,none⟩ v).heap[g]? = some (.cells #[x,v,z,u] T (0,0))/\(W.setCell ⟨g,2,none⟩ v).heap[g]? = some (.cells #[x,y,v,u] T (0,0))/\(W.setCell ⟨g,3,none⟩ v).heap[g]? = some (.cells #[x,y,z,v] T (0,0)):=by
 refine⟨?_,?_,?_,?_⟩
 ·rw[heap_setCell_same W g 0 _ T v h];rfl
 ·rw[heap_setCell_same W g 1 _ T v h];rfl
 ·rw[heap_setCell_same W g 2 _ T v h];rfl
 ·rw[heap_setCell_same W g 3 _ T v h];rfl
theorem set4_cells {W:World} {g:Nat} {x y z u:Value} {T:TypeId} (h:W.heap[g]? = some (.cells #[x,y,z,u] T (0,0))) (a b c d:Value) :
  ((((W.setCell ⟨g,0,none⟩ a).setCell ⟨g,1,none⟩ b).setCell ⟨g,2,none⟩ c).setCell ⟨g,3,none⟩ d).cell? ⟨g,0,none⟩=some a/\((((W.setCell ⟨g,0,none⟩ a).setCell ⟨g,1,none⟩ b).setCell ⟨g,2,none⟩ c).setCell ⟨g,3,none⟩ d).cell? ⟨g,1,none⟩=some b/\((((W.setCell ⟨g,0,none⟩ a).setCell ⟨g,1,none⟩ b).setCell ⟨g,2,none⟩ c).setCell ⟨g,3,none⟩ d).cell? ⟨g,2,none⟩=some c/\((((W.setCell ⟨g,0,none⟩ a).setCell ⟨g,1,none⟩ b).setCell ⟨g,2,none⟩ c).setCell ⟨g,3,none⟩ d).cell? ⟨g,3,none⟩=some d :=
 cells4 (set_k4 (set_k4 (set_k4 (set_k4 h a).1 b).2.1 c).2.2.1 d).2.2.2
theorem set4_low {B:Nat} {w W:World} (h:Below B w W) (a b c d:Value):Below B w ((((W.setCell ⟨B,0,none⟩ a).setCell ⟨B,1,none⟩ b).setCell ⟨B,2,none⟩ c).setCell ⟨B,3,none⟩ d):=(((h.setCell (p:=⟨B,0,none⟩) nl a).setCell (p:=⟨B,1,none⟩) nl b).setCell (p:=⟨B,2,none⟩) nl c).setCell (p:=⟨B,3,none⟩) nl d
theorem lowB {B:Nat} {w0 w w':World} (hB:w0.heap.size=B) (h:Below B w0 w) (hb:Below w.heap.size w w'):Below B w0 w':=h.trans (hb.mono (by rw[<-hB];exact h.size))
theorem lowB_alloc {B:Nat} {w0 w:World} (hB:w0.heap.size=B) (h:Below B w0 w) (o:Obj):Below B w0 (w.alloc o):=h.alloc (by rw[<-hB];exact h.size) o
theorem blk_alloc {W:World} {g:Nat} {x:Obj} (h:W.heap[g]? = some x) (o:Obj):(W.alloc o).heap[g]? = some x:=blkL h ((Below.refl _ _).alloc nl o)
end Ls
namespace Kp
open Ls (blkL lowL blk_alloc)
theorem hideK {p:Prop} (h:p):Hid p:=h
structure Cx (w0 W:World) (l:List (Nat × Obj)):Prop where
 low:Below w0.heap.size w0 W
 blk:∀ x∈l,W.heap[x.1]? = some x.2
theorem Cx.nil (w:World):Cx w w []:=⟨Below.refl _ _,fun _ h=>absurd h List.not_mem_nil⟩
theorem Cx.call {w0 W W':World} {l:List (Nat × Obj)} (h:Cx w0 W l) (hb:Below W.heap.size W W'):Cx w0 W' l:=⟨lowL h.low hb,fun x hx=>blkL (h.blk x hx) hb⟩
theorem Cx.new {w0 W:World} {l:List (Nat × Obj)} (h:Cx w0 W l) (o:Obj):Cx w0 (W.alloc o) ((W.heap.size,o) :: l) :=
 ⟨h.low.alloc h.low.size o,fun x hx=>by
  rcases List.mem_cons.1 hx with rfl|hx
  ·exact heap_alloc_new W o
  ·exact blk_alloc (h.blk x hx) o⟩
theorem Cx.get {w0 W:World} {l:List (Nat × Obj)} (h:Cx w0 W l) (i:Nat) {g:Nat} {o:Obj} (hx:l[i]? = some (g,o)):W.heap[g]? = some o:=h.blk (g,o) (List.mem_of_getElem? hx)
theorem set3_low {w0 W:World} {g:Nat} (h:Below w0.heap.size w0 W) (hg:w0.heap.size<=g) (a b c:Value):Below w0.heap.size w0 (((W.setCell ⟨g,0,none⟩ a).setCell ⟨g,1,none⟩ b).setCell ⟨g,2,none⟩ c) :=
 ((h.setCell (p:=⟨g,0,none⟩) hg a).setCell (p:=⟨g,1,none⟩) hg b).setCell (p:=⟨g,2,none⟩) hg c
theorem ty_ne {W:World} {g h:Nat} {cs ds:Array Value} {T U:TypeId} (hg:W.heap[g]? = some (.cells cs T (0,0))) (hh:W.heap[h]? = some (.cells ds U (0,0))) (hT:T≠U):¬g=h:=by
 rintro rfl;rw[hg]at hh;simp at hh;exact hT hh.2
theorem lt_rowK {w:World} {g:Nat} {o:Obj} (h:w.heap[g]? = some o):g<w.heap.size:=(Array.getElem?_eq_some_iff.1 h).1
def kV (z b:Int) (r s:ByteArray) (y:Int):Value:=.agg #[.int .i64 z,.int .i64 b,.string r,.string s,.int .i64 y]
def kB (z b:Int) (r s:ByteArray) (y:Int):Obj:=.cells #[.int .i64 z,.int .i64 b,.string r,.string s,.int .i64 y] 34
theorem k_cells {W:World} {g:Nat} {z b:Int} {r s:ByteArray} {y:Int} (h:W.heap[g]? = some (kB z b r s y)):W.cell? ⟨g,0,none⟩=some (.int .i64 z)/\W.cell? ⟨g,1,none⟩=some (.int .i64 b)/\W.cell? ⟨g,2,none⟩=some (.string r)/\W.cell? ⟨g,3,none⟩=some (.string s)/\W.cell? ⟨g,4,none⟩=some (.int .i64 y) :=
 ⟨cell_of_row W g 0 _ _ _ h,cell_of_row W g 1 _ _ _ h,cell_of_row W g 2 _ _ _ h,cell_of_row W g 3 _ _ _ h,cell_of_row W g 4 _ _ _ h⟩
theorem set5 {W:World} {g:Nat} {x0 x1 x2 x3 x4:Value} {T:TypeId} (h:W.heap[g]? = some (.cells #[x0,x1,x2,x3,x4] T (0,0))) (a0 a1 a2 a3 a4:Value) :
  (((((W.setCell ⟨g,0,none⟩ a0).setCell ⟨g,1,none⟩ a1).setCell ⟨g,2,none⟩ a2).setCell ⟨g,3,none⟩ a3).setCell ⟨g,4,none⟩ a4).heap[g]? = some (.cells #[a0,a1,a2,a3,a4] T (0,0)):=by
 have h0:(W.setCell ⟨g,0,none⟩ a0).heap[g]? = some (.cells #[a0,x1,x2,x3,x4] T (0,0)):=by rw[heap_setCell_same W g 0 _ T a0 h];rfl
 have h1:=heap_setCell_same _ g 1 _ T a1 h0;have h2:=heap_setCell_same _ g 2 _ T a2 h1;have h3:=heap_setCell_same _ g 3 _ T a3 h2;have h4:=heap_setCell_same _ g 4 _ T a4 h3;exact h4
theorem set5_low {w0 W:World} {g:Nat} (h:Below w0.heap.size w0 W) (hg:w0.heap.size<=g) (a0 a1 a2 a3 a4:Value) :
  Below w0.heap.size w0 (((((W.setCell ⟨g,0,none⟩ a0).setCell ⟨g,1,none⟩ a1).setCell ⟨g,2,none⟩ a2).setCell ⟨g,3,none⟩ a3).setCell ⟨g,4,none⟩ a4) :=
 ((((h.setCell (p:=⟨g,0,none⟩) hg a0).setCell (p:=⟨g,1,none⟩) hg a1).setCell (p:=⟨g,2,none⟩) hg a2).setCell (p:=⟨g,3,none⟩) hg a3).setCell (p:=⟨g,4,none⟩) hg a4
theorem cells5 {W:World} {g:Nat} {x0 x1 x2 x3 x4:Value} {T:TypeId} (h:W.heap[g]? = some (.cells #[x0,x1,x2,x3,x4] T (0,0))):W.cell? ⟨g,0,none⟩=some x0/\W.cell? ⟨g,1,none⟩=some x1/\W.cell? ⟨g,2,none⟩=some x2/\W.cell? ⟨g,3,none⟩=some x3/\W.cell? ⟨g,4,none⟩=some x4 :=
 ⟨cell_of_row W g 0 _ _ _ h,cell_of_row W g 1 _ _ _ h,cell_of_row W g 2 _ _ _ h,cell_of_row W g 3 _ _ _ h,cell_of_row W g 4 _ _ _ h⟩
def Five (W:World) (g:Nat) (x0 x1 x2 x3 x4:Value):Prop :=
 (W.cell? ⟨g,0,none⟩=some x0/\W.cell? ⟨g,1,none⟩=some x1/\W.cell? ⟨g,2,none⟩=some x2/\W.cell? ⟨g,3,none⟩=some x3/\W.cell? ⟨g,4,none⟩=some x4)/\W.frozen? ⟨g,0,none⟩=false/\W.frozen? ⟨g,1,none⟩=false/\W.frozen? ⟨g,2,none⟩=false/\W.frozen? ⟨g,3,none⟩=false/\W.frozen? ⟨g,4,none⟩=false
def kZ:Obj:=.cells #[.int .i64 0,.int .i64 0,.string ⟨#[]⟩,.string ⟨#[]⟩,.int .i64 0] 34
theorem ans5 {w W:World} {g:Nat} {x0 x1 x2 x3 x4:Value} (h:W.heap[g]? = some (.cells #[x0,x1,x2,x3,x4] 34 (0,0))) (hl:Below w.heap.size w W) (hg:w.heap.size<=g) (a0 a1 a2 a3 a4:Value) :
  Below w.heap.size w (((((W.setCell ⟨g,0,none⟩ a0).setCell ⟨g,1,none⟩ a1).setCell ⟨g,2,none⟩ a2).setCell ⟨g,3,none⟩ a3).setCell ⟨g,4,none⟩ a4)/\(((((W.setCell ⟨g,0,none⟩ a0).setCell ⟨g,1,none⟩ a1).setCell ⟨g,2,none⟩ a2).setCell ⟨g,3,none⟩ a3).setCell ⟨g,4,none⟩ a4).heap[g]? = some (.cells #[a0,a1,a2,a3,a4] 34 (0,0)) :=
 ⟨set5_low hl hg _ _ _ _ _,set5 h _ _ _ _ _⟩
end Kp
namespace Ls
open Pk (cat numsL join_any nums_any)
open St (Strs)
open In (Ints)
open Nu (putS putT put_spec text_impl putS_size)
def bytesA (z b:Int) (r:ByteArray):ByteArray:=putS z++putS b++putT r
def bytesL (z b:Int) (r:ByteArray):ByteArray:=if rightB z b r=true then bytesA z b r else ⟨#[]⟩
theorem mixed:prog.follows .mixedOrders=true:=by kernel_rfl
theorem bytes_extL {a b:ByteArray} (h:a.data.toList=b.data.toList):a=b:=ByteArray.ext (by rw[<-Array.toArray_toList (xs:=a.data),h,Array.toArray_toList])
theorem putT_size (r:ByteArray) (h:r.size=32):(putT r).size<=42:=by
 unfold putT;rw[if_pos (by omega),ByteArray.size_append]
 have:=putS_size (r.size:Int)
 omega
theorem lm_alloc {w W:World} (h:Below w.heap.size w W) (o:Obj):Below w.heap.size w (W.alloc o):=h.alloc h.size o
theorem lm_drew {w W:World} (h:Below w.heap.size w W):Below w.heap.size w W.drew:=h.drew
end Ls
namespace Ls
open Pk (cat numsL join_any nums_any numsL_le)
open St (Strs)
open In (Ints)
open Nu (putS putT put_spec text_impl putS_size)
end Ls
namespace Bi
open Go.RowKit Go.Maps
open Go.WideMaps (keyOf_string_mk string_of_keyOf)
open In (Ints IsI OwnIn made_ints)
open Nu (ret_strJ)
theorem Tryz.infoG2:(prog.info? 2).map (fun i=>(i.zero,i.size,i.bytes))=some (some (.int .i64 0),1,8):=by kernel_rfl
def fill (xs:List Int) (m:Nat):List Int:=xs++List.replicate (m-xs.length) 0
theorem fill_length (xs:List Int) (m:Nat) (h:xs.length<=m):(fill xs m).length=m:=by simp[fill];omega
theorem fill_next (xs:List Int) (m:Nat) (x:Int) (h:xs.length<m):(fill xs m).set xs.length x=fill (xs++[x]) m:=by
 unfold fill;rw[List.set_append,if_neg (by omega),Nat.sub_self,List.length_append];obtain⟨d,hd⟩:∃ d,m-xs.length=d+1:=⟨m-xs.length-1,by omega⟩;rw[hd,show m-(xs.length + [x].length)=d by simp;omega,List.replicate_succ,List.set_cons_zero];simp
theorem fill_all (xs:List Int) (m:Nat) (h:xs.length=m):fill xs m=xs:=by simp[fill,h]
theorem fill_none (m:Nat):fill [] m=List.replicate m 0:=by simp[fill]
def Out0 (w:World) (g:Nat):Prop:=w.heap[g]? = some (.cells #[.slice none 0 0,.int .i64 0,.int .i64 0] 231 (0,0))
theorem Out0.c0 {w:World} {g:Nat} (h:Out0 w g):w.cell? ⟨g,0,none⟩=some (.slice none 0 0):=(cell_of_row w g 0 _ _ _ h).trans rfl
theorem Out0.c1 {w:World} {g:Nat} (h:Out0 w g):w.cell? ⟨g,1,none⟩=some (.int .i64 0):=(cell_of_row w g 1 _ _ _ h).trans rfl
theorem Out0.c2 {w:World} {g:Nat} (h:Out0 w g):w.cell? ⟨g,2,none⟩=some (.int .i64 0):=(cell_of_row w g 2 _ _ _ h).trans rfl
theorem Out0.fr {w:World} {g:Nat} (h:Out0 w g) (j:Nat):w.frozen? ⟨g,j,none⟩=false:=frozen_of_row w g j _ _ h
theorem Out0.below {w w':World} {g B:Nat} (h:Out0 w g) (b:Below B w w') (hg:g<B):Out0 w' g:=by unfold Out0;rw[b.block g hg];exact h
theorem Out0.set {w:World} {g:Nat} (h:Out0 w g) (a:Addr) (v:Value) (ha:g≠a.block):Out0 (w.setCell a v) g:=by unfold Out0;rw[heap_setCell_other w a g v ha];exact h
theorem Out0.new (w:World):Out0 (w.alloc (.cells #[.slice none 0 0,.int .i64 0,.int .i64 0] 231)) w.heap.size:=heap_alloc_last w _
theorem get_yes (l:List Int) (t:ByteArray) (m:Nat) (a:Option Addr) (cap:Nat) (w:World) (hl:Ints w w.heap.size a l) (h4:¬400<l.length) (h8:¬8000<t.size) (hw:whole l=true) (hg:good t=true) (hm:m<=400) :
  Calls prog 182 #[.slice a l.length cap,.string t,.int .i64 m] w fun e w'=>∃ v,e=.returned (.agg #[v,.int .i64 (outS (st l t m)).2.1,.int .i64 (outS (st l t m)).2.2])/\OwnIn w' w.heap.size w'.heap.size v (outS (st l t m)).1/\Below w.heap.size w w':=by
 obtain⟨i0,hi0,hz0,hz1,hz2⟩:=info_parts Tryz.infoG2;have hd4:decide (400<(l.length:Int))=false:=decide_eq_false (by omega);have hd8:decide (8000<(t.size:Int))=false:=decide_eq_false (by omega);have hdm:decide ((m:Int)<0)=false:=decide_eq_false (by omega);have hdm4:decide ((400:Int)<m)=false:=decide_eq_false (by omega);obtain⟨W0,hW0⟩:∃ W0,W0=w.alloc (.cells #[.slice none 0 0,.int .i64 0,.int .i64 0] 231):=⟨_,rfl⟩
 have z0:W0.heap.size=w.heap.size+1:=by rw[hW0];simp
 have B0:=hideB (show Below w.heap.size w W0 by rw[hW0];exact(Below.refl _ _).alloc nl _);have O0:=hideB (show Out0 W0 w.heap.size by rw[hW0];exact Out0.new w);have hl0:=(hl.below B0.o).mono B0.o.size;have HWH:=hideB (whole_impl l a cap W0.heap.size W0 hl0 (by omega));rw[hw]at HWH;have HGO:=hideB (good_impl t W0 (by omega));rw[hg]at HGO;have HSY:=hideB (symbols_any l a cap W0 hl0 (whole_right hw));have HR:=hideB (whole_right hw);clear hl hl0 hw hg h4;obtain⟨n,hln⟩:∃ n,n=l.length:=⟨_,rfl⟩;have HLN:=hideB hln;rw[<-hln]at hd4 HWH HSY ⊢;clear hln;go_enter func182,ntmps182
 go_wp2_with fail
 rw[<-hW0];have HW0:=hideB hW0;clear hW0;refine HWH.o.mono ?_;rintro e w' ⟨rfl,hw'⟩;subst w'
 go_wp2_with fail
 refine HGO.o.mono ?_;rintro e w' ⟨rfl,hw'⟩;subst w'
 go_wp2_with fail
 refine HSY.o.mono ?_;rintro e w1 ⟨D,rfl,hown1,hcm,hb1⟩;have M1:=hideB hown1;have HCM:=hideB hcm;have B1:=hideB (B0.o.trans (hb1.mono (by omega)));have O1:=hideB (O0.o.below hb1 (by omega));have z1:W0.heap.size<w1.heap.size:=hown1.lt;clear hown1 hcm hb1 HWH HGO HSY;obtain⟨b,hb⟩:∃ b,b=W0.heap.size:=⟨_,rfl⟩;rw[<-hb]at z0 z1 M1 ⊢
 have zb:w.heap.size<b:=by omega
 clear z0;clear hb HW0 O0 B0
 go_wp2_with (at_make;refine wpList_make_full _ rfl (.tmp 40) (.tmp 40) 69 rfl w1.heap.size 2 i0 (.int .i64 0) 1 underlying69 hi0 hz0 hz1 .i64 .i64 _ _ m rfl rfl (by simp) (by simp) (by rw[hz2];omega) (by unfold maxLen;omega) nl ?_;intro w2 hown2 hgrow2;have R2:=hideB (made_ints hown2);have b2:=(Below.refl w1.heap.size w1).grown hgrow2 nl (by simp);have B2:=hideB (B1.o.trans (b2.mono B1.o.size));have O2:=hideB (O1.o.below b2 (by omega));have M2:=hideB (M1.o.kept hgrow2 (by simp));clear hown2 hgrow2 b2)
 go_loopw [43,9] (fun i at_ wr=>∃ (k p:Nat) (xs:List Int),i=.int .i64 k/\at_=.int .i64 p/\k<=m/\st l t k=.inr (xs,p)/\wr.ownsMap prog 9 (plainElem prog 2) b n D/\IsI wr w1.heap.size 2 (fill xs m)/\Out0 wr w.heap.size/\Below w.heap.size w wr) (fun i _ _=>m-(intOf i).toNat)
 case atStart=>exact⟨0,0,[],rfl,rfl,Nat.zero_le _,rfl,M2.o,by rw[fill_none];exact R2.o,O2.o,B2.o⟩
 case round =>
  obtain⟨k,p,xs,rfl,rfl,hk,hst,hown,hi,ho,hbel⟩:=hrel;have HST:=hideB hst;have M3:=hideB hown;have I3:=hideB hi;have O3:=hideB ho;have B3:=hideB hbel;obtain⟨hps,hxl⟩:=st_facts k p xs hst;have HXL:=hideB hxl;clear hst hown hi ho hbel hxl;by_cases hlt:k<m
  ·have hpi:(p:Int)<=t.size:=by omega
   have HFI:=hideB (first_any l (rst t p) b n D wr M3.o (by rw[<-HLN.o];exact HCM.o) HR.o (by rw[rst_size];omega));have HRE:Hid (rst t p=t.extract p t.size):=rfl
   cases hs:sym l (rst t p) with
   |none =>
    have HT:Hid (symT l (rst t p)=⟨#[]⟩):=by
     unfold Hid symT;rw[hs]
    rw[HT.o,HRE.o]at HFI;have HB:=hideB (st_bad HST.o hs)
    have HE:Hid (outS (st l t m)=([],0,why l (rst t p))):=by
     have h1:=st_stay HB.o (m-(k+1));rw[show k+1+(m-(k+1))=m by omega]at h1;unfold Hid;rw[h1];rfl
    have HWY:=hideB (why_any l (rst t p) b n b D wr M3.o (by rw[<-HLN.o];exact HCM.o) nl (Nat.le_of_lt M3.o.lt));rw[HRE.o]at HWY HE;generalize why l (t.extract p t.size)=wy at HWY HE;clear hs;(go_wp2_with fail);refine HFI.o.mono ?_;rintro e w' ⟨rfl,hw'⟩;subst w';(go_wp2_with fail);refine HWY.o.mono ?_;rintro e w4 ⟨rfl,hb4⟩;have O4:=hideB (O3.o.below hb4 (by omega));have B4:=hideB (B3.o.trans (hb4.mono (by omega)));have c0:=O4.o.c0;have c1:=O4.o.c1;have c2:=O4.o.c2;have f0:=O4.o.fr 0;have f1:=O4.o.fr 1;have f2:=O4.o.fr 2;clear hb4;(go_wp2_with fail);refine bodyPost_ret (v:=.agg #[.slice none 0 0,.int .i64 0,.int .i64 wy]) (by simp[results,results182,go_sem,c0,c1,c2]) rfl ⟨.slice none 0 0,?_,?_,?_⟩
    ·rw[HE.o]
    ·rw[HE.o]
     exact .inl ⟨rfl,rfl⟩
    ·exact((B4.o.setCell nl _).setCell nl _).setCell nl _
   |some i =>
    have HT:Hid (symT l (rst t p)=codeOf l i):=by
     unfold Hid symT;rw[hs]
    have hmt:=sym_mt hs;have HSM:=hideB (st_more HST.o hs);have HCO:=hideB (codeOf_size l i);have hcl:=codeOf_le l (within_yes (right_yes HR.o).1).2 i;have HAT:=hideB (HCM.o.2 i (by rw[HLN.o];exact hmt.1) hmt.1 hmt.2.1);have hw1:1<=wd l i:=(by have:=hmt.2.1;unfold wd;omega);rw[show (l.getD i 0).toNat=wd l i from rfl]at HCO;rw[<-HCO.o]at HSM hw1;rw[HT.o,HRE.o]at HFI;obtain⟨c,hc⟩:∃ c,c=codeOf l i:=⟨_,rfl⟩;rw[<-hc]at HFI HSM hw1 hcl HAT;have hne:c.toList.isEmpty=false:=nonempty c hw1;have hkey:keyOf prog 9 (.string c)=some (kl c):=keyOf_string_mk underlying9 (by unfold maxLen;omega);have hkf:k<(fill xs m).length:=(by rw[fill_length xs m (by have:=HXL.o;omega)];exact hlt);have cf:=I3.o.frozen k;obtain⟨v0,ce⟩:∃ v0,wr.cell? ⟨w1.heap.size,k,none⟩=some (.int .i64 v0):=⟨_,I3.o.cell hkf⟩
    have HFN:Hid ((fill xs m).set k (i:Int)=fill (xs++[(i:Int)]) m):=by
     have h1:=HXL.o;unfold Hid;rw[<-h1];exact fill_next xs m i (by omega)
    have hown:=M3.o;clear hs hmt hc hkf HT;(go_wp2_with fail);refine HFI.o.mono ?_;rintro e w' ⟨rfl,hw'⟩;subst w'
    go_wp2_with (first|(at_lookup;refine wpList_lookup_own_int _ rfl _ _ 249 rfl 9 2 .i64 lawS underlying249 underlying2 (zeroI _) b n D rfl hown _ _ rfl hkey ?_;intro c' hat hwc;have hci:c'=(i:Int):=(by rw[HAT.o]at hat;simpa using hat.symm);subst hci;clear hat hwc))
    (go_wp2_with fail)
    go_roundw
    case rel=>exact⟨k+1,p+c.size,xs++[(i:Int)],by go_num,by go_num,by omega,HSM.o,M3.o.setCell (a:=⟨w1.heap.size,k,none⟩) (by simp;omega) _,by rw[<-HFN.o];exact I3.o.set k _,O3.o.set _ _ (by simp;omega),B3.o.setCell (p:=⟨w1.heap.size,k,none⟩) (by simp;omega) _⟩
    case measure=>simp[intOf];omega
  ·obtain rfl:k=m:=by omega
   have HE:Hid (outS (st l t k)=(xs,(p:Int),0)):=by
    unfold Hid;rw[HST.o];rfl
   have HI:Hid (IsI wr w1.heap.size 2 xs):=by
    have:=I3.o
    rw[fill_all xs k HXL.o]at this;exact this
   have c0:=O3.o.c0;have c1:=O3.o.c1;have c2:=O3.o.c2;have f0:=O3.o.fr 0;have f1:=O3.o.fr 1;have f2:=O3.o.fr 2;have HXK:Hid (k=xs.length):=HXL.o.symm
   go_wp2_with fail
   refine bodyPost_ret (v:=.agg #[.slice (some ⟨w1.heap.size,0,none⟩) k k,.int .i64 p,.int .i64 0]) (by simp[results,results182,go_sem,c0,c1,c2]) rfl ⟨.slice (some ⟨w1.heap.size,0,none⟩) k k,?_,?_,?_⟩
   ·rw[HE.o]
   ·rw[HE.o]
    refine .inr ⟨w1.heap.size,k,by rw[<-HXK.o],by omega,?_,?_⟩
    ·have:=HI.o.lt
     simpa [World.setCell] using this
    ·exact(((HI.o.set_other ⟨w.heap.size,0,none⟩ _ (by simp;omega)).set_other ⟨w.heap.size,1,none⟩ _ (by simp;omega)).set_other ⟨w.heap.size,2,none⟩ _ (by simp;omega)).own
   ·exact((B3.o.setCell nl _).setCell nl _).setCell nl _
end Bi
namespace Bi
open Go.RowKit Go.Maps
open In (Ints IsI OwnIn)
open St (IsS Strs)
theorem nil_in (w:World) (lo hi:Nat):OwnIn w lo hi (.slice none 0 0) []:=.inl ⟨rfl,rfl⟩
theorem get_impl (l:List Int) (t:ByteArray) (m:Int) (a:Option Addr) (cap:Nat) (w:World) (hl:Ints w w.heap.size a l) (hn:l.length<=1048576) (ht:t.size<=1048576) :
  Calls prog 182 #[.slice a l.length cap,.string t,.int .i64 m] w fun e w'=>∃ v,e=.returned (.agg #[v,.int .i64 (getR l t m).2.1,.int .i64 (getR l t m).2.2])/\OwnIn w' w.heap.size w'.heap.size v (getR l t m).1/\Below w.heap.size w w':=by
 by_cases h4:400<l.length
 ·rw[getR_size (Or.inl h4)]
  clear hl;generalize l.length=n at hn h4 ⊢;go_enter func182,ntmps182
  go_wp2_with fail
  refine bodyPost_ret (v:=.agg #[.slice none 0 0,.int .i64 0,.int .i64 2]) (by simp[results,results182,go_sem]) rfl ⟨.slice none 0 0,rfl,nil_in _ _ _,(Below.refl _ _).alloc nl _⟩
 ·have hd4:decide (400<(l.length:Int))=false:=decide_eq_false (by omega)
  by_cases h8:8000<t.size
  ·rw[getR_size (Or.inr h8)]
   clear hl;generalize l.length=n at hn h4 hd4 ⊢;go_enter func182,ntmps182
   go_wp2_with fail
   refine bodyPost_ret (v:=.agg #[.slice none 0 0,.int .i64 0,.int .i64 2]) (by simp[results,results182,go_sem]) rfl ⟨.slice none 0 0,rfl,nil_in _ _ _,(Below.refl _ _).alloc nl _⟩
  ·have hd8:decide (8000<(t.size:Int))=false:=decide_eq_false (by omega)
   have hno:¬(400<l.length∨8000<t.size):=by omega
   have hl0:=(hl.below ((Below.refl w.heap.size w).alloc nl (.cells #[.slice none 0 0,.int .i64 0,.int .i64 0] 231))).mono (by simp:w.heap.size<=(w.alloc (.cells #[.slice none 0 0,.int .i64 0,.int .i64 0] 231)).heap.size);have HWH:=hideB (whole_impl l a cap _ _ hl0 hn);have HGO:=hideB (good_impl t (w.alloc (.cells #[.slice none 0 0,.int .i64 0,.int .i64 0] 231)) ht);clear hl0
   cases hw:whole l with
   |false =>
    rw[getR_form hno (Or.inl hw)];rw[hw]at HWH;clear hl hno;generalize l.length=n at hn h4 hd4 HWH ⊢;go_enter func182,ntmps182;(go_wp2_with fail);refine HWH.o.mono ?_;rintro e w' ⟨rfl,hw'⟩;subst w';(go_wp2_with fail);refine bodyPost_ret (v:=.agg #[.slice none 0 0,.int .i64 0,.int .i64 1]) (by simp[results,results182,go_sem]) rfl ⟨.slice none 0 0,rfl,nil_in _ _ _,(Below.refl _ _).alloc nl _⟩
   |true =>
    cases hg:good t with
    |false =>
     rw[getR_form hno (Or.inr (Or.inl hg))];rw[hw]at HWH;rw[hg]at HGO;clear hl hno hw;generalize l.length=n at hn h4 hd4 HWH ⊢;go_enter func182,ntmps182;(go_wp2_with fail);refine HWH.o.mono ?_;rintro e w' ⟨rfl,hw'⟩;subst w';(go_wp2_with fail);refine HGO.o.mono ?_;rintro e w' ⟨rfl,hw'⟩;subst w';(go_wp2_with fail);refine bodyPost_ret (v:=.agg #[.slice none 0 0,.int .i64 0,.int .i64 1]) (by simp[results,results182,go_sem]) rfl ⟨.slice none 0 0,rfl,nil_in _ _ _,(Below.refl _ _).alloc nl _⟩
    |true =>
     by_cases hm:m<0
     ·rw[getR_form hno (Or.inr (Or.inr (Or.inl hm)))]
      rw[hw]at HWH;rw[hg]at HGO;clear hl hno hw hg;generalize l.length=n at hn h4 hd4 HWH ⊢;go_enter func182,ntmps182;(go_wp2_with fail);refine HWH.o.mono ?_;rintro e w' ⟨rfl,hw'⟩;subst w';(go_wp2_with fail);refine HGO.o.mono ?_;rintro e w' ⟨rfl,hw'⟩;subst w';(go_wp2_with fail);refine bodyPost_ret (v:=.agg #[.slice none 0 0,.int .i64 0,.int .i64 1]) (by simp[results,results182,go_sem]) rfl ⟨.slice none 0 0,rfl,nil_in _ _ _,(Below.refl _ _).alloc nl _⟩
     ·by_cases hm4:400<m
      ·rw[getR_form hno (Or.inr (Or.inr (Or.inr hm4)))]
       have hdm:decide (m<0)=false:=decide_eq_false hm;rw[hw]at HWH;rw[hg]at HGO;clear hl hno hw hg;generalize l.length=n at hn h4 hd4 HWH ⊢;go_enter func182,ntmps182;(go_wp2_with fail);refine HWH.o.mono ?_;rintro e w' ⟨rfl,hw'⟩;subst w';(go_wp2_with fail);refine HGO.o.mono ?_;rintro e w' ⟨rfl,hw'⟩;subst w';(go_wp2_with fail);refine bodyPost_ret (v:=.agg #[.slice none 0 0,.int .i64 0,.int .i64 1]) (by simp[results,results182,go_sem]) rfl ⟨.slice none 0 0,rfl,nil_in _ _ _,(Below.refl _ _).alloc nl _⟩
      ·obtain⟨k,rfl⟩:∃ k:Nat,m=k:=⟨m.toNat,by omega⟩
       rw[getR_in hno hw hg (by omega)];exact get_yes l t k a cap w hl h4 h8 hw hg (by omega)
end Bi
namespace Bi
open Sh
open Nu (ret_strJ)
theorem open_yes (t:ByteArray) (m:Nat) (w:World) (ht:¬8000<t.size) (hm:m<=8*t.size) :
  Calls prog 181 #[.string t,.int .i64 m] w fun e w'=>e=.returned (.string (openV t m))/\Below w.heap.size w w':=by
 obtain⟨i0,hi,hz0,hz1,hz2⟩:=info_parts Nu.Tryz.infoJ5;have hd8:decide (8000<(t.size:Int))=false:=decide_eq_false (by omega);have hd0:decide ((m:Int)<0)=false:=decide_eq_false (by omega);have hd1:decide (8*(t.size:Int)<m)=false:=decide_eq_false (by omega);go_enter func181,ntmps181
 go_wp2_with (at_make;refine wpList_make_full _ rfl (.tmp 21) (.tmp 21) 22 rfl w.heap.size 5 i0 (.int .u8 0) 1 underlying22 hi hz0 hz1 .i64 .i64 _ _ m rfl rfl (by simp) (by simp) (by rw[hz2];omega) (by unfold maxLen;omega) nl ?_;intro w1 hown1 hgrow1;have HR:=hideB (made_row hown1);have HB:=hideB ((Below.refl w.heap.size w).grown hgrow1 nl (by simp));clear hown1 hgrow1)
 go_loopw [24] (fun i wr=>∃ k:Nat,i=.int .i64 k/\k<=m/\IsB wr w.heap.size 5 .u8 m (fun j=>(opK t k j:Nat))/\Below w.heap.size w wr) (fun i _=>m-(intOf i).toNat)
 case atStart=>exact⟨0,rfl,by omega,IsB.congr HR.o (fun j hj=>by rw[opK_zero];rfl),HB.o⟩
 case round =>
  obtain⟨k,rfl,hk,hr,hbel⟩:=hrel;have HR2:=hideB hr;by_cases hlt:k<m
  ·obtain⟨q,hq⟩:∃ q:Nat,q=k/8:=⟨_,rfl⟩
   have hqi:(k:Int)/8=q:=by omega
   have hqt:q<t.size:=by omega
   obtain⟨y,b0,hy⟩:=byte_at t q hqt;obtain⟨s,hs⟩:∃ s:Nat,s=7-k%8:=⟨_,rfl⟩
   have hsi:(7:Int)-(k:Int)%8=s:=by omega
   have ce:=hr.cell (j:=k) (by omega);have cf:=hr.frozen k
   have hy2:(y.toNat:Int)<256:=by have:=y.toNat_lt;omega
   have HO:=hideB (bitOf_any y.toNat s wr (by omega))
   have HV:Hid (((bitB y.toNat s:Nat):Int)=((bitB (bt t (k/8)) (7-k%8):Nat):Int)):=by
    unfold Hid;rw[hy,hs,hq]
   clear hr hy hs hq
   go_wp2_with fail
   refine HO.o.mono ?_;rintro e w' ⟨rfl,hw⟩;subst w'
   go_wp2_with fail
   go_roundw
   case rel =>
    exact⟨k+1,by go_num,by omega,IsB.congr (HR2.o.set k _) (fun j hj=>opK_next t k j _ HV.o),hbel.setCell nl _⟩
   case measure=>simp[intOf];omega
  ·obtain rfl:k=m:=by omega
   have hcv:=hr.str (P:=prog) (src:=22) (dst:=9) k k nl (fun j _=>opK_lt t k j) underlying22 underlying5 underlying9;rw[opK_all]at hcv;clear hr
   go_wp2_with fail
   go_ret;exact⟨rfl,hbel⟩
theorem open_impl (t:ByteArray) (m:Int) (w:World) (ht:t.size<=1048576) :
  Calls prog 181 #[.string t,.int .i64 m] w fun e w'=>e=.returned (.string (openR t m))/\Below w.heap.size w w':=by
 by_cases h:8000<t.size
 ·have HE:=hideB (openR_no t m (Or.inl h))
  go_enter func181,ntmps181
  go_wp2_with fail
  go_ret;exact⟨ret_strJ HE.o.symm,Below.refl _ _⟩
 ·have hd8:decide (8000<(t.size:Int))=false:=decide_eq_false (by omega)
  by_cases h0:m<0
  ·have HE:=hideB (openR_no t m (Or.inr (Or.inl h0)))
   go_enter func181,ntmps181
   go_wp2_with fail
   go_ret;exact⟨ret_strJ HE.o.symm,Below.refl _ _⟩
  ·by_cases h1:8*(t.size:Int)<m
   ·have HE:=hideB (openR_no t m (Or.inr (Or.inr h1)))
    have hd0:decide (m<0)=false:=decide_eq_false (by omega);go_enter func181,ntmps181;(go_wp2_with fail);go_ret;exact⟨ret_strJ HE.o.symm,Below.refl _ _⟩
   ·obtain⟨k,rfl⟩:∃ k:Nat,m=k:=⟨m.toNat,by omega⟩
    rw[openR_yes t k h (by omega)];exact open_yes t k w h (by omega)
end Bi
namespace Fr
open Sh (IsB rowF upd made_row upd_same upd_other strF)
open Ze (hideZ numsR upTo upTo_yes numsR_of numsR_long numsR_yes nums_spec)
open St (Aft)
open In (Ints)
open Nu (ret_strJ bv own_string app_below)
open Ap (Own0 wpList_append_own0)
def Own0B (w:World) (base:Nat) (v:Value) (l:List UInt8):Prop:=Own0 w base 5 1 v l.length (l.map bv)
theorem own0_string {P:Program} {w:World} {base src dst:TypeId} {v:Value} (l:List UInt8) (h:Own0B w base v l)
  (hs:P.underlying src=some (.slice 5)) (he:P.underlying 5=some (.int .u8)) (hd:P.underlying dst=some .string) :
  (convert src dst v).run P w=.ok (.string ⟨l.toArray⟩) w:=by
 rcases h with⟨b,rfl,h0,_⟩|h
 ·obtain rfl:l=[]:=List.eq_nil_of_length_eq_zero h0
  exact run_convert_bytes_back w src dst 5 b 0 [] hs he hd (by intro j hj;exact absurd hj (Nat.not_lt_zero j))
 ·exact own_string l h hs he hd
theorem one_newB (W:World) (s:Int) (t:TypeId):∀ (j:Nat) (u:Value),[(Value.int .u8) s][j]? = some u->(W.alloc (.cells #[.int .u8 s] t)).cell? ((⟨W.heap.size,0,none⟩:Addr).add j)=some u:=by
 intro j u hj
 match j,hj with
 |0,hj=>simp at hj;subst hj;simp[Addr.add]
theorem one_cellB (s:Int):∀ u∈[(Value.int .u8) s],u.oneCell'=true:=by
 intro u hu;simp at hu;subst hu;rfl
theorem own0B_snoc {w:World} {base:Nat} {v:Value} {l:List UInt8} {x:Int} (h0:0<=x) (h1:x<256) (h:w.ownsRow base 5 1 v (l.length+1) (l.map bv++[.int .u8 x])):Own0B w base v (l++[UInt8.ofNat x.toNat]):=by
 refine .inr ?_
 have e:bv (UInt8.ofNat x.toNat)=.int .u8 x:=by
  simp[bv];omega
 rw[List.length_append,List.map_append,List.map_singleton,e];exact h
end Fr
namespace Bi
open St (IsS Strs)
def wthK (l:List Int) (t:ByteArray) (k:Nat):Bool:=(List.range k).any fun i=>decide (0<l.getD i 0) && Lib.hasPrefix (codeOf l i).data.toList t.data.toList
def nxt (l:List Int) (t:ByteArray):Int:=match sym l t with
 |some i=>(i:Int)
 |none=>if wth l t=true then -2 else -1
end Bi
end Go.Proofs.YtbdcffjcogglbaaGreatDoor
