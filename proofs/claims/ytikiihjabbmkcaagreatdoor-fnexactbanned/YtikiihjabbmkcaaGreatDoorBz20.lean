/- Texts put together: LsRight, LsArg, LsOut, KpCx. -/
import Derived.Test.YtikiihjabbmkcaaGreatDoorBz19
import Derived.Deep.Cut
import Derived.RegionTactic
import Derived.BigRegion
import Derived.Deep.RegionWith
set_option maxRecDepth 100000
set_option maxHeartbeats 8000000
namespace Go.Proofs.YtikiihjabbmkcaaGreatDoor.Ls
open Go.RowKit
open Bk (cnt cnt_le count_any)
open Bi (is_yes is_no)
theorem hideL {p:Prop} (h:p):Hid p:=h
def rightB (z b:Int) (r:ByteArray):Bool:=decide (0<=z/\z<=1000/\1<=b/\b<=48/\r.size=32/\z<=b*64)
def lV (z b:Int) (r:ByteArray):Value:=.agg #[.int .i64 z,.int .i64 b,.string r]
def countN (z b:Int) (r:ByteArray):Nat:=if rightB z b r=true then cnt z.toNat b.toNat else 0
theorem rightB_yes {z b:Int} {r:ByteArray} (h:rightB z b r=true):0<=z/\z<=1000/\1<=b/\b<=48/\r.size=32/\z<=b*64:=of_decide_eq_true h
theorem countN_yes {p k:Nat} {r:ByteArray} (h:rightB p k r=true):countN p k r=cnt p k/\cnt p k<=64:=by
 have h1:=rightB_yes h
 unfold countN
 rw[if_pos h]
 refine⟨rfl,(cnt_le (by omega)).2 (by omega)⟩
theorem countN_no {z b:Int} {r:ByteArray} (h:rightB z b r=false):countN z b r=0:=by
 unfold countN
 rw[h]
 rfl
theorem countN_le (z b:Int) (r:ByteArray):countN z b r<=64:=by
 cases h:rightB z b r with
 |false=>rw[countN_no h];omega
 |true =>
  have h1:=rightB_yes h
  obtain⟨p,rfl⟩:=Int.eq_ofNat_of_zero_le h1.1
  obtain⟨k,rfl⟩:=Int.eq_ofNat_of_zero_le (show 0<=b by omega)
  have:=countN_yes h
  omega
theorem right_impl (z b:Int) (r:ByteArray) (w:World) :
  Calls Tryz.prog 130 #[lV z b r] w fun e w'=>e=.returned (.bool (rightB z b r))/\Below w.heap.size w w':=by
 unfold lV
 by_cases h1:z<0
 ·have HF:Hid (rightB z b r=false):=by unfold Hid rightB;simp;omega
  rw[HF.out]
  go_enter Tryz.func130,Tryz.ntmps130
  go_wp2_with fail
  go_ret
  exact⟨rfl,(Below.refl _ _).alloc (Nat.le_refl _) _⟩
 ·by_cases h2:1000<z
  ·have HF:Hid (rightB z b r=false):=by unfold Hid rightB;simp;omega
   rw[HF.out]
   go_enter Tryz.func130,Tryz.ntmps130
   go_wp2_with fail
   go_ret
   exact⟨rfl,(Below.refl _ _).alloc (Nat.le_refl _) _⟩
  ·by_cases h3:b<1
   ·have HF:Hid (rightB z b r=false):=by unfold Hid rightB;simp;omega
    rw[HF.out]
    go_enter Tryz.func130,Tryz.ntmps130
    go_wp2_with fail
    go_ret
    exact⟨rfl,(Below.refl _ _).alloc (Nat.le_refl _) _⟩
   ·by_cases h4:48<b
    ·have HF:Hid (rightB z b r=false):=by unfold Hid rightB;simp;omega
     rw[HF.out]
     go_enter Tryz.func130,Tryz.ntmps130
     go_wp2_with fail
     go_ret
     exact⟨rfl,(Below.refl _ _).alloc (Nat.le_refl _) _⟩
    ·by_cases h5:r.size=32
     ·have HF:Hid (rightB z b r=decide (z<=b*64)):=by unfold Hid rightB;rw[decide_eq_decide];omega
      rw[HF.out]
      have h5':((r.size:Int)==32)=true:=by rw[h5];rfl
      have H5:=hideL h5
      clear h5
      have hw:IntKind.i64.wrap (b*64)=b*64:=by rw[IntKind.wrap_i64];omega
      go_enter Tryz.func130,Tryz.ntmps130
      go_wp2_with fail
      go_ret
      exact⟨rfl,(Below.refl _ _).alloc (Nat.le_refl _) _⟩
     ·have HF:Hid (rightB z b r=false):=by unfold Hid rightB;simp;omega
      rw[HF.out]
      have h5':((r.size:Int)==32)=false:=beq_eq_false_iff_ne.2 (by omega)
      go_enter Tryz.func130,Tryz.ntmps130
      go_wp2_with fail
      go_ret
      exact⟨rfl,(Below.refl _ _).alloc (Nat.le_refl _) _⟩
theorem right_spec (z b:Int) (r:ByteArray) (w:World) :
  Calls Tryz.prog 80 #[lV z b r] w fun e w'=>e=.returned (.bool (rightB z b r))/\Below w.heap.size w w':=by
 unfold lV
 have hbl:∀ o,Below w.heap.size w (w.alloc o):=fun o=>(Below.refl _ _).alloc (Nat.le_refl _) _
 by_cases h1:0<=z/\z<=1000
 ·have H1:=hideL (fun W=>is_yes z 0 1000 W h1.1 h1.2)
  obtain⟨p,rfl⟩:=Int.eq_ofNat_of_zero_le h1.1
  by_cases h2:1<=b/\b<=48
  ·have H2:=hideL (fun W=>is_yes b 1 48 W h2.1 h2.2)
   obtain⟨k,rfl⟩:=Int.eq_ofNat_of_zero_le (show 0<=b by omega)
   by_cases h5:r.size=32
   ·have h5':((r.size:Int)==32)=true:=by rw[h5];rfl
    have HC:=hideL (fun W=>count_any p k W (by omega) (by omega) (by omega))
    have HE:=hideL (cnt_le (p:=p) (k:=k) (by omega))
    have H12:=hideL (And.intro h1 h2)
    have H5:=hideL h5
    clear h1 h2 h5
    by_cases h6:cnt p k<=64
    ·have HF:Hid (rightB p k r=true):=by unfold Hid rightB;have:=HE.out.1 h6;have:=H12.out;have:=H5.out;simp;omega
     have h6':((cnt p k:Nat):Int)<=64:=by omega
     rw[HF.out]
     generalize cnt p k=c at HC h6'
     clear h6 HE HF H12 H5
     go_enter Tryz.func80,Tryz.ntmps80
     go_wp2_with fail
     refine(H1.out _).mono ?_
     rintro e w1 ⟨rfl,hw⟩
     subst w1
     go_wp2_with fail
     refine(H2.out _).mono ?_
     rintro e w1 ⟨rfl,hw⟩
     subst w1
     go_wp2_with fail
     refine(HC.out _).mono ?_
     rintro e w1 ⟨rfl,hw⟩
     subst w1
     go_wp2_with fail
     go_ret
     exact⟨rfl,hbl _⟩
    ·have HF:Hid (rightB p k r=false):=by unfold Hid rightB;have:=HE.out.2;have:=H12.out;have:=H5.out;simp;omega
     have h6':decide (((cnt p k:Nat):Int)<=64)=false:=by simp;omega
     rw[HF.out]
     generalize cnt p k=c at HC h6'
     clear h6 HE HF H12 H5
     go_enter Tryz.func80,Tryz.ntmps80
     go_wp2_with fail
     refine(H1.out _).mono ?_
     rintro e w1 ⟨rfl,hw⟩
     subst w1
     go_wp2_with fail
     refine(H2.out _).mono ?_
     rintro e w1 ⟨rfl,hw⟩
     subst w1
     go_wp2_with fail
     refine(HC.out _).mono ?_
     rintro e w1 ⟨rfl,hw⟩
     subst w1
     go_wp2_with fail
     go_ret
     exact⟨rfl,hbl _⟩
   ·have HF:Hid (rightB p k r=false):=by unfold Hid rightB;simp;omega
    rw[HF.out]
    have h5':((r.size:Int)==32)=false:=beq_eq_false_iff_ne.2 (by omega)
    clear HF
    go_enter Tryz.func80,Tryz.ntmps80
    go_wp2_with fail
    refine(H1.out _).mono ?_
    rintro e w1 ⟨rfl,hw⟩
    subst w1
    go_wp2_with fail
    refine(H2.out _).mono ?_
    rintro e w1 ⟨rfl,hw⟩
    subst w1
    go_wp2_with fail
    go_ret
    exact⟨rfl,hbl _⟩
  ·have H2:=hideL (fun W=>is_no b 1 48 W (by omega))
   have HF:Hid (rightB p b r=false):=by unfold Hid rightB;simp;omega
   rw[HF.out]
   clear HF h2
   go_enter Tryz.func80,Tryz.ntmps80
   go_wp2_with fail
   refine(H1.out _).mono ?_
   rintro e w1 ⟨rfl,hw⟩
   subst w1
   go_wp2_with fail
   refine(H2.out _).mono ?_
   rintro e w1 ⟨rfl,hw⟩
   subst w1
   go_wp2_with fail
   go_ret
   exact⟨rfl,hbl _⟩
 ·have H1:=hideL (fun W=>is_no z 0 1000 W (by omega))
  have HF:Hid (rightB z b r=false):=by unfold Hid rightB;simp;omega
  rw[HF.out]
  clear HF h1
  go_enter Tryz.func80,Tryz.ntmps80
  go_wp2_with fail
  refine(H1.out _).mono ?_
  rintro e w1 ⟨rfl,hw⟩
  subst w1
  go_wp2_with fail
  go_ret
  exact⟨rfl,hbl _⟩
theorem count_impl (z b:Int) (r:ByteArray) (w:World) :
  Calls Tryz.prog 95 #[lV z b r] w fun e w'=>e=.returned (.int .i64 (countN z b r:Nat))/\Below w.heap.size w w':=by
 have HR:=hideL (fun W=>right_impl z b r W)
 cases hc:rightB z b r with
 |false =>
  have HF:=hideL (countN_no hc)
  rw[hc]at HR
  rw[HF.out]
  clear HF hc
  unfold lV at HR ⊢
  go_enter Tryz.func95,Tryz.ntmps95
  go_wp2_with fail
  refine(HR.out _).mono ?_
  rintro e w1 ⟨rfl,hb1⟩
  have HB1:=hideL (((Below.refl w.heap.size w).alloc (Nat.le_refl _) _).trans (hb1.mono (by simp)))
  clear hb1
  go_wp2_with fail
  go_ret
  exact⟨rfl,HB1.out⟩
 |true =>
  have h1:=rightB_yes hc
  obtain⟨p,rfl⟩:=Int.eq_ofNat_of_zero_le h1.1
  obtain⟨k,rfl⟩:=Int.eq_ofNat_of_zero_le (show 0<=b by omega)
  obtain⟨HF,hcb⟩:=countN_yes hc
  have HF:=hideL HF
  rw[HF.out]
  have hq:((p:Int)+k-1).tdiv k=((cnt p k:Nat):Int):=by
   unfold cnt
   rw[Int.tdiv_eq_ediv_of_nonneg (by omega),Int.natCast_ediv]
   congr 1
   omega
  have hk0:((k:Int)==0)=false:=by simp;omega
  rw[hc]at HR
  clear HF hc
  generalize cnt p k=c at hq hcb ⊢
  obtain⟨v,hv⟩:∃ v,v=lV p k r:=⟨_,rfl⟩
  unfold lV at HR ⊢
  go_enter Tryz.func95,Tryz.ntmps95
  go_wp2_with fail
  have HX:Hid ((w.alloc (.cells #[.int .i64 p,.int .i64 k,.string r] 29)).heap[w.heap.size]? = some (.cells #[.int .i64 p,.int .i64 k,.string r] 29 (0,0))):=heap_alloc_new w _
  refine(HR.out _).mono ?_
  rintro e w1 ⟨rfl,hb1⟩
  have HB1:=hideL (((Below.refl w.heap.size w).alloc (Nat.le_refl _) _).trans (hb1.mono (by simp)))
  have HX1:=hideL ((hb1.block _ (by simp)).trans HX.out)
  clear hb1 HX
  have c0:w1.cell? ⟨w.heap.size,0,none⟩=some (.int .i64 p):=cell_of_row w1 _ 0 _ _ _ HX1.out
  have c1:w1.cell? ⟨w.heap.size,1,none⟩=some (.int .i64 k):=cell_of_row w1 _ 1 _ _ _ HX1.out
  go_wp2_with fail
  go_ret
  exact⟨rfl,HB1.out⟩
theorem count_spec (z b:Int) (r:ByteArray) (w:World) :
  Calls Tryz.prog 49 #[lV z b r] w fun e w'=>e=.returned (.int .i64 (countN z b r:Nat))/\Below w.heap.size w w':=by
 have HR:=hideL (fun W=>right_spec z b r W)
 cases hc:rightB z b r with
 |false =>
  have HF:=hideL (countN_no hc)
  rw[hc]at HR
  rw[HF.out]
  clear HF hc
  unfold lV at HR ⊢
  go_enter Tryz.func49,Tryz.ntmps49
  go_wp2_with fail
  refine(HR.out _).mono ?_
  rintro e w1 ⟨rfl,hb1⟩
  have HB1:=hideL (((Below.refl w.heap.size w).alloc (Nat.le_refl _) _).trans (hb1.mono (by simp)))
  clear hb1
  go_wp2_with fail
  go_ret
  exact⟨rfl,HB1.out⟩
 |true =>
  have h1:=rightB_yes hc
  obtain⟨p,rfl⟩:=Int.eq_ofNat_of_zero_le h1.1
  obtain⟨k,rfl⟩:=Int.eq_ofNat_of_zero_le (show 0<=b by omega)
  obtain⟨HF,hcb⟩:=countN_yes hc
  have HF:=hideL HF
  rw[HF.out]
  have HC:=hideL (fun W=>count_any p k W (by omega) (by omega) (by omega))
  rw[hc]at HR
  clear HF hc
  generalize cnt p k=c at hcb HC ⊢
  unfold lV at HR ⊢
  go_enter Tryz.func49,Tryz.ntmps49
  go_wp2_with fail
  have HX:Hid ((w.alloc (.cells #[.int .i64 p,.int .i64 k,.string r] 29)).heap[w.heap.size]? = some (.cells #[.int .i64 p,.int .i64 k,.string r] 29 (0,0))):=heap_alloc_new w _
  refine(HR.out _).mono ?_
  rintro e w1 ⟨rfl,hb1⟩
  have HB1:=hideL (((Below.refl w.heap.size w).alloc (Nat.le_refl _) _).trans (hb1.mono (by simp)))
  have HX1:=hideL ((hb1.block _ (by simp)).trans HX.out)
  clear hb1 HX
  have c0:w1.cell? ⟨w.heap.size,0,none⟩=some (.int .i64 p):=cell_of_row w1 _ 0 _ _ _ HX1.out
  have c1:w1.cell? ⟨w.heap.size,1,none⟩=some (.int .i64 k):=cell_of_row w1 _ 1 _ _ _ HX1.out
  go_wp2_with fail
  refine(HC.out _).mono ?_
  rintro e w2 ⟨rfl,hw⟩
  subst w2
  go_wp2_with fail
  go_ret
  exact⟨rfl,HB1.out⟩
end Go.Proofs.YtikiihjabbmkcaaGreatDoor.Ls


namespace Go.Proofs.YtikiihjabbmkcaaGreatDoor.Ls
open Go.RowKit
theorem sz_yes (z b:Int) (r:ByteArray) (w:World) (h:r.size<=1048576) :
  Calls Tryz.prog 40 #[lV z b r,.int .i64 1048576] w fun e w'=>e=.returned (.int .i64 (1048576-(r.size:Int)))/\Below w.heap.size w w':=by
 unfold lV
 have hwr:IntKind.i64.wrap (1048576-(r.size:Int))=1048576-(r.size:Int):=by rw[IntKind.wrap_i64];omega
 have h1:¬(1048576-(r.size:Int))<0:=by omega
 have h2:decide ((1048576-(r.size:Int))<0)=false:=by simp;omega
 go_enter Tryz.func40,Tryz.ntmps40
 go_wp2_with fail
 go_ret
 exact⟨rfl,(Below.refl _ _).alloc (Nat.le_refl _) _⟩
theorem sz_no (z b:Int) (r:ByteArray) (w:World) (hr:r.size<=9223372036854775807) (h:1048576<r.size) :
  Calls Tryz.prog 40 #[lV z b r,.int .i64 1048576] w fun e w'=>e=.returned (.int .i64 (-1))/\Below w.heap.size w w':=by
 unfold lV
 have hwr:IntKind.i64.wrap (1048576-(r.size:Int))=1048576-(r.size:Int):=by rw[IntKind.wrap_i64];omega
 have h1:(1048576-(r.size:Int))<0:=by omega
 go_enter Tryz.func40,Tryz.ntmps40
 go_wp2_with fail
 go_ret
 exact⟨rfl,(Below.refl _ _).alloc (Nat.le_refl _) _⟩
theorem to_any (z b:Int) (r:ByteArray) (w:World) :
  Calls Tryz.prog 44 #[lV z b r] w fun e w'=>e=.returned (lV z b r)/\Below w.heap.size w w':=by
 unfold lV
 go_enter Tryz.func44,Tryz.ntmps44
 go_wp2
 refine bodyPost_ret (v:=.agg #[.int .i64 z,.int .i64 b,.string r]) (by simp[results,Tryz.results44,go_sem]) rfl ⟨rfl,?_⟩
 exact(((Below.refl _ _).alloc (Nat.le_refl _) _).alloc (by simp) _).alloc (by simp;omega) _
theorem blkL {w w':World} {g:Nat} {x:Obj} (h:w.heap[g]? = some x) (hb:Below w.heap.size w w'):w'.heap[g]? = some x:=(hb.block g (Array.getElem?_eq_some_iff.1 h).1).trans h
theorem lowL {w0 w w':World} (h:Below w0.heap.size w0 w) (hb:Below w.heap.size w w'):Below w0.heap.size w0 w':=h.trans (hb.mono h.size)
theorem cells3 {W:World} {g:Nat} {x y z:Value} {t:TypeId} (h:W.heap[g]? = some (.cells #[x,y,z] t (0,0))):W.cell? ⟨g,0,none⟩=some x/\W.cell? ⟨g,1,none⟩=some y/\W.cell? ⟨g,2,none⟩=some z :=
 ⟨cell_of_row W g 0 _ _ _ h,cell_of_row W g 1 _ _ _ h,cell_of_row W g 2 _ _ _ h⟩
end Go.Proofs.YtikiihjabbmkcaaGreatDoor.Ls


namespace Go.Proofs.YtikiihjabbmkcaaGreatDoor.Ls
open Go.RowKit
def oV (z b:Int) (r:ByteArray) (c:Int):Value:=.agg #[.int .i64 z,.int .i64 b,.string r,.int .i64 c]
theorem blk_alloc {W:World} {g:Nat} {x:Obj} (h:W.heap[g]? = some x) (o:Obj):(W.alloc o).heap[g]? = some x:=blkL h ((Below.refl _ _).alloc (Nat.le_refl _) o)
theorem eqL_same (z b:Int) (r:ByteArray) (w:World) :
  Calls Tryz.prog 97 #[.agg #[.int .i64 z,.int .i64 b,.string r],.agg #[.int .i64 z,.int .i64 b,.string r]] w fun e w'=>e=.returned (.bool true)/\Below w.heap.size w w':=by
 have h1:(z != z)=false:=by simp
 have h2:(b != b)=false:=by simp
 go_enter Tryz.func97,Tryz.ntmps97
 go_wp2
 go_ret
 exact⟨rfl,((Below.refl _ _).alloc (Nat.le_refl _) _).alloc (by simp) _⟩
end Go.Proofs.YtikiihjabbmkcaaGreatDoor.Ls


/- What is kept: the blocks that a walk has laid; a Keep in memory. -/
namespace Go.Proofs.YtikiihjabbmkcaaGreatDoor.Kp
open Go.RowKit
open Ls (blkL lowL blk_alloc)
theorem hideK {p:Prop} (h:p):Hid p:=h
structure Cx (w0 W:World) (l:List (Nat × Obj)):Prop where
 low:Below w0.heap.size w0 W
 blk:∀ x∈l,W.heap[x.1]? = some x.2
theorem Cx.nil (w:World):Cx w w []:=⟨Below.refl _ _,fun _ h=>absurd h List.not_mem_nil⟩
theorem Cx.call {w0 W W':World} {l:List (Nat × Obj)} (h:Cx w0 W l) (hb:Below W.heap.size W W'):Cx w0 W' l:=⟨lowL h.low hb,fun x hx=>blkL (h.blk x hx) hb⟩
theorem Cx.new {w0 W:World} {l:List (Nat × Obj)} (h:Cx w0 W l) (o:Obj):Cx w0 (W.alloc o) ((W.heap.size,o) :: l) :=
 ⟨h.low.alloc h.low.size o,fun x hx=>by
  rcases List.mem_cons.1 hx with rfl|hx
  ·exact heap_alloc_new W o
  ·exact blk_alloc (h.blk x hx) o⟩
theorem Cx.drew {w0 W:World} {l:List (Nat × Obj)} (h:Cx w0 W l):Cx w0 W.drew l:=⟨h.low.drew,h.blk⟩
theorem Cx.get {w0 W:World} {l:List (Nat × Obj)} (h:Cx w0 W l) (i:Nat) {g:Nat} {o:Obj} (hx:l[i]? = some (g,o)):W.heap[g]? = some o:=h.blk (g,o) (List.mem_of_getElem? hx)
theorem set3_low {w0 W:World} {g:Nat} (h:Below w0.heap.size w0 W) (hg:w0.heap.size<=g) (a b c:Value):Below w0.heap.size w0 (((W.setCell ⟨g,0,none⟩ a).setCell ⟨g,1,none⟩ b).setCell ⟨g,2,none⟩ c) :=
 ((h.setCell (p:=⟨g,0,none⟩) hg a).setCell (p:=⟨g,1,none⟩) hg b).setCell (p:=⟨g,2,none⟩) hg c
theorem ty_ne {W:World} {g h:Nat} {cs ds:Array Value} {T U:TypeId} (hg:W.heap[g]? = some (.cells cs T (0,0))) (hh:W.heap[h]? = some (.cells ds U (0,0))) (hT:T≠U):¬g=h:=by
 rintro rfl
 rw[hg]at hh
 simp at hh
 exact hT hh.2
theorem lt_rowK {w:World} {g:Nat} {o:Obj} (h:w.heap[g]? = some o):g<w.heap.size:=(Array.getElem?_eq_some_iff.1 h).1
theorem Cx.grown {w W W':World} {l:List (Nat × Obj)} {row:Option Nat} (h:Cx w W l) (hg:W.grownBy W' row) (hr:∀ k,row=some k->w.heap.size<=k) (hne:∀ x∈l,row≠some x.1):Cx w W' l :=
 ⟨h.low.grown hg h.low.size hr,fun x hx=>(hg.block x.1 (lt_rowK (h.blk x hx)) (fun e=>hne x hx e.symm)).trans (h.blk x hx)⟩
theorem Cx.set {w W:World} {l:List (Nat × Obj)} {g:Nat} (h:Cx w W l) (hg:w.heap.size<=g) (hne:∀ x∈l,x.1≠g) (i:Nat) (v:Value):Cx w (W.setCell ⟨g,i,none⟩ v) l :=
 ⟨h.low.setCell (p:=⟨g,i,none⟩) hg v,fun x hx=>by rw[heap_setCell_other _ _ x.1 _ (by exact hne x hx)];exact h.blk x hx⟩
def kV (z b:Int) (r s:ByteArray) (y:Int):Value:=.agg #[.int .i64 z,.int .i64 b,.string r,.string s,.int .i64 y]
def kB (z b:Int) (r s:ByteArray) (y:Int):Obj:=.cells #[.int .i64 z,.int .i64 b,.string r,.string s,.int .i64 y] 31
theorem k_cells {W:World} {g:Nat} {z b:Int} {r s:ByteArray} {y:Int} (h:W.heap[g]? = some (kB z b r s y)):W.cell? ⟨g,0,none⟩=some (.int .i64 z)/\W.cell? ⟨g,1,none⟩=some (.int .i64 b)/\W.cell? ⟨g,2,none⟩=some (.string r)/\W.cell? ⟨g,3,none⟩=some (.string s)/\W.cell? ⟨g,4,none⟩=some (.int .i64 y) :=
 ⟨cell_of_row W g 0 _ _ _ h,cell_of_row W g 1 _ _ _ h,cell_of_row W g 2 _ _ _ h,cell_of_row W g 3 _ _ _ h,cell_of_row W g 4 _ _ _ h⟩
theorem set5 {W:World} {g:Nat} {x0 x1 x2 x3 x4:Value} {T:TypeId} (h:W.heap[g]? = some (.cells #[x0,x1,x2,x3,x4] T (0,0))) (a0 a1 a2 a3 a4:Value) :
  (((((W.setCell ⟨g,0,none⟩ a0).setCell ⟨g,1,none⟩ a1).setCell ⟨g,2,none⟩ a2).setCell ⟨g,3,none⟩ a3).setCell ⟨g,4,none⟩ a4).heap[g]? = some (.cells #[a0,a1,a2,a3,a4] T (0,0)):=by
 have h0:(W.setCell ⟨g,0,none⟩ a0).heap[g]? = some (.cells #[a0,x1,x2,x3,x4] T (0,0)):=by rw[heap_setCell_same W g 0 _ T a0 h];rfl
 have h1:=heap_setCell_same _ g 1 _ T a1 h0
 have h2:=heap_setCell_same _ g 2 _ T a2 h1
 have h3:=heap_setCell_same _ g 3 _ T a3 h2
 have h4:=heap_setCell_same _ g 4 _ T a4 h3
 exact h4
theorem set5_low {w0 W:World} {g:Nat} (h:Below w0.heap.size w0 W) (hg:w0.heap.size<=g) (a0 a1 a2 a3 a4:Value) :
  Below w0.heap.size w0 (((((W.setCell ⟨g,0,none⟩ a0).setCell ⟨g,1,none⟩ a1).setCell ⟨g,2,none⟩ a2).setCell ⟨g,3,none⟩ a3).setCell ⟨g,4,none⟩ a4) :=
 ((((h.setCell (p:=⟨g,0,none⟩) hg a0).setCell (p:=⟨g,1,none⟩) hg a1).setCell (p:=⟨g,2,none⟩) hg a2).setCell (p:=⟨g,3,none⟩) hg a3).setCell (p:=⟨g,4,none⟩) hg a4
theorem cells5 {W:World} {g:Nat} {x0 x1 x2 x3 x4:Value} {T:TypeId} (h:W.heap[g]? = some (.cells #[x0,x1,x2,x3,x4] T (0,0))):W.cell? ⟨g,0,none⟩=some x0/\W.cell? ⟨g,1,none⟩=some x1/\W.cell? ⟨g,2,none⟩=some x2/\W.cell? ⟨g,3,none⟩=some x3/\W.cell? ⟨g,4,none⟩=some x4 :=
 ⟨cell_of_row W g 0 _ _ _ h,cell_of_row W g 1 _ _ _ h,cell_of_row W g 2 _ _ _ h,cell_of_row W g 3 _ _ _ h,cell_of_row W g 4 _ _ _ h⟩
def Five (W:World) (g:Nat) (x0 x1 x2 x3 x4:Value):Prop :=
 (W.cell? ⟨g,0,none⟩=some x0/\W.cell? ⟨g,1,none⟩=some x1/\W.cell? ⟨g,2,none⟩=some x2/\W.cell? ⟨g,3,none⟩=some x3/\W.cell? ⟨g,4,none⟩=some x4)/\W.frozen? ⟨g,0,none⟩=false/\W.frozen? ⟨g,1,none⟩=false/\W.frozen? ⟨g,2,none⟩=false/\W.frozen? ⟨g,3,none⟩=false/\W.frozen? ⟨g,4,none⟩=false
def kZ:Obj:=.cells #[.int .i64 0,.int .i64 0,.string ⟨#[]⟩,.string ⟨#[]⟩,.int .i64 0] 31
theorem ans5 {w W:World} {g:Nat} {x0 x1 x2 x3 x4:Value} (h:W.heap[g]? = some (.cells #[x0,x1,x2,x3,x4] 31 (0,0))) (hl:Below w.heap.size w W) (hg:w.heap.size<=g) (a0 a1 a2 a3 a4:Value) :
  Below w.heap.size w (((((W.setCell ⟨g,0,none⟩ a0).setCell ⟨g,1,none⟩ a1).setCell ⟨g,2,none⟩ a2).setCell ⟨g,3,none⟩ a3).setCell ⟨g,4,none⟩ a4)/\(((((W.setCell ⟨g,0,none⟩ a0).setCell ⟨g,1,none⟩ a1).setCell ⟨g,2,none⟩ a2).setCell ⟨g,3,none⟩ a3).setCell ⟨g,4,none⟩ a4).heap[g]? = some (.cells #[a0,a1,a2,a3,a4] 31 (0,0)) :=
 ⟨set5_low hl hg _ _ _ _ _,set5 h _ _ _ _ _⟩
end Go.Proofs.YtikiihjabbmkcaaGreatDoor.Kp

