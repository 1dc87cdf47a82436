/- Texts put together: DrawBk2, LsOut, KpCx. -/
import Derived.Test.YtjfdllgodijibaaGreatDoorWz33
import Derived.Test.YtjfdllgodijibaaGreatDoorWz32
import Derived.BigQuiet
import Derived.Deep.QuietTactic
import Derived.Test.YtjfdllgodijibaaGreatDoorWz26
import Derived.Deep.Cut
import Derived.RegionTactic
import Derived.BigRegion
import Derived.Deep.RegionWith
set_option maxRecDepth 100000
set_option maxHeartbeats 8000000
namespace Go.Proofs.YtjfdllgodijibaaGreatDoor.Dr
open Go.RowKit
theorem src_drewN {W:World} {B:Nat} {a:Option Addr} {len cap:Nat} (h:Src W B a len cap) (n:Nat):Src (W.drewN n) B a len cap:=h.below (below_drewN (Below.refl _ _) n)
theorem aft_drewN {B:Nat} {w W:World} (h:Aft B w W) (n:Nat):Aft B w (W.drewN n):=h.trans (aft_below (below_drewN (Below.refl _ _) n))
theorem spoil_any (B:Nat) (a:Option Addr) (len cap:Nat) (t:ByteArray) (w:World) (hl:len<=1048576) (ht:t.size<=1048576) (hs:Src w B a len cap) :
  Calls Tryz.prog 33 #[.pointer (some ⟨B,0,none⟩),.string t] w fun e w'=>∃ r:ByteArray,r.size<=t.size+1/\e=.returned (.string r)/\Src w' B a len cap/\Aft B w w':=by
 have HS:=hideD hs
 clear hs
 have hwr:IntKind.i64.wrap ((t.size:Int)+1)=(t.size:Int)+1:=by rw[IntKind.wrap_i64];omega
 go_enter Tryz.func33,Tryz.ntmps33
 go_wp2_with fail
 refine(n_any B a len cap ((t.size:Int)+1) _ hl (by omega) HS.out).mono ?_
 rintro e w1 ⟨r,rfl,p0,p1,hs1,ho1⟩
 obtain⟨k,rfl⟩:=Int.eq_ofNat_of_zero_le p0
 have hk:k<=t.size:=by omega
 have HS1:=hideD hs1
 have HA1:=hideD ho1.aft
 clear hs1 ho1 p0 p1 HS
 go_wp2_with fail
 refine(n_any B a len cap 17 _ hl (by omega) HS1.out).mono ?_
 rintro e w2 ⟨r2,rfl,p0,p1,hs2,ho2⟩
 obtain⟨j,rfl⟩:=Int.eq_ofNat_of_zero_le p0
 have hj:j<17:=by omega
 have hji:(j:Int)<17:=by omega
 have HS2:=hideD hs2
 have HA2:=hideD (HA1.out.trans ho2.aft)
 clear hs2 ho2 p0 p1 HS1 HA1
 have hcv:=St.one_str w2 ((⟨#[32,10,48,97,45,110,44,58,93,255,40,120,126,49,128,225,59]⟩:ByteArray)[j]'(by show j<17;exact hj)).toNat (UInt8.toNat_lt _)
 have hz2:w2.heap.size<(w2.alloc (.cells #[.int .u8 (((⟨#[32,10,48,97,45,110,44,58,93,255,40,120,126,49,128,225,59]⟩:ByteArray)[j]'(by show j<17;exact hj)).toNat:Int)] 5)).heap.size:=by simp
 have HS3:=hideD (src_alloc HS2.out (.cells #[.int .u8 (((⟨#[32,10,48,97,45,110,44,58,93,255,40,120,126,49,128,225,59]⟩:ByteArray)[j]'(by show j<17;exact hj)).toNat:Int)] 5))
 have HA3:=hideD (aft_alloc6 HA2.out (.cells #[.int .u8 (((⟨#[32,10,48,97,45,110,44,58,93,255,40,120,126,49,128,225,59]⟩:ByteArray)[j]'(by show j<17;exact hj)).toNat:Int)] 5))
 clear HS2 HA2 hz2
 go_upto_region 3 with fail
 generalize hww:w2.alloc (.cells #[.int .u8 (((⟨#[32,10,48,97,45,110,44,58,93,255,40,120,126,49,128,225,59]⟩:ByteArray)[j]'(by show j<17;exact hj)).toNat:Int)] 5)=w3 at HS3 HA3 ⊢
 generalize hcc:(⟨#[(⟨#[32,10,48,97,45,110,44,58,93,255,40,120,126,49,128,225,59]⟩:ByteArray)[j]'(by show j<17;exact hj)]⟩:ByteArray)=c
 have hcs:c.size=1:=by rw[<-hcc];rfl
 clear hww hcc hcv
 have HCS:=hideD hcs
 have s1:(t.extract 0 k).size=k:=by rw[ByteArray.size_extract];omega
 have s2:(t.extract k t.size).size=t.size-k:=by rw[ByteArray.size_extract];omega
 have s3:(t.extract (k+1) t.size).size=t.size-(k+1):=by rw[ByteArray.size_extract];omega
 have HZ4:Hid ((t.extract 0 k++c++t.extract k t.size).size<=t.size+1):=by unfold Hid;rw[ByteArray.size_append,ByteArray.size_append,s1,s2,hcs];omega
 have HZ6:Hid ((t.extract 0 k++t.extract (k+1) t.size).size<=t.size+1):=by unfold Hid;rw[ByteArray.size_append,s1,s3];omega
 have HZ7:Hid ((t.extract 0 k++c++t.extract (k+1) t.size).size<=t.size+1):=by unfold Hid;rw[ByteArray.size_append,ByteArray.size_append,s1,s3,hcs];omega
 have hki:(k:Int)<=(t.size:Int):=by omega
 have m1:¬9223372036854775807<k+c.size:=by omega
 have m2:¬9223372036854775807<k+c.size+(t.size-k):=by omega
 have m3:¬9223372036854775807<k+(t.size-(k+1)):=by omega
 have m4:¬9223372036854775807<k+c.size+(t.size-(k+1)):=by omega
 clear hcs
 by_cases hke:k=t.size
 ·have hkb:((k:Int)==(t.size:Int))=true:=by simp;omega
  have HKE:=hideD hke
  clear hke
  go_wp2_with fail
  go_quiet (fail)
  go_wp2_with fail
  go_ret
  exact⟨_,HZ4.out,rfl,src_drewN HS3.out _,aft_drewN HA3.out _⟩
 ·have hkb:((k:Int)==(t.size:Int))=false:=by simp;omega
  have hk1:(k:Int)+1<=(t.size:Int):=by omega
  have hw1:IntKind.i64.wrap ((k:Int)+1)=(k:Int)+1:=by rw[IntKind.wrap_i64];omega
  go_wp2_with fail
  refine(one_any B a len cap 3 _ hl (by omega) HS3.out).mono ?_
  rintro e w4 ⟨r4,rfl,hs4,ho4⟩
  have HS4:=hideD hs4
  have HA4:=hideD (HA3.out.trans ho4.aft)
  clear hs4 ho4 HS3 HA3
  cases r4 with
  |true =>
   go_wp2_with fail
   go_quiet (fail)
   go_wp2_with fail
   go_ret
   exact⟨_,HZ4.out,rfl,src_drewN HS4.out _,aft_drewN HA4.out _⟩
  |false =>
   go_wp2_with fail
   refine(one_any B a len cap 2 _ hl (by omega) HS4.out).mono ?_
   rintro e w5 ⟨r5,rfl,hs5,ho5⟩
   have HS5:=hideD hs5
   have HA5:=hideD (HA4.out.trans ho5.aft)
   clear hs5 ho5 HS4 HA4
   cases r5 with
   |true =>
    go_wp2_with fail
    go_quiet (fail)
    go_wp2_with fail
    go_ret
    exact⟨_,HZ6.out,rfl,src_drewN HS5.out _,aft_drewN HA5.out _⟩
   |false =>
    go_wp2_with fail
    go_quiet (fail)
    go_wp2_with fail
    go_ret
    exact⟨_,HZ7.out,rfl,src_drewN HS5.out _,aft_drewN HA5.out _⟩
end Go.Proofs.YtjfdllgodijibaaGreatDoor.Dr


/- A block of four cells that an answer is written into. -/
namespace Go.Proofs.YtjfdllgodijibaaGreatDoor.Ls
open Go.RowKit
def oV (z b:Int) (r:ByteArray) (c:Int):Value:=.agg #[.int .i64 z,.int .i64 b,.string r,.int .i64 c]
theorem cells4 {W:World} {g:Nat} {x y z u:Value} {t:TypeId} (h:W.heap[g]? = some (.cells #[x,y,z,u] t (0,0))):W.cell? ⟨g,0,none⟩=some x/\W.cell? ⟨g,1,none⟩=some y/\W.cell? ⟨g,2,none⟩=some z/\W.cell? ⟨g,3,none⟩=some u :=
 ⟨cell_of_row W g 0 _ _ _ h,cell_of_row W g 1 _ _ _ h,cell_of_row W g 2 _ _ _ h,cell_of_row W g 3 _ _ _ h⟩
theorem set_k4 {W:World} {g:Nat} {x y z u:Value} {T:TypeId} (h:W.heap[g]? = some (.cells #[x,y,z,u] T (0,0))) (v:Value):(W.setCell ⟨g,0,none⟩ v).heap[g]? = some (.cells #[v,y,z,u] T (0,0))/\(W.setCell ⟨g,1,none⟩ v).heap[g]? = some (.cells #[x,v,z,u] T (0,0))/\(W.setCell ⟨g,2,none⟩ v).heap[g]? = some (.cells #[x,y,v,u] T (0,0))/\(W.setCell ⟨g,3,none⟩ v).heap[g]? = some (.cells #[x,y,z,v] T (0,0)):=by
 refine⟨?_,?_,?_,?_⟩
 ·rw[heap_setCell_same W g 0 _ T v h];rfl
 ·rw[heap_setCell_same W g 1 _ T v h];rfl
 ·rw[heap_setCell_same W g 2 _ T v h];rfl
 ·rw[heap_setCell_same W g 3 _ T v h];rfl
theorem set4_cells {W:World} {g:Nat} {x y z u:Value} {T:TypeId} (h:W.heap[g]? = some (.cells #[x,y,z,u] T (0,0))) (a b c d:Value) :
  ((((W.setCell ⟨g,0,none⟩ a).setCell ⟨g,1,none⟩ b).setCell ⟨g,2,none⟩ c).setCell ⟨g,3,none⟩ d).cell? ⟨g,0,none⟩=some a/\((((W.setCell ⟨g,0,none⟩ a).setCell ⟨g,1,none⟩ b).setCell ⟨g,2,none⟩ c).setCell ⟨g,3,none⟩ d).cell? ⟨g,1,none⟩=some b/\((((W.setCell ⟨g,0,none⟩ a).setCell ⟨g,1,none⟩ b).setCell ⟨g,2,none⟩ c).setCell ⟨g,3,none⟩ d).cell? ⟨g,2,none⟩=some c/\((((W.setCell ⟨g,0,none⟩ a).setCell ⟨g,1,none⟩ b).setCell ⟨g,2,none⟩ c).setCell ⟨g,3,none⟩ d).cell? ⟨g,3,none⟩=some d :=
 cells4 (set_k4 (set_k4 (set_k4 (set_k4 h a).1 b).2.1 c).2.2.1 d).2.2.2
theorem set4_low {B:Nat} {w W:World} (h:Below B w W) (a b c d:Value):Below B w ((((W.setCell ⟨B,0,none⟩ a).setCell ⟨B,1,none⟩ b).setCell ⟨B,2,none⟩ c).setCell ⟨B,3,none⟩ d):=(((h.setCell (p:=⟨B,0,none⟩) (Nat.le_refl _) a).setCell (p:=⟨B,1,none⟩) (Nat.le_refl _) b).setCell (p:=⟨B,2,none⟩) (Nat.le_refl _) c).setCell (p:=⟨B,3,none⟩) (Nat.le_refl _) d
theorem lowB {B:Nat} {w0 w w':World} (hB:w0.heap.size=B) (h:Below B w0 w) (hb:Below w.heap.size w w'):Below B w0 w':=h.trans (hb.mono (by rw[<-hB];exact h.size))
theorem blk_alloc {W:World} {g:Nat} {x:Obj} (h:W.heap[g]? = some x) (o:Obj):(W.alloc o).heap[g]? = some x:=blkL h ((Below.refl _ _).alloc (Nat.le_refl _) o)
end Go.Proofs.YtjfdllgodijibaaGreatDoor.Ls


/- What is kept: the blocks that a walk has laid; a Keep in memory. -/
namespace Go.Proofs.YtjfdllgodijibaaGreatDoor.Kp
open Go.RowKit
open Ls (blkL lowL blk_alloc)
theorem hideK {p:Prop} (h:p):Hid p:=h
structure Cx (w0 W:World) (l:List (Nat × Obj)):Prop where
 low:Below w0.heap.size w0 W
 blk:∀ x∈l,W.heap[x.1]? = some x.2
theorem Cx.nil (w:World):Cx w w []:=⟨Below.refl _ _,fun _ h=>absurd h List.not_mem_nil⟩
theorem Cx.call {w0 W W':World} {l:List (Nat × Obj)} (h:Cx w0 W l) (hb:Below W.heap.size W W'):Cx w0 W' l:=⟨lowL h.low hb,fun x hx=>blkL (h.blk x hx) hb⟩
theorem Cx.new {w0 W:World} {l:List (Nat × Obj)} (h:Cx w0 W l) (o:Obj):Cx w0 (W.alloc o) ((W.heap.size,o) :: l) :=
 ⟨h.low.alloc h.low.size o,fun x hx=>by
  rcases List.mem_cons.1 hx with rfl|hx
  ·exact heap_alloc_new W o
  ·exact blk_alloc (h.blk x hx) o⟩
theorem Cx.drew {w0 W:World} {l:List (Nat × Obj)} (h:Cx w0 W l):Cx w0 W.drew l:=⟨h.low.drew,h.blk⟩
theorem Cx.get {w0 W:World} {l:List (Nat × Obj)} (h:Cx w0 W l) (i:Nat) {g:Nat} {o:Obj} (hx:l[i]? = some (g,o)):W.heap[g]? = some o:=h.blk (g,o) (List.mem_of_getElem? hx)
theorem lt_rowK {w:World} {g:Nat} {o:Obj} (h:w.heap[g]? = some o):g<w.heap.size:=(Array.getElem?_eq_some_iff.1 h).1
theorem Cx.grown {w W W':World} {l:List (Nat × Obj)} {row:Option Nat} (h:Cx w W l) (hg:W.grownBy W' row) (hr:∀ k,row=some k->w.heap.size<=k) (hne:∀ x∈l,row≠some x.1):Cx w W' l :=
 ⟨h.low.grown hg h.low.size hr,fun x hx=>(hg.block x.1 (lt_rowK (h.blk x hx)) (fun e=>hne x hx e.symm)).trans (h.blk x hx)⟩
theorem Cx.set {w W:World} {l:List (Nat × Obj)} {g:Nat} (h:Cx w W l) (hg:w.heap.size<=g) (hne:∀ x∈l,x.1≠g) (i:Nat) (v:Value):Cx w (W.setCell ⟨g,i,none⟩ v) l :=
 ⟨h.low.setCell (p:=⟨g,i,none⟩) hg v,fun x hx=>by rw[heap_setCell_other _ _ x.1 _ (by exact hne x hx)];exact h.blk x hx⟩
def kV (z b:Int) (r s:ByteArray) (y:Int):Value:=.agg #[.int .i64 z,.int .i64 b,.string r,.string s,.int .i64 y]
def Five (W:World) (g:Nat) (x0 x1 x2 x3 x4:Value):Prop :=
 (W.cell? ⟨g,0,none⟩=some x0/\W.cell? ⟨g,1,none⟩=some x1/\W.cell? ⟨g,2,none⟩=some x2/\W.cell? ⟨g,3,none⟩=some x3/\W.cell? ⟨g,4,none⟩=some x4)/\W.frozen? ⟨g,0,none⟩=false/\W.frozen? ⟨g,1,none⟩=false/\W.frozen? ⟨g,2,none⟩=false/\W.frozen? ⟨g,3,none⟩=false/\W.frozen? ⟨g,4,none⟩=false
end Go.Proofs.YtjfdllgodijibaaGreatDoor.Kp

