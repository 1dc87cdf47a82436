/- Texts put together: ShaPad, ShaSum, KpCx, KpArg, PkCat, LsBytes, LsBytes2, PePlain, PeRow, UnsealWalks. -/
import Derived.Test.YtpddanmnlkcdpaaGreatDoorHz8
import Derived.Test.YtpddanmnlkcdpaaGreatDoorHz0
import Derived.Test.YtpddanmnlkcdpaaGreatDoorHz18
import Derived.Deep.Cut
import Derived.RegionTactic
import Derived.BigRegion
import Derived.Deep.RegionWith
import Derived.Test.YtpddanmnlkcdpaaGreatDoorHz19
import Derived.Test.YtpddanmnlkcdpaaGreatDoorHz20
import Derived.Test.YtpddanmnlkcdpaaGreatDoorHz13
import Derived.Lib.QuietBelow
import Derived.Deep.RegionHeld3
import Derived.Deep.CutRange
import Derived.Test.YtpddanmnlkcdpaaGreatDoorHz28
import Derived.Laws.Cover1
import Derived.Test.YtpddanmnlkcdpaaGreatDoorHz29
import Derived.Test.YtpddanmnlkcdpaaGreatDoorHz10
set_option maxRecDepth 100000
set_option maxHeartbeats 8000000
/- Plain mathematics of SHA-256: a text filled up to whole blocks. -/
namespace Go.Proofs.YtpddanmnlkcdpaaGreatDoor.Sh
def chunks (m:Nat):Nat:=(m+72)/64
def padK (t:ByteArray) (k j:Nat):Nat :=
 if j<t.size then bt t j else if j=t.size then 128 else if chunks t.size*64<=j+k then t.size*8/2 ^ (8*(chunks t.size*64-1-j))%256 else 0
def pad (t:ByteArray) (j:Nat):Nat:=padK t 8 j
theorem padK_lt (t:ByteArray) (k j:Nat):padK t k j<256:=by
 unfold padK
 have:=bt_lt t j
 split
 ·exact this
 ·split
  ·decide
  ·split
   ·exact Nat.mod_lt _ (by decide)
   ·decide
theorem pad_lt (t:ByteArray) (j:Nat):pad t j<256:=padK_lt t 8 j
theorem chunks_room (m:Nat):m+9<=chunks m*64:=by unfold chunks;omega
theorem chunks_tight (m:Nat):chunks m*64<=m+72:=by unfold chunks;omega
theorem pad_start (t:ByteArray) (j:Nat):j<chunks t.size*64->upd (fun j=>if j<t.size then ((bt t j:Nat):Int) else 0) t.size 128 j=((padK t 0 j:Nat):Int):=by
 intro hj
 unfold upd padK
 by_cases e:j=t.size
 ·subst e;simp
 ·by_cases h:j<t.size
  ·simp[e,h]
  ·have:¬chunks t.size*64<=j:=by omega
   simp[e,h,this]
theorem pad_next (t:ByteArray) (k:Nat) (hk:k<8) (v:Int) (hv:v=((t.size*8/2 ^ (8*k)%256:Nat):Int)) (j:Nat) (hj:j<chunks t.size*64) :
  upd (fun j=>((padK t k j:Nat):Int)) (chunks t.size*64-1-k) v j=((padK t (k+1) j:Nat):Int):=by
 subst hv
 have hr:=chunks_room t.size
 unfold upd padK
 by_cases e:j=chunks t.size*64-1-k
 ·have h1:¬j<t.size:=by omega
  have h2:¬j=t.size:=by omega
  have h3:chunks t.size*64<=j+(k+1):=by omega
  have h4:chunks t.size*64-1-j=k:=by omega
  rw[if_pos e,if_neg h1,if_neg h2,if_pos h3,h4]
 ·rw[if_neg e]
  have:(chunks t.size*64<=j+(k+1))=(chunks t.size*64<=j+k):=propext ⟨fun h=>by omega,fun h=>by omega⟩
  simp only[this]
end Go.Proofs.YtpddanmnlkcdpaaGreatDoor.Sh


/- Plain mathematics of SHA-256: the digest of a text. -/
namespace Go.Proofs.YtpddanmnlkcdpaaGreatDoor.Sh
def blkB (t:ByteArray) (k j:Nat):Nat:=pad t (64*k+j)
theorem blkB_lt (t:ByteArray) (k j:Nat):blkB t k j<256:=pad_lt t _
def shaS (t:ByteArray):Nat->Nat->Int
 |0=>firstF
 |k+1=>blk (blkB t k) (shaS t k)
def outF (s:Nat->Int) (j:Nat):Nat:=(s (j/4)/2 ^ (24-8*(j%4))%256).toNat
theorem outF_lt (s:Nat->Int) (j:Nat):outF s j<256:=by unfold outF;omega
def sha (t:ByteArray):ByteArray:=strF 32 (outF (shaS t (chunks t.size)))
theorem sha_size (t:ByteArray):(sha t).size=32:=strF_size 32 _
def outK (s:Nat->Int) (m j:Nat):Nat:=if j<m then outF s j else 0
theorem outK_next (s:Nat->Int) (m j:Nat) (v:Int) (hv:v=((outF s m:Nat):Int)):upd (fun j=>((outK s m j:Nat):Int)) m v j=((outK s (m+1) j:Nat):Int):=by
 subst hv
 unfold upd outK
 by_cases e:j=m
 ·subst e;simp
 ·have:(j<m+1)=(j<m):=propext ⟨fun h=>by omega,fun h=>by omega⟩
  simp[e,this]
theorem outK_all (s:Nat->Int):strF 32 (outK s 32)=strF 32 (outF s):=strF_congr 32 _ _ (fun j hj=>by simp[outK,hj])
theorem outK_lt (s:Nat->Int) (m j:Nat):outK s m j<256:=by
 unfold outK
 split
 ·exact outF_lt s j
 ·decide
theorem outF_cast (s:Nat->Int) (m:Nat):s (m/4)/2 ^ (24-8*(m%4))%256=((outF s m:Nat):Int):=by
 unfold outF
 rw[Int.toNat_of_nonneg]
 omega
end Go.Proofs.YtpddanmnlkcdpaaGreatDoor.Sh


/- What is kept: the blocks that a walk has laid; a Keep in memory. -/
namespace Go.Proofs.YtpddanmnlkcdpaaGreatDoor.Kp
open Go.RowKit
open Ls (blkL lowL blk_alloc)
theorem hideK {p:Prop} (h:p):Hid p:=h
structure Cx (w0 W:World) (l:List (Nat × Obj)):Prop where
 low:Below w0.heap.size w0 W
 blk:∀ x∈l,W.heap[x.1]? = some x.2
theorem Cx.nil (w:World):Cx w w []:=⟨Below.refl _ _,fun _ h=>absurd h List.not_mem_nil⟩
theorem Cx.call {w0 W W':World} {l:List (Nat × Obj)} (h:Cx w0 W l) (hb:Below W.heap.size W W'):Cx w0 W' l:=⟨lowL h.low hb,fun x hx=>blkL (h.blk x hx) hb⟩
theorem Cx.new {w0 W:World} {l:List (Nat × Obj)} (h:Cx w0 W l) (o:Obj):Cx w0 (W.alloc o) ((W.heap.size,o) :: l) :=
 ⟨h.low.alloc h.low.size o,fun x hx=>by
  rcases List.mem_cons.1 hx with rfl|hx
  ·exact heap_alloc_new W o
  ·exact blk_alloc (h.blk x hx) o⟩
theorem Cx.drew {w0 W:World} {l:List (Nat × Obj)} (h:Cx w0 W l):Cx w0 W.drew l:=⟨h.low.drew,h.blk⟩
theorem Cx.get {w0 W:World} {l:List (Nat × Obj)} (h:Cx w0 W l) (i:Nat) {g:Nat} {o:Obj} (hx:l[i]? = some (g,o)):W.heap[g]? = some o:=h.blk (g,o) (List.mem_of_getElem? hx)
theorem set3_low {w0 W:World} {g:Nat} (h:Below w0.heap.size w0 W) (hg:w0.heap.size<=g) (a b c:Value):Below w0.heap.size w0 (((W.setCell ⟨g,0,none⟩ a).setCell ⟨g,1,none⟩ b).setCell ⟨g,2,none⟩ c) :=
 ((h.setCell (p:=⟨g,0,none⟩) hg a).setCell (p:=⟨g,1,none⟩) hg b).setCell (p:=⟨g,2,none⟩) hg c
theorem ty_ne {W:World} {g h:Nat} {cs ds:Array Value} {T U:TypeId} (hg:W.heap[g]? = some (.cells cs T (0,0))) (hh:W.heap[h]? = some (.cells ds U (0,0))) (hT:T≠U):¬g=h:=by
 rintro rfl
 rw[hg]at hh
 simp at hh
 exact hT hh.2
theorem lt_rowK {w:World} {g:Nat} {o:Obj} (h:w.heap[g]? = some o):g<w.heap.size:=(Array.getElem?_eq_some_iff.1 h).1
theorem Cx.grown {w W W':World} {l:List (Nat × Obj)} {row:Option Nat} (h:Cx w W l) (hg:W.grownBy W' row) (hr:∀ k,row=some k->w.heap.size<=k) (hne:∀ x∈l,row≠some x.1):Cx w W' l :=
 ⟨h.low.grown hg h.low.size hr,fun x hx=>(hg.block x.1 (lt_rowK (h.blk x hx)) (fun e=>hne x hx e.symm)).trans (h.blk x hx)⟩
theorem Cx.set {w W:World} {l:List (Nat × Obj)} {g:Nat} (h:Cx w W l) (hg:w.heap.size<=g) (hne:∀ x∈l,x.1≠g) (i:Nat) (v:Value):Cx w (W.setCell ⟨g,i,none⟩ v) l :=
 ⟨h.low.setCell (p:=⟨g,i,none⟩) hg v,fun x hx=>by rw[heap_setCell_other _ _ x.1 _ (by exact hne x hx)];exact h.blk x hx⟩
def kV (z b:Int) (r s:ByteArray) (y:Int):Value:=.agg #[.int .i64 z,.int .i64 b,.string r,.string s,.int .i64 y]
def kB (z b:Int) (r s:ByteArray) (y:Int):Obj:=.cells #[.int .i64 z,.int .i64 b,.string r,.string s,.int .i64 y] 32
theorem k_cells {W:World} {g:Nat} {z b:Int} {r s:ByteArray} {y:Int} (h:W.heap[g]? = some (kB z b r s y)):W.cell? ⟨g,0,none⟩=some (.int .i64 z)/\W.cell? ⟨g,1,none⟩=some (.int .i64 b)/\W.cell? ⟨g,2,none⟩=some (.string r)/\W.cell? ⟨g,3,none⟩=some (.string s)/\W.cell? ⟨g,4,none⟩=some (.int .i64 y) :=
 ⟨cell_of_row W g 0 _ _ _ h,cell_of_row W g 1 _ _ _ h,cell_of_row W g 2 _ _ _ h,cell_of_row W g 3 _ _ _ h,cell_of_row W g 4 _ _ _ h⟩
theorem set5 {W:World} {g:Nat} {x0 x1 x2 x3 x4:Value} {T:TypeId} (h:W.heap[g]? = some (.cells #[x0,x1,x2,x3,x4] T (0,0))) (a0 a1 a2 a3 a4:Value) :
  (((((W.setCell ⟨g,0,none⟩ a0).setCell ⟨g,1,none⟩ a1).setCell ⟨g,2,none⟩ a2).setCell ⟨g,3,none⟩ a3).setCell ⟨g,4,none⟩ a4).heap[g]? = some (.cells #[a0,a1,a2,a3,a4] T (0,0)):=by
 have h0:(W.setCell ⟨g,0,none⟩ a0).heap[g]? = some (.cells #[a0,x1,x2,x3,x4] T (0,0)):=by rw[heap_setCell_same W g 0 _ T a0 h];rfl
 have h1:=heap_setCell_same _ g 1 _ T a1 h0
 have h2:=heap_setCell_same _ g 2 _ T a2 h1
 have h3:=heap_setCell_same _ g 3 _ T a3 h2
 have h4:=heap_setCell_same _ g 4 _ T a4 h3
 exact h4
theorem set5_low {w0 W:World} {g:Nat} (h:Below w0.heap.size w0 W) (hg:w0.heap.size<=g) (a0 a1 a2 a3 a4:Value) :
  Below w0.heap.size w0 (((((W.setCell ⟨g,0,none⟩ a0).setCell ⟨g,1,none⟩ a1).setCell ⟨g,2,none⟩ a2).setCell ⟨g,3,none⟩ a3).setCell ⟨g,4,none⟩ a4) :=
 ((((h.setCell (p:=⟨g,0,none⟩) hg a0).setCell (p:=⟨g,1,none⟩) hg a1).setCell (p:=⟨g,2,none⟩) hg a2).setCell (p:=⟨g,3,none⟩) hg a3).setCell (p:=⟨g,4,none⟩) hg a4
theorem cells5 {W:World} {g:Nat} {x0 x1 x2 x3 x4:Value} {T:TypeId} (h:W.heap[g]? = some (.cells #[x0,x1,x2,x3,x4] T (0,0))):W.cell? ⟨g,0,none⟩=some x0/\W.cell? ⟨g,1,none⟩=some x1/\W.cell? ⟨g,2,none⟩=some x2/\W.cell? ⟨g,3,none⟩=some x3/\W.cell? ⟨g,4,none⟩=some x4 :=
 ⟨cell_of_row W g 0 _ _ _ h,cell_of_row W g 1 _ _ _ h,cell_of_row W g 2 _ _ _ h,cell_of_row W g 3 _ _ _ h,cell_of_row W g 4 _ _ _ h⟩
def Five (W:World) (g:Nat) (x0 x1 x2 x3 x4:Value):Prop :=
 (W.cell? ⟨g,0,none⟩=some x0/\W.cell? ⟨g,1,none⟩=some x1/\W.cell? ⟨g,2,none⟩=some x2/\W.cell? ⟨g,3,none⟩=some x3/\W.cell? ⟨g,4,none⟩=some x4)/\W.frozen? ⟨g,0,none⟩=false/\W.frozen? ⟨g,1,none⟩=false/\W.frozen? ⟨g,2,none⟩=false/\W.frozen? ⟨g,3,none⟩=false/\W.frozen? ⟨g,4,none⟩=false
theorem five_of {W:World} {g:Nat} {x0 x1 x2 x3 x4:Value} {T:TypeId} (h:W.heap[g]? = some (.cells #[x0,x1,x2,x3,x4] T (0,0))):Five W g x0 x1 x2 x3 x4 :=
 ⟨cells5 h,frozen_of_row W g 0 _ _ h,frozen_of_row W g 1 _ _ h,frozen_of_row W g 2 _ _ h,frozen_of_row W g 3 _ _ h,frozen_of_row W g 4 _ _ h⟩
def kZ:Obj:=.cells #[.int .i64 0,.int .i64 0,.string ⟨#[]⟩,.string ⟨#[]⟩,.int .i64 0] 32
theorem ans5 {w W:World} {g:Nat} {x0 x1 x2 x3 x4:Value} (h:W.heap[g]? = some (.cells #[x0,x1,x2,x3,x4] 32 (0,0))) (hl:Below w.heap.size w W) (hg:w.heap.size<=g) (a0 a1 a2 a3 a4:Value) :
  Below w.heap.size w (((((W.setCell ⟨g,0,none⟩ a0).setCell ⟨g,1,none⟩ a1).setCell ⟨g,2,none⟩ a2).setCell ⟨g,3,none⟩ a3).setCell ⟨g,4,none⟩ a4)/\(((((W.setCell ⟨g,0,none⟩ a0).setCell ⟨g,1,none⟩ a1).setCell ⟨g,2,none⟩ a2).setCell ⟨g,3,none⟩ a3).setCell ⟨g,4,none⟩ a4).heap[g]? = some (.cells #[a0,a1,a2,a3,a4] 32 (0,0)) :=
 ⟨set5_low hl hg _ _ _ _ _,set5 h _ _ _ _ _⟩
end Go.Proofs.YtpddanmnlkcdpaaGreatDoor.Kp


namespace Go.Proofs.YtpddanmnlkcdpaaGreatDoor.Kp
open Go.RowKit
open Ls (lV sz_yes sz_no to_any eqL_same cells3)
def lkB (z b:Int) (r s:ByteArray) (y:Int):Obj:=.cells #[.int .i64 z,.int .i64 b,.string r,.string s,.int .i64 y] 25
theorem lk_cells {W:World} {g:Nat} {z b:Int} {r s:ByteArray} {y:Int} (h:W.heap[g]? = some (lkB z b r s y)):W.cell? ⟨g,0,none⟩=some (.int .i64 z)/\W.cell? ⟨g,1,none⟩=some (.int .i64 b)/\W.cell? ⟨g,2,none⟩=some (.string r)/\W.cell? ⟨g,3,none⟩=some (.string s)/\W.cell? ⟨g,4,none⟩=some (.int .i64 y) :=
 ⟨cell_of_row W g 0 _ _ _ h,cell_of_row W g 1 _ _ _ h,cell_of_row W g 2 _ _ _ h,cell_of_row W g 3 _ _ _ h,cell_of_row W g 4 _ _ _ h⟩
theorem szK_yes (z b:Int) (r s:ByteArray) (y:Int) (w:World) (h:r.size+s.size<=1048576) :
  Calls Tryz.prog 23 #[kV z b r s y,.int .i64 1048576] w fun e w'=>e=.returned (.int .i64 (1048576-(r.size:Int)-(s.size:Int)))/\Below w.heap.size w w':=by
 have HZ:=hideK (fun W=>sz_yes z b r W (by omega))
 have C0:=hideK ((Cx.nil w).new (lkB z b r s y))
 have hw1:IntKind.i64.wrap (1048576-(r.size:Int)-(s.size:Int))=1048576-(r.size:Int)-(s.size:Int):=by rw[IntKind.wrap_i64];omega
 have h1:¬(1048576-(r.size:Int))<0:=by omega
 have h2:decide ((1048576-(r.size:Int))<0)=false:=by simp;omega
 have h3:¬(1048576-(r.size:Int)-(s.size:Int))<0:=by omega
 have h4:decide ((1048576-(r.size:Int)-(s.size:Int))<0)=false:=by simp;omega
 unfold kV
 unfold lkB at C0
 unfold lV at HZ
 go_enter Tryz.func23,Tryz.ntmps23
 go_wp2_with fail
 refine(HZ.out _).mono ?_
 rintro e w1 ⟨rfl,hb⟩
 have C1:=hideK (C0.out.call hb)
 clear hb C0
 obtain⟨l0,l1,l2,l3,l4⟩:=lk_cells (C1.out.get 0 rfl)
 go_wp2_with fail
 go_ret
 exact⟨rfl,C1.out.low⟩
theorem szK_no (z b:Int) (r s:ByteArray) (y:Int) (w:World) (hr:r.size<=9223372036854775807) (hs:s.size<=9223372036854775807) (h:¬r.size+s.size<=1048576) :
  Calls Tryz.prog 23 #[kV z b r s y,.int .i64 1048576] w fun e w'=>e=.returned (.int .i64 (-1))/\Below w.heap.size w w':=by
 have C0:=hideK ((Cx.nil w).new (lkB z b r s y))
 unfold kV
 unfold lkB at C0
 by_cases h0:r.size<=1048576
 ·have HZ:=hideK (fun W=>sz_yes z b r W h0)
  have hw1:IntKind.i64.wrap (1048576-(r.size:Int)-(s.size:Int))=1048576-(r.size:Int)-(s.size:Int):=by rw[IntKind.wrap_i64];omega
  have h1:¬(1048576-(r.size:Int))<0:=by omega
  have h2:decide ((1048576-(r.size:Int))<0)=false:=by simp;omega
  have h3:(1048576-(r.size:Int)-(s.size:Int))<0:=by omega
  unfold lV at HZ
  go_enter Tryz.func23,Tryz.ntmps23
  go_wp2_with fail
  refine(HZ.out _).mono ?_
  rintro e w1 ⟨rfl,hb⟩
  have C1:=hideK (C0.out.call hb)
  clear hb C0
  obtain⟨l0,l1,l2,l3,l4⟩:=lk_cells (C1.out.get 0 rfl)
  go_wp2_with fail
  go_ret
  exact⟨rfl,C1.out.low⟩
 ·have HZ:=hideK (fun W=>sz_no z b r W hr (by omega))
  unfold lV at HZ
  go_enter Tryz.func23,Tryz.ntmps23
  go_wp2_with fail
  refine(HZ.out _).mono ?_
  rintro e w1 ⟨rfl,hb⟩
  have C1:=hideK (C0.out.call hb)
  clear hb C0
  go_wp2_with fail
  go_ret
  exact⟨rfl,C1.out.low⟩
theorem toK_any (z b:Int) (r s:ByteArray) (y:Int) (w:World) :
  Calls Tryz.prog 31 #[kV z b r s y] w fun e w'=>e=.returned (kV z b r s y)/\Below w.heap.size w w':=by
 have HT:=hideK (fun W=>to_any z b r W)
 have C0:=hideK ((((Cx.nil w).new (lkB z b r s y)).new kZ).new kZ)
 simp only[World.size_alloc]at C0
 unfold kV
 unfold lV at HT
 unfold lkB kZ at C0
 go_enter Tryz.func31,Tryz.ntmps31
 go_wp2_with fail
 generalize ((w.alloc _).alloc _).alloc _=W0 at C0 ⊢
 refine(HT.out _).mono ?_
 rintro e w1 ⟨rfl,hb⟩
 have C1:=hideK (C0.out.call hb)
 clear hb C0
 obtain⟨l0,l1,l2,l3,l4⟩:=lk_cells (C1.out.get 2 rfl)
 obtain⟨k0,k1,k2,k3,k4⟩:=cells5 (C1.out.get 0 rfl)
 have ff:=fun o=>frozen_of_row w1 (w.heap.size+1+1) o _ _ (C1.out.get 0 rfl)
 have X5:=hideK (set5 (C1.out.get 0 rfl) (.int .i64 z) (.int .i64 b) (.string r) (.string s) (.int .i64 y))
 have D1:Hid (Cx w w1 [(w.heap.size+1,.cells #[.int .i64 0,.int .i64 0,.string ⟨#[]⟩,.string ⟨#[]⟩,.int .i64 0] 32)]):=⟨C1.out.low,fun x hx=>C1.out.blk x (by rw[List.mem_singleton.1 hx];simp)⟩
 have ne:∀ x∈[(w.heap.size+1,Obj.cells #[.int .i64 0,.int .i64 0,.string ⟨#[]⟩,.string ⟨#[]⟩,.int .i64 0] 32)],x.1≠w.heap.size+1+1:=fun x hx=>by rw[List.mem_singleton.1 hx];show w.heap.size+1≠w.heap.size+1+1;omega
 have D5:=hideK (((((D1.out.set (g:=w.heap.size+1+1) (by omega) ne 0 (.int .i64 z)).set (g:=w.heap.size+1+1) (by omega) ne 1 (.int .i64 b)).set (g:=w.heap.size+1+1) (by omega) ne 2 (.string r)).set (g:=w.heap.size+1+1) (by omega) ne 3 (.string s)).set (g:=w.heap.size+1+1) (by omega) ne 4 (.int .i64 y))
 clear C1 D1 ne
 go_upto_region 5 with fail
 generalize ((((w1.setCell _ _).setCell _ _).setCell _ _).setCell _ _).setCell _ _=W5 at X5 D5 ⊢
 clear l0 l1 l2 l3 l4 k0 k1 k2 k3 k4 ff
 obtain⟨k0,k1,k2,k3,k4⟩:=cells5 X5.out
 obtain⟨q0,q1,q2,q3,q4⟩:=cells5 (D5.out.get 0 rfl)
 have ff:=fun o=>frozen_of_row W5 (w.heap.size+1) o _ _ (D5.out.get 0 rfl)
 have HF:=hideK (ans5 (D5.out.get 0 rfl) D5.out.low (Nat.le_succ _) (.int .i64 z) (.int .i64 b) (.string r) (.string s) (.int .i64 y))
 have s5:=cells5 HF.out.2
 go_wp2_with fail
 exact bodyPost_ret (v:=.agg #[.int .i64 z,.int .i64 b,.string r,.string s,.int .i64 y]) (by simp[results,Tryz.results31,go_sem,s5.1,s5.2.1,s5.2.2.1,s5.2.2.2.1,s5.2.2.2.2]) rfl ⟨rfl,HF.out.1⟩
theorem eqK_same (z b:Int) (r s:ByteArray) (y:Int) (w:World) :
  Calls Tryz.prog 41 #[kV z b r s y,kV z b r s y] w fun e w'=>e=.returned (.bool true)/\Below w.heap.size w w':=by
 have HL:=hideK (fun W=>eqL_same z b r W)
 have h1:(y != y)=false:=by simp
 have C0:=hideK (((Cx.nil w).new (kB z b r s y)).new (kB z b r s y))
 simp only[World.size_alloc]at C0
 unfold kV
 unfold kB at C0
 go_enter Tryz.func41,Tryz.ntmps41
 go_wp2_with fail
 generalize (w.alloc _).alloc _=W0 at C0 ⊢
 refine(HL.out _).mono ?_
 rintro e w1 ⟨rfl,hb⟩
 have C1:=hideK (C0.out.call hb)
 clear hb C0
 obtain⟨l0,l1,l2,l3,l4⟩:=k_cells (C1.out.get 0 rfl)
 obtain⟨k0,k1,k2,k3,k4⟩:=k_cells (C1.out.get 1 rfl)
 go_wp2_with fail
 go_ret
 exact⟨rfl,C1.out.low⟩
end Go.Proofs.YtpddanmnlkcdpaaGreatDoor.Kp


namespace Go.Proofs.YtpddanmnlkcdpaaGreatDoor.Pk
open Go.RowKit
open St (Strs IsS made_strs)
open In (Ints IsI OwnI made_ints)
open Nu (putS)
theorem hideP {p:Prop} (h:p):Hid p:=h
def cat (l:List ByteArray):List UInt8:=l.flatMap fun s=>s.data.toList
theorem cat_next (l:List ByteArray) (k:Nat) (h:k<l.length):cat (l.take (k+1))=cat (l.take k)++l[k].data.toList:=by
 rw[List.take_add_one,List.getElem?_eq_getElem h]
 unfold cat
 rw[List.flatMap_append]
 simp
theorem cat_take_le (l:List ByteArray) (k:Nat):(cat (l.take k)).length<=(cat l).length:=by
  have:cat l=cat (l.take k)++cat (l.drop k):=by
   unfold cat
   rw[<-List.flatMap_append,List.take_append_drop]
  rw[this,List.length_append]
  omega
theorem join_any (l:List ByteArray) (a:Option Addr) (cap n:Nat) (w:World) (h:Strs w w.heap.size a l) (hn:l.length=n) (hn2:n<=1048576) (hc:(cat l).length<=1048576) :
  Calls Tryz.prog 204 #[.slice a n cap] w fun e w'=>e=.returned (.string ⟨(cat l).toArray⟩)/\Below w.heap.size w w':=by
 have HN:=hideP hn
 have HS:=hideP h
 have HC:=hideP (fun k=>Nat.le_trans (cat_take_le l k) hc)
 clear h hn hc
 go_enter Tryz.func204,Tryz.ntmps204
 go_wp2_with fail
 go_loopw [8,5] (fun i _ wr=>∃ k:Nat,i=.int .i64 k/\k<=n/\Lib.IsBuilder 276 5 w.heap.size w.heap.size (Lib.byteCells (cat (l.take k))) wr/\Below w.heap.size w wr/\w.heap.size<=wr.heap.size) (fun i _ _=>n-(intOf i).toNat)
 case atStart=>exact⟨0,rfl,Nat.zero_le _,Lib.fresh_isBuilder _ _ w,(Below.refl _ _).alloc (Nat.le_refl _) _,by simp⟩
 case round =>
  obtain⟨k,rfl,hk,hbu,hbel,hbz⟩:=hrel
  have HBU:=hideP hbu
  have GB:=hideP hbel
  clear hbu hbel
  by_cases hlt:k<n
  ·have hkl:k<l.length:=by rw[HN.out];exact hlt
   obtain⟨b,off,rfl,hb,hcl⟩:∃ b off,a=some ⟨b,off,none⟩/\b<w.heap.size/\∀ j (h:j<l.length),wr.cell? ⟨b,off+j,none⟩=some (.string l[j]):=by
    rcases HS.out.below GB.out with h0|h
    ·subst h0
     simp at hkl
    ·exact h
   have ci:=hcl k hkl
   have HNX:=hideP (cat_next l k hkl)
   have h1:=HC.out (k+1)
   rw[HNX.out,List.length_append]at h1
   generalize l[k]=s at ci HNX h1
   have hss:s.data.toList.length=s.size:=by simp
   have HLE:Hid ((Lib.byteCells (cat (l.take k))).length+s.size<=140737488355328):=by
    unfold Hid
    rw[Lib.byteCells_length]
    omega
   have HNC:Hid (Lib.byteCells (cat (l.take k))++Lib.strCells s=Lib.byteCells (cat (l.take (k+1)))):=by
    unfold Hid
    rw[HNX.out,Lib.byteCells_append,Lib.strCells_eq]
   have HWR:=hideP (Sb.write_any w.heap.size w.heap.size _ s wr HBU.out HLE.out hbz)
   clear hcl h1 hss hkl
   go_wp2_with fail
   refine HWR.out.mono ?_
   rintro e w2 ⟨rfl,hbt,hb2⟩
   rw[HNC.out]at hbt
   have HBT:=hideP hbt
   have B2:=hideP (GB.out.trans hb2)
   have z2:=hb2.size
   clear hbt hb2
   go_wp2_with fail
   go_roundw
   case rel=>exact⟨k+1,by go_num,by omega,Or.inr HBT.out,B2.out,by omega⟩
   case measure=>simp[intOf];omega
  ·obtain rfl:k=n:=by omega
   have HE:Hid (cat (l.take k)=cat l):=by
    unfold Hid
    rw[List.take_of_length_le (by rw[HN.out];exact Nat.le_refl _)]
   have HST:=hideP (Sb.string_any w.heap.size w.heap.size _ wr HBU.out hbz)
   rw[HE.out]at HST
   go_wp2_with fail
   refine HST.out.mono ?_
   rintro e w2 ⟨rfl,hb2⟩
   have B2:=hideP (GB.out.trans hb2)
   clear hb2
   go_wp2_with fail
   go_ret
   exact⟨rfl,B2.out⟩
def numsL (l:List Int):List UInt8:=l.flatMap fun x=>(putS x).data.toList
def putsN (l:List Int) (k:Nat):List ByteArray:=(l.take k).map putS++List.replicate (l.length-k) ⟨#[]⟩
end Go.Proofs.YtpddanmnlkcdpaaGreatDoor.Pk


/- The bytes of a List: what both sides answer. -/
namespace Go.Proofs.YtpddanmnlkcdpaaGreatDoor.Ls
open Go.RowKit
open Pk (cat numsL join_any)
open St (Strs)
open In (Ints)
open Nu (putS putT put_spec text_spec text_impl putS_size)
def bytesA (z b:Int) (r:ByteArray):ByteArray:=putS z++putS b++putT r
def bytesL (z b:Int) (r:ByteArray):ByteArray:=if rightB z b r=true then bytesA z b r else ⟨#[]⟩
theorem lm_alloc {w W:World} (h:Below w.heap.size w W) (o:Obj):Below w.heap.size w (W.alloc o):=h.alloc h.size o
theorem lm_drew {w W:World} (h:Below w.heap.size w W):Below w.heap.size w W.drew:=h.drew
end Go.Proofs.YtpddanmnlkcdpaaGreatDoor.Ls


/- ListBytes: what both sides answer. -/
namespace Go.Proofs.YtpddanmnlkcdpaaGreatDoor.Ls
open Go.RowKit
open Pk (cat numsL join_any)
open St (Strs)
open In (Ints)
open Nu (putS putT put_spec text_spec text_impl putS_size)
end Go.Proofs.YtpddanmnlkcdpaaGreatDoor.Ls


/- A peer in plain words: others, and when they are right. -/
namespace Go.Proofs.YtpddanmnlkcdpaaGreatDoor.Pe
open Go.RowKit
open Go.Proofs.YtpddanmnlkcdpaaGreatDoor.Nm (nameB)
structure Oth where
 name:ByteArray
 has:List Int
 asked:Int
 age:Int
 strikes:Int
def RisesTo (l:List Int) (c:Int) (n:Nat):Prop:=∀ j (hj:j<l.length),j<n->0<=l[j]/\l[j]<c/\(0<j->l.getD (j-1) 0<l[j])
noncomputable def risesB (l:List Int) (c:Int):Bool:=@decide (RisesTo l c l.length) (Classical.propDecidable _)
theorem risesB_yes {l:List Int} {c:Int} (h:RisesTo l c l.length):risesB l c=true:=by
 unfold risesB
 exact @decide_eq_true _ (Classical.propDecidable _) h
theorem risesB_no {l:List Int} {c:Int} (h:¬RisesTo l c l.length):risesB l c=false:=by
 unfold risesB
 exact @decide_eq_false _ (Classical.propDecidable _) h
theorem rises_of {l:List Int} {c:Int} (h:risesB l c=true):RisesTo l c l.length:=by
 unfold risesB at h
 exact @of_decide_eq_true _ (Classical.propDecidable _) h
theorem rises_zero (l:List Int) (c:Int):RisesTo l c 0:=fun _ _ h=>absurd h (Nat.not_lt_zero _)
def aheadZ (l:List Int) (j:Nat):Int:=if j=0 then -1 else l.getD (j-1) 0
theorem aheadZ_next (l:List Int) (j:Nat) (h:j<l.length):aheadZ l (j+1)=l[j]:=by
 unfold aheadZ
 rw[if_neg (by omega),Nat.add_sub_cancel,List.getD_eq_getElem?_getD,List.getElem?_eq_getElem h]
 rfl
theorem rises_step {l:List Int} {c:Int} {j:Nat} (hj:j<l.length) (h:RisesTo l c j) (h1:aheadZ l j<l[j]) (h2:l[j]<c):RisesTo l c (j+1):=by
 intro i hi hij
 by_cases e:i=j
 ·subst e
  unfold aheadZ at h1
  by_cases h0:i=0
  ·rw[if_pos h0]at h1
   exact⟨by omega,h2,fun h=>by omega⟩
  ·rw[if_neg h0]at h1
   have:=(h (i-1) (by omega) (by omega)).1
   rw[List.getD_eq_getElem?_getD,List.getElem?_eq_getElem (by omega)]at h1
   simp at h1
   refine⟨by omega,h2,fun _=>?_⟩
   rw[List.getD_eq_getElem?_getD,List.getElem?_eq_getElem (by omega)]
   simpa using h1
 ·exact h i hi (by omega)
theorem rises_bad {l:List Int} {c:Int} {j:Nat} (hj:j<l.length) (h:¬(aheadZ l j<l[j]/\l[j]<c)):¬RisesTo l c l.length:=by
 intro hr
 have hq:=hr j hj hj
 apply h
 refine⟨?_,hq.2.1⟩
 unfold aheadZ
 by_cases h0:j=0
 ·rw[if_pos h0]
  omega
 ·rw[if_neg h0]
  exact hq.2.2 (by omega)
theorem rises_step2 {l:List Int} {c:Int} {j:Nat} (hj:j<l.length) (h:RisesTo l c j) (h0:0<=l[j]) (h2:l[j]<c) (h1:0<j->l.getD (j-1) 0<l[j]):RisesTo l c (j+1):=by
 intro i hi hij
 by_cases e:i=j
 ·subst e
  exact⟨h0,h2,h1⟩
 ·exact h i hi (by omega)
theorem rises_bad2 {l:List Int} {c:Int} {j:Nat} (hj:j<l.length) (h:¬(0<=l[j]/\l[j]<c/\(0<j->l.getD (j-1) 0<l[j]))):¬RisesTo l c l.length:=fun hr=>h (hr j hj hj)
def askB (o:Oth) (c:Int):Bool:=decide (0<=o.asked/\o.asked<=c/\0<=o.age/\o.age<=3/\(0<o.asked∨o.age=0))
def strB (o:Oth):Bool:=decide (0<=o.strikes/\o.strikes<=3)
def banB (o:Oth):Bool:=o.strikes==3
def shutB (o:Oth):Bool:=!banB o || (decide (o.has.length=0) && decide (o.asked=0))
noncomputable def othB (o:Oth) (c:Int):Bool:=nameB o.name && risesB o.has c && askB o c && strB o && shutB o
def ltN (a b:ByteArray):Bool:=Op.bytesLess a.toList b.toList
def OthsTo (l:List Oth) (c:Int) (n:Nat):Prop:=∀ j (hj:j<l.length),j<n->othB l[j] c=true/\(∀ i (hi:i<l.length),i+1=j->ltN l[i].name l[j].name=true)
noncomputable def othsB (l:List Oth) (c:Int):Bool:=@decide (l.length<=4/\OthsTo l c l.length) (Classical.propDecidable _)
theorem othsB_yes {l:List Oth} {c:Int} (h1:l.length<=4) (h:OthsTo l c l.length):othsB l c=true:=by
 unfold othsB
 exact @decide_eq_true _ (Classical.propDecidable _) ⟨h1,h⟩
theorem othsB_no {l:List Oth} {c:Int} (h:¬OthsTo l c l.length):othsB l c=false:=by
 unfold othsB
 exact @decide_eq_false _ (Classical.propDecidable _) (fun h'=>h h'.2)
theorem othsB_long {l:List Oth} {c:Int} (h:4<l.length):othsB l c=false:=by
 unfold othsB
 exact @decide_eq_false _ (Classical.propDecidable _) (fun h'=>by omega)
theorem oths_of {l:List Oth} {c:Int} (h:othsB l c=true):l.length<=4/\OthsTo l c l.length:=by
 unfold othsB at h
 exact @of_decide_eq_true _ (Classical.propDecidable _) h
theorem oths_zero (l:List Oth) (c:Int):OthsTo l c 0:=fun _ _ h=>absurd h (Nat.not_lt_zero _)
theorem oths_step {l:List Oth} {c:Int} {j:Nat} (hj:j<l.length) (h:OthsTo l c j) (h1:othB l[j] c=true) (h2:∀ i (hi:i<l.length),i+1=j->ltN l[i].name l[j].name=true):OthsTo l c (j+1):=by
 intro i hi hij
 by_cases e:i=j
 ·subst e
  exact⟨h1,h2⟩
 ·exact h i hi (by omega)
end Go.Proofs.YtpddanmnlkcdpaaGreatDoor.Pe


/- Others in memory: as a slice sees them, and as a row that a call owns. -/
namespace Go.Proofs.YtpddanmnlkcdpaaGreatDoor.Pe
open Go.RowKit
open Kp
open In (Ints OwnI)
abbrev MO:=Oth × Value
def othV (x:MO):Value:=.agg #[.string x.1.name,x.2,.int .i64 x.1.asked,.int .i64 x.1.age,.int .i64 x.1.strikes]
def othO (x:MO) (T:TypeId):Obj:=.cells #[.string x.1.name,x.2,.int .i64 x.1.asked,.int .i64 x.1.age,.int .i64 x.1.strikes] T
def five (x:MO):List Value:=[.string x.1.name,x.2,.int .i64 x.1.asked,.int .i64 x.1.age,.int .i64 x.1.strikes]
def cellsO:List MO->List Value
 |[]=>[]
 |x :: m=>.string x.1.name :: x.2 :: .int .i64 x.1.asked :: .int .i64 x.1.age :: .int .i64 x.1.strikes :: cellsO m
theorem cellsO_length:∀ m:List MO,(cellsO m).length=m.length*5
 |[]=>rfl
 |x :: m=>by
  rw[cellsO,List.length_cons,List.length_cons,List.length_cons,List.length_cons,List.length_cons,cellsO_length m,List.length_cons]
  omega
theorem cellsO_append:∀ m k:List MO,cellsO (m++k)=cellsO m++cellsO k
 |[],k=>rfl
 |x :: m,k=>by
  rw[List.cons_append,cellsO,cellsO,cellsO_append m k]
  rfl
theorem cellsO_at:∀ (m:List MO) (i:Nat) (h:i<m.length),(cellsO m)[i*5]? = some (.string m[i].1.name)/\(cellsO m)[i*5+1]? = some m[i].2/\(cellsO m)[i*5+2]? = some (.int .i64 m[i].1.asked)/\(cellsO m)[i*5+3]? = some (.int .i64 m[i].1.age)/\(cellsO m)[i*5+4]? = some (.int .i64 m[i].1.strikes)
 |x :: m,0,_=>⟨rfl,rfl,rfl,rfl,rfl⟩
 |x :: m,i+1,h=>by
  have:=cellsO_at m i (Nat.lt_of_succ_lt_succ h)
  rw[cellsO,show (i+1)*5=i*5+5 by omega,show i*5+5+1=(i*5+1)+5 by omega,show i*5+5+2=(i*5+2)+5 by omega,show i*5+5+3=(i*5+3)+5 by omega,show i*5+5+4=(i*5+4)+5 by omega]
  exact this
def HasAt (W:World) (B:Nat) (x:MO):Prop:=∃ a cap,x.2=.slice a x.1.has.length cap/\x.1.has.length<=cap/\(a=none->cap=0)/\Ints W B a x.1.has
theorem HasAt.below {W W':World} {B:Nat} {x:MO} (h:HasAt W B x) (hb:Below B W W'):HasAt W' B x:=by
 obtain⟨a,cap,hv,hc,hn,hi⟩:=h
 exact⟨a,cap,hv,hc,hn,hi.below hb⟩
theorem HasAt.mono {W:World} {B C:Nat} {x:MO} (h:HasAt W B x) (hB:B<=C):HasAt W C x:=by
 obtain⟨a,cap,hv,hc,hn,hi⟩:=h
 exact⟨a,cap,hv,hc,hn,hi.mono hB⟩
def FiveAt (W:World) (b o:Nat) (x:MO):Prop:=W.cell? ⟨b,o,none⟩=some (.string x.1.name)/\W.cell? ⟨b,o+1,none⟩=some x.2/\W.cell? ⟨b,o+2,none⟩=some (.int .i64 x.1.asked)/\W.cell? ⟨b,o+3,none⟩=some (.int .i64 x.1.age)/\W.cell? ⟨b,o+4,none⟩=some (.int .i64 x.1.strikes)
theorem FiveAt.below {W W':World} {B b o:Nat} {x:MO} (h:FiveAt W b o x) (hb:Below B W W') (hlt:b<B):FiveAt W' b o x:=by
 obtain⟨h0,h1,h2,h3,h4⟩:=h
 exact⟨(hb.cell (p:=⟨b,o,none⟩) hlt).trans h0,(hb.cell (p:=⟨b,o+1,none⟩) hlt).trans h1,(hb.cell (p:=⟨b,o+2,none⟩) hlt).trans h2,(hb.cell (p:=⟨b,o+3,none⟩) hlt).trans h3,(hb.cell (p:=⟨b,o+4,none⟩) hlt).trans h4⟩
def Oths (W:World) (B:Nat) (a:Option Addr) (m:List MO):Prop :=
 (m=[]∨∃ b off,a=some ⟨b,off,none⟩/\b<B/\∀ j (h:j<m.length),FiveAt W b (off+j*5) m[j])/\∀ x∈m,HasAt W B x
theorem Oths.below {W W':World} {B:Nat} {a:Option Addr} {m:List MO} (h:Oths W B a m) (hb:Below B W W'):Oths W' B a m:=by
 refine⟨?_,fun x hx=>(h.2 x hx).below hb⟩
 rcases h.1 with h0|⟨b,off,rfl,hlt,hc⟩
 ·exact .inl h0
 ·exact .inr ⟨b,off,rfl,hlt,fun j hj=>(hc j hj).below hb hlt⟩
theorem Oths.mono {W:World} {B C:Nat} {a:Option Addr} {m:List MO} (h:Oths W B a m) (hB:B<=C):Oths W C a m:=by
 refine⟨?_,fun x hx=>(h.2 x hx).mono hB⟩
 rcases h.1 with h0|⟨b,off,rfl,hlt,hc⟩
 ·exact .inl h0
 ·exact .inr ⟨b,off,rfl,Nat.lt_of_lt_of_le hlt hB,hc⟩
theorem Oths.later {W W':World} {a:Option Addr} {m:List MO} (h:Oths W W.heap.size a m) (hb:Below W.heap.size W W'):Oths W' W'.heap.size a m:=(h.below hb).mono hb.size
theorem Oths.some {W:World} {B:Nat} {a:Option Addr} {m:List MO} (h:Oths W B a m) (hl:0<m.length):∃ b off,a=.some ⟨b,off,none⟩/\b<B/\∀ j (h:j<m.length),FiveAt W b (off+j*5) m[j]:=by
 rcases h.1 with h0|h
 ·subst h0;simp at hl
 ·exact h
theorem oths_nil (W:World) (B:Nat) (a:Option Addr):Oths W B a []:=⟨.inl rfl,fun _ hx=>absurd hx List.not_mem_nil⟩
def oths (m:List MO):List Oth:=m.map (·.1)
theorem oths_length (m:List MO):(oths m).length=m.length:=List.length_map ..
theorem oths_get (m:List MO) (j:Nat) (h:j<m.length):(oths m)[j]'(by rw[oths_length];exact h)=m[j].1:=by simp[oths]
def OwnO (W:World) (base:Nat) (v:Value) (m:List MO):Prop:=W.ownsRow base 86 5 v m.length (cellsO m)
theorem OwnO.nil (w:World) (base:Nat):OwnO w base (.slice none 0 0) []:=World.ownsRow_nil w base _ _
theorem OwnO.alloc {W:World} {base:Nat} {v:Value} {m:List MO} (h:OwnO W base v m) (o:Obj):OwnO (W.alloc o) base v m:=World.ownsRow.alloc h o
theorem OwnO.below {w w':World} {base:Nat} {v:Value} {m:List MO} (h:OwnO w base v m) (b:Below w.heap.size w w'):OwnO w' base v m:=by
 obtain⟨hl,h⟩:=h
 refine⟨hl,?_⟩
 rcases h with h|⟨g,cap,cur,hv,hg,hb,rest⟩
 ·exact .inl h
 ·exact .inr ⟨g,cap,cur,hv,hg,by rw[b.block g (lt_rowK hb)];exact hb,rest⟩
theorem OwnO.mono {w:World} {base base':Nat} {v:Value} {m:List MO} (h:OwnO w base v m) (hb:base'<=base):OwnO w base' v m:=by
 obtain⟨hl,h⟩:=h
 refine⟨hl,?_⟩
 rcases h with h|⟨g,cap,cur,hv,hg,rest⟩
 ·exact .inl h
 ·exact .inr ⟨g,cap,cur,hv,Nat.le_trans hb hg,rest⟩
theorem OwnO.one {W:World} {base:Nat} {v:Value} {m:List MO} (h:OwnO W base v m):∃ a cap,v=.slice a m.length cap/\m.length<=cap/\(a=none->cap=0):=by
 obtain⟨_,h⟩:=h
 rcases h with⟨h,h0⟩|⟨g,cap,cur,hv,_,_,hn,_⟩
 ·exact⟨none,0,by rw[h,h0],by omega,fun _=>rfl⟩
 ·exact⟨_,cap,hv,hn,fun h=>by cases h⟩
theorem OwnO.cells {W:World} {base:Nat} {v:Value} {m:List MO} (h:OwnO W base v m) (h0:0<m.length):∃ g cap,v=.slice (some ⟨g,0,none⟩) m.length cap/\base<=g/\g<W.heap.size/\m.length<=cap/\∀ i (hi:i<m.length),FiveAt W g (i*5) m[i]:=by
 obtain⟨_,h⟩:=h
 rcases h with⟨_,h⟩|⟨g,cap,cur,hv,hg,hb,hn,_,hs,ht⟩
 ·omega
 ·refine⟨g,cap,hv,hg,lt_rowK hb,hn,fun i hi=>?_⟩
  have hc:=cellsO_at m i hi
  rw[<-ht]at hc
  rw[List.getElem?_take_of_lt (by omega),List.getElem?_take_of_lt (by omega),List.getElem?_take_of_lt (by omega),List.getElem?_take_of_lt (by omega),List.getElem?_take_of_lt (by omega),Array.getElem?_toList,Array.getElem?_toList,Array.getElem?_toList,Array.getElem?_toList,Array.getElem?_toList]at hc
  exact⟨(cell_of_row W g _ _ _ _ hb).trans hc.1,(cell_of_row W g _ _ _ _ hb).trans hc.2.1,(cell_of_row W g _ _ _ _ hb).trans hc.2.2.1,(cell_of_row W g _ _ _ _ hb).trans hc.2.2.2.1,(cell_of_row W g _ _ _ _ hb).trans hc.2.2.2.2⟩
theorem OwnO.snoc {W:World} {base:Nat} {v:Value} {m:List MO} {x:MO} (h:W.ownsRow base 86 5 v (m.length+1) (cellsO m++[.string x.1.name,x.2,.int .i64 x.1.asked,.int .i64 x.1.age,.int .i64 x.1.strikes])):OwnO W base v (m++[x]):=by
 unfold OwnO
 rw[List.length_append,cellsO_append]
 exact h
theorem five_new (W:World) (x0 x1 x2 x3 x4:Value) (t:TypeId):∀ (j:Nat) (u:Value),[x0,x1,x2,x3,x4][j]? = .some u->(W.alloc (.cells #[x0,x1,x2,x3,x4] t)).cell? ((⟨W.heap.size,0,none⟩:Addr).add j)=.some u:=by
 intro j u hj
 match j,hj with
 |0,hj=>simp at hj;subst hj;simp[Addr.add]
 |1,hj=>simp at hj;subst hj;simp[Addr.add]
 |2,hj=>simp at hj;subst hj;simp[Addr.add]
 |3,hj=>simp at hj;subst hj;simp[Addr.add]
 |4,hj=>simp at hj;subst hj;simp[Addr.add]
theorem five_one {x0 x1 x2 x3 x4:Value} (h0:x0.oneCell'=true) (h1:x1.oneCell'=true) (h2:x2.oneCell'=true) (h3:x3.oneCell'=true) (h4:x4.oneCell'=true):∀ u∈[x0,x1,x2,x3,x4],u.oneCell'=true:=by
 intro u hu
 simp at hu
 rcases hu with rfl|rfl|rfl|rfl|rfl
 ·exact h0
 ·exact h1
 ·exact h2
 ·exact h3
 ·exact h4
end Go.Proofs.YtpddanmnlkcdpaaGreatDoor.Pe


namespace Go.Proofs.YtpddanmnlkcdpaaGreatDoor.Se
open Go.RowKit
open Nu (bv arr_string ret_strJ hideJ)
def outV (t:ByteArray) (at_ code:Int):Value:=.agg #[.string t,.int .i64 at_,.int .i64 code]
def unsealV (s:ByteArray):Value :=
 if 8000<s.size then outV ⟨#[]⟩ 0 2 else if s.size<4 then outV ⟨#[]⟩ 0 4
 else if sealV (s.extract 0 (s.size-4))=s then outV (s.extract 0 (s.size-4)) 0 0 else outV ⟨#[]⟩ 0 5
theorem bcell {W w1:World} (hb:Below W.heap.size W w1):(∀ b o,b<W.heap.size->w1.cell? ⟨b,o,none⟩=W.cell? ⟨b,o,none⟩)/\(∀ b o,b<W.heap.size->w1.frozen? ⟨b,o,none⟩=W.frozen? ⟨b,o,none⟩) :=
 ⟨fun b o h=>hb.cell (p:=⟨b,o,none⟩) h,fun b o h=>hb.frozen (p:=⟨b,o,none⟩) h⟩
theorem below3 {w wa wb:World} {o:Obj} (h1:Below (w.alloc o).heap.size (w.alloc o) wa) (h2:Below (w.alloc o).heap.size wa wb):Below w.heap.size w wb :=
 ((Below.refl w.heap.size w).alloc (Nat.le_refl _) o).trans ((h1.trans h2).mono (by simp))
theorem below2d {w wa:World} {o:Obj} (h1:Below (w.alloc o).drew.heap.size (w.alloc o).drew wa):Below w.heap.size w wa :=
 ((Below.refl w.heap.size w).alloc (Nat.le_refl _) o).drew.trans (h1.mono (by simp))
theorem list_eq_iff (a b:ByteArray):(a.toList==b.toList)=decide (a=b):=by
 by_cases h:a=b
 ·rw[h];simp
 ·rw[decide_eq_false h,beq_eq_false_iff_ne]
  intro e
  apply h
  rw[ByteArray.toList_eq,ByteArray.toList_eq]at e
  have e2:a.data=b.data:=by rw[<-Array.toArray_toList (xs:=a.data),e,Array.toArray_toList]
  cases a;cases b;simpa using e2
theorem unsealV_yes (s t:ByteArray) (h1:¬8000<s.size) (h2:¬s.size<4) (ht:t=s.extract 0 (s.size-4)) (h:sealV t=s):unsealV s=outV t 0 0:=by
 unfold unsealV
 rw[if_neg h1,if_neg h2,<-ht,if_pos h]
theorem unsealV_no (s t:ByteArray) (h1:¬8000<s.size) (h2:¬s.size<4) (ht:t=s.extract 0 (s.size-4)) (h:¬sealV t=s):unsealV s=outV ⟨#[]⟩ 0 5:=by
 unfold unsealV
 rw[if_neg h1,if_neg h2,<-ht,if_neg h]
theorem unseal_impl (s:ByteArray) (w:World) (hs:s.size<=maxLen) :
  Calls Tryz.prog 136 #[.string s] w fun e w'=>e=.returned (unsealV s)/\Below w.heap.size w w':=by
 unfold maxLen at hs
 by_cases h1:8000<s.size
 ·have HV:=hideJ (show unsealV s=outV ⟨#[]⟩ 0 2 by unfold unsealV;rw[if_pos h1])
  go_enter Tryz.func136,Tryz.ntmps136
  go_wp2
  refine bodyPost_ret (v:=outV ⟨#[]⟩ 0 2) (by simp[results,outV,Tryz.results136,go_sem]) rfl ⟨by rw[HV.out],?_⟩
  exact(Below.refl _ _).alloc (Nat.le_refl _) _
 ·by_cases h2:s.size<4
  ·have HV:=hideJ (show unsealV s=outV ⟨#[]⟩ 0 4 by unfold unsealV;rw[if_neg h1,if_pos h2])
   go_enter Tryz.func136,Tryz.ntmps136
   go_wp2
   refine bodyPost_ret (v:=outV ⟨#[]⟩ 0 4) (by simp[results,outV,Tryz.results136,go_sem]) rfl ⟨by rw[HV.out],?_⟩
   exact(Below.refl _ _).alloc (Nat.le_refl _) _
  ·obtain⟨t,ht⟩:∃ t,t=s.extract 0 (s.size-4):=⟨_,rfl⟩
   have hts:t.size<=7996:=by rw[ht];simp;omega
   have HT:=hideJ ht
   by_cases hq:sealV t=s
   ·have HV:=hideJ (unsealV_yes s t h1 h2 ht hq)
    have hB:((sealV t).toList==s.toList)=true:=by rw[list_eq_iff];exact decide_eq_true hq
    clear ht hq
    go_enter Tryz.func136,Tryz.ntmps136
    go_wp2_with fail
    rw[show ((s.size:Int)-4)=((s.size-4:Nat):Int) from by omega]
    refine(Nu.cut_any s 0 (s.size-4) _ (by omega) (by omega) (by omega)).mono ?_
    rw[<-HT.out]
    rintro e wa ⟨rfl,hb1⟩
    obtain⟨hc1,hf1⟩:=bcell hb1
    have hz1:w.heap.size+1<=wa.heap.size:=by have:=hb1.size;simpa using this
    go_wp2_with fail
    refine(seal_impl t _ (by unfold maxLen;omega)).mono ?_
    rintro e wb ⟨rfl,hb2⟩
    obtain⟨hc2,hf2⟩:=bcell hb2
    have hz2:wa.heap.size<=wb.heap.size:=hb2.size
    have hlt:w.heap.size<wa.heap.size:=by omega
    go_wp2
    refine bodyPost_ret (v:=outV t 0 0) (by simp[results,outV,Tryz.results136,go_sem,hc2,hc1,hlt]) rfl ⟨by rw[HV.out],?_⟩
    exact((below3 hb1 (hb2.mono (by simpa using hz1))).setCell (Nat.le_refl _) _ |>.setCell (Nat.le_refl _) _).setCell (Nat.le_refl _) _
   ·have HV:=hideJ (unsealV_no s t h1 h2 ht hq)
    have hB:((sealV t).toList==s.toList)=false:=by rw[list_eq_iff];exact decide_eq_false hq
    clear ht hq
    go_enter Tryz.func136,Tryz.ntmps136
    go_wp2_with fail
    rw[show ((s.size:Int)-4)=((s.size-4:Nat):Int) from by omega]
    refine(Nu.cut_any s 0 (s.size-4) _ (by omega) (by omega) (by omega)).mono ?_
    rw[<-HT.out]
    rintro e wa ⟨rfl,hb1⟩
    obtain⟨hc1,hf1⟩:=bcell hb1
    have hz1:w.heap.size+1<=wa.heap.size:=by have:=hb1.size;simpa using this
    go_wp2_with fail
    refine(seal_impl t _ (by unfold maxLen;omega)).mono ?_
    rintro e wb ⟨rfl,hb2⟩
    obtain⟨hc2,hf2⟩:=bcell hb2
    have hz2:wa.heap.size<=wb.heap.size:=hb2.size
    have hlt:w.heap.size<wa.heap.size:=by omega
    go_wp2
    refine bodyPost_ret (v:=outV ⟨#[]⟩ 0 5) (by simp[results,outV,Tryz.results136,go_sem,hc2,hc1,hlt]) rfl ⟨by rw[HV.out],?_⟩
    exact((below3 hb1 (hb2.mono (by simpa using hz1))).setCell (Nat.le_refl _) _ |>.setCell (Nat.le_refl _) _).setCell (Nat.le_refl _) _
end Go.Proofs.YtpddanmnlkcdpaaGreatDoor.Se

