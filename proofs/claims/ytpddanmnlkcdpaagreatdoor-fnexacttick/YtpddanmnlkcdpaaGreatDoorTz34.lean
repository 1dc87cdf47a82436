/- Texts put together: PeNine, KpPut, KpRec, Mark. -/
import Derived.Test.YtpddanmnlkcdpaaGreatDoorTz31
import Derived.Test.YtpddanmnlkcdpaaGreatDoorTz29
import Derived.Test.YtpddanmnlkcdpaaGreatDoorTz33
import Derived.Test.YtpddanmnlkcdpaaGreatDoorTz18
import Derived.Test.YtpddanmnlkcdpaaGreatDoorTz11
import Derived.Deep.RegionWith
set_option maxRecDepth 100000
set_option maxHeartbeats 8000000
/- Blocks of nine cells. -/
namespace Go.Proofs.YtpddanmnlkcdpaaGreatDoor.Pe
open Go.RowKit
open Kp
theorem setC {W:World} {g:Nat} {cs cs':Array Value} {T:TypeId} (h:W.heap[g]? = some (.cells cs T (0,0))) (i:Nat) (a:Value) (hc:cs.setIfInBounds i a=cs'):(W.setCell ⟨g,i,none⟩ a).heap[g]? = some (.cells cs' T (0,0)):=by
 rw[heap_setCell_same W g i _ T a h,hc]
theorem cellsP6 {W:World} {g:Nat} {x0 x1 x2 x3 x4 x5:Value} {T:TypeId} (h:W.heap[g]? = some (.cells #[x0,x1,x2,x3,x4,x5] T (0,0))):W.cell? ⟨g,0,none⟩=some x0/\W.cell? ⟨g,1,none⟩=some x1/\W.cell? ⟨g,2,none⟩=some x2/\W.cell? ⟨g,3,none⟩=some x3/\W.cell? ⟨g,4,none⟩=some x4/\W.cell? ⟨g,5,none⟩=some x5 :=
 ⟨cell_of_row W g 0 _ _ _ h,cell_of_row W g 1 _ _ _ h,cell_of_row W g 2 _ _ _ h,cell_of_row W g 3 _ _ _ h,cell_of_row W g 4 _ _ _ h,cell_of_row W g 5 _ _ _ h⟩
theorem setP6 {W:World} {g:Nat} {x0 x1 x2 x3 x4 x5:Value} {T:TypeId} (h:W.heap[g]? = some (.cells #[x0,x1,x2,x3,x4,x5] T (0,0))) (a0 a1 a2 a3 a4 a5:Value) :
  ((((((W.setCell ⟨g,0,none⟩ a0).setCell ⟨g,1,none⟩ a1).setCell ⟨g,2,none⟩ a2).setCell ⟨g,3,none⟩ a3).setCell ⟨g,4,none⟩ a4).setCell ⟨g,5,none⟩ a5).heap[g]? = some (.cells #[a0,a1,a2,a3,a4,a5] T (0,0)):=by
 have h0:=setC (cs':=#[a0,x1,x2,x3,x4,x5]) h 0 a0 rfl
 have h1:=setC (cs':=#[a0,a1,x2,x3,x4,x5]) h0 1 a1 rfl
 have h2:=setC (cs':=#[a0,a1,a2,x3,x4,x5]) h1 2 a2 rfl
 have h3:=setC (cs':=#[a0,a1,a2,a3,x4,x5]) h2 3 a3 rfl
 have h4:=setC (cs':=#[a0,a1,a2,a3,a4,x5]) h3 4 a4 rfl
 have h5:=setC (cs':=#[a0,a1,a2,a3,a4,a5]) h4 5 a5 rfl
 exact h5
theorem setP6_low {w0 W:World} {g B:Nat} (h:Below B w0 W) (hg:B<=g) (a0 a1 a2 a3 a4 a5:Value):Below B w0 ((((((W.setCell ⟨g,0,none⟩ a0).setCell ⟨g,1,none⟩ a1).setCell ⟨g,2,none⟩ a2).setCell ⟨g,3,none⟩ a3).setCell ⟨g,4,none⟩ a4).setCell ⟨g,5,none⟩ a5) :=
 ((((((h.setCell (p:=⟨g,0,none⟩) hg a0).setCell (p:=⟨g,1,none⟩) hg a1).setCell (p:=⟨g,2,none⟩) hg a2).setCell (p:=⟨g,3,none⟩) hg a3).setCell (p:=⟨g,4,none⟩) hg a4).setCell (p:=⟨g,5,none⟩) hg a5)
theorem setP6_keep {W:World} {g k:Nat} {o:Obj} (h:W.heap[k]? = some o) (hk:k≠g) (a0 a1 a2 a3 a4 a5:Value):((((((W.setCell ⟨g,0,none⟩ a0).setCell ⟨g,1,none⟩ a1).setCell ⟨g,2,none⟩ a2).setCell ⟨g,3,none⟩ a3).setCell ⟨g,4,none⟩ a4).setCell ⟨g,5,none⟩ a5).heap[k]? = some o:=by
 rw[heap_setCell_other _ _ k _ (by exact hk),heap_setCell_other _ _ k _ (by exact hk),heap_setCell_other _ _ k _ (by exact hk),heap_setCell_other _ _ k _ (by exact hk),heap_setCell_other _ _ k _ (by exact hk),heap_setCell_other _ _ k _ (by exact hk)]
 exact h
theorem cellsP8 {W:World} {g:Nat} {x0 x1 x2 x3 x4 x5 x6 x7:Value} {T:TypeId} (h:W.heap[g]? = some (.cells #[x0,x1,x2,x3,x4,x5,x6,x7] T (0,0))):W.cell? ⟨g,0,none⟩=some x0/\W.cell? ⟨g,1,none⟩=some x1/\W.cell? ⟨g,2,none⟩=some x2/\W.cell? ⟨g,3,none⟩=some x3/\W.cell? ⟨g,4,none⟩=some x4/\W.cell? ⟨g,5,none⟩=some x5/\W.cell? ⟨g,6,none⟩=some x6/\W.cell? ⟨g,7,none⟩=some x7 :=
 ⟨cell_of_row W g 0 _ _ _ h,cell_of_row W g 1 _ _ _ h,cell_of_row W g 2 _ _ _ h,cell_of_row W g 3 _ _ _ h,cell_of_row W g 4 _ _ _ h,cell_of_row W g 5 _ _ _ h,cell_of_row W g 6 _ _ _ h,cell_of_row W g 7 _ _ _ h⟩
theorem setP8 {W:World} {g:Nat} {x0 x1 x2 x3 x4 x5 x6 x7:Value} {T:TypeId} (h:W.heap[g]? = some (.cells #[x0,x1,x2,x3,x4,x5,x6,x7] T (0,0))) (a0 a1 a2 a3 a4 a5 a6 a7:Value) :
  ((((((((W.setCell ⟨g,0,none⟩ a0).setCell ⟨g,1,none⟩ a1).setCell ⟨g,2,none⟩ a2).setCell ⟨g,3,none⟩ a3).setCell ⟨g,4,none⟩ a4).setCell ⟨g,5,none⟩ a5).setCell ⟨g,6,none⟩ a6).setCell ⟨g,7,none⟩ a7).heap[g]? = some (.cells #[a0,a1,a2,a3,a4,a5,a6,a7] T (0,0)):=by
 have h0:=setC (cs':=#[a0,x1,x2,x3,x4,x5,x6,x7]) h 0 a0 rfl
 have h1:=setC (cs':=#[a0,a1,x2,x3,x4,x5,x6,x7]) h0 1 a1 rfl
 have h2:=setC (cs':=#[a0,a1,a2,x3,x4,x5,x6,x7]) h1 2 a2 rfl
 have h3:=setC (cs':=#[a0,a1,a2,a3,x4,x5,x6,x7]) h2 3 a3 rfl
 have h4:=setC (cs':=#[a0,a1,a2,a3,a4,x5,x6,x7]) h3 4 a4 rfl
 have h5:=setC (cs':=#[a0,a1,a2,a3,a4,a5,x6,x7]) h4 5 a5 rfl
 have h6:=setC (cs':=#[a0,a1,a2,a3,a4,a5,a6,x7]) h5 6 a6 rfl
 have h7:=setC (cs':=#[a0,a1,a2,a3,a4,a5,a6,a7]) h6 7 a7 rfl
 exact h7
theorem setP8_low {w0 W:World} {g B:Nat} (h:Below B w0 W) (hg:B<=g) (a0 a1 a2 a3 a4 a5 a6 a7:Value):Below B w0 ((((((((W.setCell ⟨g,0,none⟩ a0).setCell ⟨g,1,none⟩ a1).setCell ⟨g,2,none⟩ a2).setCell ⟨g,3,none⟩ a3).setCell ⟨g,4,none⟩ a4).setCell ⟨g,5,none⟩ a5).setCell ⟨g,6,none⟩ a6).setCell ⟨g,7,none⟩ a7) :=
 ((((((((h.setCell (p:=⟨g,0,none⟩) hg a0).setCell (p:=⟨g,1,none⟩) hg a1).setCell (p:=⟨g,2,none⟩) hg a2).setCell (p:=⟨g,3,none⟩) hg a3).setCell (p:=⟨g,4,none⟩) hg a4).setCell (p:=⟨g,5,none⟩) hg a5).setCell (p:=⟨g,6,none⟩) hg a6).setCell (p:=⟨g,7,none⟩) hg a7)
theorem setP8_keep {W:World} {g k:Nat} {o:Obj} (h:W.heap[k]? = some o) (hk:k≠g) (a0 a1 a2 a3 a4 a5 a6 a7:Value):((((((((W.setCell ⟨g,0,none⟩ a0).setCell ⟨g,1,none⟩ a1).setCell ⟨g,2,none⟩ a2).setCell ⟨g,3,none⟩ a3).setCell ⟨g,4,none⟩ a4).setCell ⟨g,5,none⟩ a5).setCell ⟨g,6,none⟩ a6).setCell ⟨g,7,none⟩ a7).heap[k]? = some o:=by
 rw[heap_setCell_other _ _ k _ (by exact hk),heap_setCell_other _ _ k _ (by exact hk),heap_setCell_other _ _ k _ (by exact hk),heap_setCell_other _ _ k _ (by exact hk),heap_setCell_other _ _ k _ (by exact hk),heap_setCell_other _ _ k _ (by exact hk),heap_setCell_other _ _ k _ (by exact hk),heap_setCell_other _ _ k _ (by exact hk)]
 exact h
theorem cellsP9 {W:World} {g:Nat} {x0 x1 x2 x3 x4 x5 x6 x7 x8:Value} {T:TypeId} (h:W.heap[g]? = some (.cells #[x0,x1,x2,x3,x4,x5,x6,x7,x8] T (0,0))):W.cell? ⟨g,0,none⟩=some x0/\W.cell? ⟨g,1,none⟩=some x1/\W.cell? ⟨g,2,none⟩=some x2/\W.cell? ⟨g,3,none⟩=some x3/\W.cell? ⟨g,4,none⟩=some x4/\W.cell? ⟨g,5,none⟩=some x5/\W.cell? ⟨g,6,none⟩=some x6/\W.cell? ⟨g,7,none⟩=some x7/\W.cell? ⟨g,8,none⟩=some x8 :=
 ⟨cell_of_row W g 0 _ _ _ h,cell_of_row W g 1 _ _ _ h,cell_of_row W g 2 _ _ _ h,cell_of_row W g 3 _ _ _ h,cell_of_row W g 4 _ _ _ h,cell_of_row W g 5 _ _ _ h,cell_of_row W g 6 _ _ _ h,cell_of_row W g 7 _ _ _ h,cell_of_row W g 8 _ _ _ h⟩
theorem setP9 {W:World} {g:Nat} {x0 x1 x2 x3 x4 x5 x6 x7 x8:Value} {T:TypeId} (h:W.heap[g]? = some (.cells #[x0,x1,x2,x3,x4,x5,x6,x7,x8] T (0,0))) (a0 a1 a2 a3 a4 a5 a6 a7 a8:Value) :
  (((((((((W.setCell ⟨g,0,none⟩ a0).setCell ⟨g,1,none⟩ a1).setCell ⟨g,2,none⟩ a2).setCell ⟨g,3,none⟩ a3).setCell ⟨g,4,none⟩ a4).setCell ⟨g,5,none⟩ a5).setCell ⟨g,6,none⟩ a6).setCell ⟨g,7,none⟩ a7).setCell ⟨g,8,none⟩ a8).heap[g]? = some (.cells #[a0,a1,a2,a3,a4,a5,a6,a7,a8] T (0,0)):=by
 have h0:=setC (cs':=#[a0,x1,x2,x3,x4,x5,x6,x7,x8]) h 0 a0 rfl
 have h1:=setC (cs':=#[a0,a1,x2,x3,x4,x5,x6,x7,x8]) h0 1 a1 rfl
 have h2:=setC (cs':=#[a0,a1,a2,x3,x4,x5,x6,x7,x8]) h1 2 a2 rfl
 have h3:=setC (cs':=#[a0,a1,a2,a3,x4,x5,x6,x7,x8]) h2 3 a3 rfl
 have h4:=setC (cs':=#[a0,a1,a2,a3,a4,x5,x6,x7,x8]) h3 4 a4 rfl
 have h5:=setC (cs':=#[a0,a1,a2,a3,a4,a5,x6,x7,x8]) h4 5 a5 rfl
 have h6:=setC (cs':=#[a0,a1,a2,a3,a4,a5,a6,x7,x8]) h5 6 a6 rfl
 have h7:=setC (cs':=#[a0,a1,a2,a3,a4,a5,a6,a7,x8]) h6 7 a7 rfl
 have h8:=setC (cs':=#[a0,a1,a2,a3,a4,a5,a6,a7,a8]) h7 8 a8 rfl
 exact h8
theorem setP9_low {w0 W:World} {g B:Nat} (h:Below B w0 W) (hg:B<=g) (a0 a1 a2 a3 a4 a5 a6 a7 a8:Value):Below B w0 (((((((((W.setCell ⟨g,0,none⟩ a0).setCell ⟨g,1,none⟩ a1).setCell ⟨g,2,none⟩ a2).setCell ⟨g,3,none⟩ a3).setCell ⟨g,4,none⟩ a4).setCell ⟨g,5,none⟩ a5).setCell ⟨g,6,none⟩ a6).setCell ⟨g,7,none⟩ a7).setCell ⟨g,8,none⟩ a8) :=
 (((((((((h.setCell (p:=⟨g,0,none⟩) hg a0).setCell (p:=⟨g,1,none⟩) hg a1).setCell (p:=⟨g,2,none⟩) hg a2).setCell (p:=⟨g,3,none⟩) hg a3).setCell (p:=⟨g,4,none⟩) hg a4).setCell (p:=⟨g,5,none⟩) hg a5).setCell (p:=⟨g,6,none⟩) hg a6).setCell (p:=⟨g,7,none⟩) hg a7).setCell (p:=⟨g,8,none⟩) hg a8)
theorem setP9_keep {W:World} {g k:Nat} {o:Obj} (h:W.heap[k]? = some o) (hk:k≠g) (a0 a1 a2 a3 a4 a5 a6 a7 a8:Value):(((((((((W.setCell ⟨g,0,none⟩ a0).setCell ⟨g,1,none⟩ a1).setCell ⟨g,2,none⟩ a2).setCell ⟨g,3,none⟩ a3).setCell ⟨g,4,none⟩ a4).setCell ⟨g,5,none⟩ a5).setCell ⟨g,6,none⟩ a6).setCell ⟨g,7,none⟩ a7).setCell ⟨g,8,none⟩ a8).heap[k]? = some o:=by
 rw[heap_setCell_other _ _ k _ (by exact hk),heap_setCell_other _ _ k _ (by exact hk),heap_setCell_other _ _ k _ (by exact hk),heap_setCell_other _ _ k _ (by exact hk),heap_setCell_other _ _ k _ (by exact hk),heap_setCell_other _ _ k _ (by exact hk),heap_setCell_other _ _ k _ (by exact hk),heap_setCell_other _ _ k _ (by exact hk),heap_setCell_other _ _ k _ (by exact hk)]
 exact h
end Go.Proofs.YtpddanmnlkcdpaaGreatDoor.Pe


namespace Go.Proofs.YtpddanmnlkcdpaaGreatDoor.Kp
open Go.RowKit
open Ls (cells3 set3_all blk_alloc)
open Sh (step_append_own)
theorem Tryz.infoRecord:(Tryz.prog.info? 129).map (fun i=>(i.zero,i.size,i.bytes))=some (some (.agg #[.int .i64 0,.string ⟨#[]⟩,.slice none 0 0]),3,48):=by kernel_rfl
def wkB (v:Value) (e:Int) (z b:Int) (r s:ByteArray) (y:Int):Obj:=.cells #[v,.int .i64 e,.int .i64 z,.int .i64 b,.string r,.string s,.int .i64 y] 76
theorem wk_set0 {W:World} {g:Nat} {v:Value} {e z b:Int} {r s:ByteArray} {y:Int} (h:W.heap[g]? = some (wkB v e z b r s y)) (u:Value):(W.setCell ⟨g,0,none⟩ u).heap[g]? = some (wkB u e z b r s y):=by
 unfold wkB at h ⊢
 rw[heap_setCell_same W g 0 _ _ u h]
 rfl
theorem wk_set1 {W:World} {g:Nat} {v:Value} {e z b:Int} {r s:ByteArray} {y:Int} (h:W.heap[g]? = some (wkB v e z b r s y)) (f:Int):(W.setCell ⟨g,1,none⟩ (.int .i64 f)).heap[g]? = some (wkB v f z b r s y):=by
 unfold wkB at h ⊢
 rw[heap_setCell_same W g 1 _ _ _ h]
 rfl
theorem wk_cells {W:World} {g:Nat} {v:Value} {e z b:Int} {r s:ByteArray} {y:Int} (h:W.heap[g]? = some (wkB v e z b r s y)):W.cell? ⟨g,0,none⟩=some v/\W.cell? ⟨g,1,none⟩=some (.int .i64 e)/\W.cell? ⟨g,2,none⟩=some (.int .i64 z)/\W.cell? ⟨g,3,none⟩=some (.int .i64 b)/\W.cell? ⟨g,4,none⟩=some (.string r)/\W.cell? ⟨g,5,none⟩=some (.string s)/\W.cell? ⟨g,6,none⟩=some (.int .i64 y) :=
 ⟨cell_of_row W g 0 _ _ _ h,cell_of_row W g 1 _ _ _ h,cell_of_row W g 2 _ _ _ h,cell_of_row W g 3 _ _ _ h,cell_of_row W g 4 _ _ _ h,cell_of_row W g 5 _ _ _ h,cell_of_row W g 6 _ _ _ h⟩
theorem OwnR.set {W:World} {base g:Nat} {v:Value} {m:List MR} {cs:Array Value} {T:TypeId} (h:OwnR W base v m) (hg:W.heap[g]? = some (.cells cs T (0,0))) (hT:T≠129) (i:Nat) (u:Value):OwnR (W.setCell ⟨g,i,none⟩ u) base v m:=by
 obtain⟨hl,h⟩:=h
 refine⟨hl,?_⟩
 rcases h with h|⟨k,cap,cur,hv,hk,hb,rest⟩
 ·exact .inl h
 ·refine .inr ⟨k,cap,cur,hv,hk,?_,rest⟩
  rw[heap_setCell_other W _ k u (by
   rintro rfl
   rw[hg]at hb
   simp at hb
   exact hT hb.2)]
  exact hb
theorem own_one {W:World} {base size n:Nat} {e:TypeId} {v:Value} {xs:List Value} (h:W.ownsRow base e size v n xs):∃ a cap,v=.slice a n cap:=by
 obtain⟨_,h⟩:=h
 rcases h with⟨h,h0⟩|⟨g,cap,cur,hv,_⟩
 ·exact⟨none,0,by rw[h,h0]⟩
 ·exact⟨_,cap,hv⟩
theorem own_drewA {W:World} {base:Nat} {v:Value} {m:List MR} (h:OwnR W base v m) (o:Obj):OwnR (W.drew.alloc o) base v m:=(h.below (show Below W.heap.size W W.drew from (Below.refl _ _).drew)).alloc o
theorem grown_blk {W W':World} {row:Option Nat} {g:Nat} {o:Obj} (h:W.grownBy W' row) (hg:W.heap[g]? = some o) (hr:row≠some g):W'.heap[g]? = some o:=(h.block g (lt_rowK hg) (fun e=>hr e.symm)).trans hg
theorem own_not {W:World} {base g:Nat} {v:Value} {m:List MR} {cs:Array Value} {T:TypeId} (h:OwnR W base v m) (hg:W.heap[g]? = some (.cells cs T (0,0))) (hT:T≠129):v.ownBlock≠some g:=fun e=>by
 obtain⟨cs',hk⟩:=h.rowT g e
 rw[hg]at hk
 simp at hk
 exact hT hk.2
theorem put_end {w w1 w8:World} {o:Obj} {g base:Nat} {x:MR} {e e0 z b:Int} {r s:ByteArray} {y:Int} {v v8:Value} {m:List MR} (hg:w.heap[g]? = some (wkB v e0 z b r s y)) (ho:OwnR w base v m) (hw1:∃ q,w1=w.alloc q) (hbase:base<=w.heap.size)
  (hg8:(w1.drew.alloc o).grownBy w8 v.ownBlock) (ho8:w8.ownsRow base 129 3 v8 (m.length+1) (cellsR m++[.int .i64 x.1.1,.string x.1.2.1,x.2])) :
  w8.heap[g]? = some (wkB v e0 z b r s y)/\∃ v',((w8.setCell ⟨g,0,none⟩ v8).setCell ⟨g,1,none⟩ (.int .i64 e)).heap[g]? = some (wkB v' e z b r s y)/\OwnR ((w8.setCell ⟨g,0,none⟩ v8).setCell ⟨g,1,none⟩ (.int .i64 e)) base v' (m++[x])/\KeepsS w ((w8.setCell ⟨g,0,none⟩ v8).setCell ⟨g,1,none⟩ (.int .i64 e)) /\
    (∀ k o,w.heap[k]? = some o->k≠g->v.ownBlock≠some k->((w8.setCell ⟨g,0,none⟩ v8).setCell ⟨g,1,none⟩ (.int .i64 e)).heap[k]? = some o)/\(∀ B,B<=base->B<=g->Below B w ((w8.setCell ⟨g,0,none⟩ v8).setCell ⟨g,1,none⟩ (.int .i64 e))):=by
 obtain⟨q,rfl⟩:=hw1
 have hT1:(76:Nat)≠129:=by decide
 have hT2:(76:Nat)≠9:=by decide
 have hT3:(129:Nat)≠9:=by decide
 have hne:v.ownBlock≠some g:=own_not ho hg hT1
 have up:∀ k u,w.heap[k]? = some u->((w.alloc q).drew.alloc o).heap[k]? = some u:=fun k u h=>blk_alloc (W:=(w.alloc q).drew) (blk_alloc h q) o
 have h8:w8.heap[g]? = some (wkB v e0 z b r s y):=grown_blk hg8 (up g _ hg) hne
 have o8:OwnR w8 base v8 (m++[x]):=OwnR.snoc ho8
 have h80:=wk_set0 h8 v8
 have hbl:Below w.heap.size w ((w.alloc q).drew.alloc o):=(((Below.refl _ w).alloc (Nat.le_refl _) q).drew).alloc (by simp) o
 refine⟨h8,v8,wk_set1 h80 e,(o8.set h8 hT1 0 v8).set h80 hT1 1 _,?_,?_,?_⟩
 ·refine((KeepsS.below hbl).trans (KeepsS.grown hg8 ?_)).trans ((KeepsS.set h8 hT2 0 v8).trans (KeepsS.set h80 hT2 1 _))
  intro k hk
  obtain⟨cs,hc⟩:=ho.rowT k hk
  exact⟨cs,_,up k _ hc,hT3⟩
 ·intro k u hk hkg hkv
  rw[heap_setCell_other _ _ k _ (by exact hkg),heap_setCell_other _ _ k _ (by exact hkg)]
  exact grown_blk hg8 (up k _ hk) hkv
 ·intro B hB hBg
  have hBs:B<=w.heap.size:=by have:=lt_rowK hg;omega
  refine((((((Below.refl B w).alloc hBs q).drew).alloc (by simp;omega) o).grown hg8 (by simp;omega) ?_).setCell (p:=⟨g,0,none⟩) hBg v8).setCell (p:=⟨g,1,none⟩) hBg _
  intro k hk
  exact Nat.le_trans hB (World.ownsRow.lt ho k hk).1
theorem put_any (g base n:Nat) (x:MR) (e e0 z b:Int) (r s:ByteArray) (y:Int) (v:Value) (m:List MR) (w:World) (hg:w.heap[g]? = some (wkB v e0 z b r s y)) (ho:OwnR w base v m) (hbase:base<=w.heap.size) (hn:m.length=n) (hm:n<=1048576) (hx:∃ a n cap,x.2=.slice a n cap) :
  Calls Tryz.prog 108 #[.pointer (some ⟨g,0,none⟩),.agg #[.int .i64 x.1.1,.string x.1.2.1,x.2],.int .i64 e] w fun q w' =>
   q=.returned (.tuple #[])/\∃ v',w'.heap[g]? = some (wkB v' e z b r s y)/\OwnR w' base v' (m++[x])/\KeepsS w w' /\
    (∀ k o,w.heap[k]? = some o->k≠g->v.ownBlock≠some k->w'.heap[k]? = some o)/\(∀ B,B<=base->B<=g->Below B w w'):=by
 obtain⟨i0,hi,hz0,hz1,hz2⟩:=info_parts Tryz.infoRecord
 have HEND:=hideK (fun w1 w8 o v8=>put_end (w:=w) (w1:=w1) (w8:=w8) (o:=o) (x:=x) (e:=e) (v8:=v8) hg ho)
 obtain⟨⟨xi,xt,xp⟩,xv⟩:=x
 obtain⟨ap,np,cp,hxv⟩:=hx
 dsimp only at hxv HEND ⊢
 subst hxv
 subst hn
 obtain⟨w1,hw1⟩:∃ w1,w1=w.alloc (.cells #[.int .i64 xi,.string xt,.slice ap np cp] 129):=⟨_,rfl⟩
 have HX1:Hid (w1.heap[w.heap.size]? = some (.cells #[.int .i64 xi,.string xt,.slice ap np cp] 129 (0,0))):=by rw[hw1];exact heap_alloc_new w _
 have B1:Hid (Below w.heap.size w w1):=by rw[hw1];exact(Below.refl _ _).alloc (Nat.le_refl _) _
 have G1:Hid (w1.heap[g]? = some (wkB v e0 z b r s y)):=by rw[hw1];exact blk_alloc hg _
 have O1:Hid (OwnR w1 base v m):=by rw[hw1];exact ho.alloc _
 have HW1:Hid (∃ q,w1=w.alloc q):=⟨_,hw1⟩
 have OD:=hideK (own_drewA O1.out (.cells #[.int .i64 xi,.string xt,.slice ap np cp] 129))
 have hz1':base<=w1.heap.size:=Nat.le_trans hbase B1.out.size
 clear hg ho
 obtain⟨a,cap,hv⟩:=O1.out.one
 obtain⟨x0,x1,x2⟩:=cells3 HX1.out
 obtain⟨k0,k1,_⟩:=wk_cells G1.out
 have hfz:=fun o=>frozen_of_row w1 g o _ _ G1.out
 go_enter Tryz.func108,Tryz.ntmps108
 go_upto_region 1 with fail
 rw[<-hw1]
 clear hw1
 generalize hml:m.length=n at hv OD HEND hm ⊢
 subst hv
 have ODD:Hid (((w1.alloc (.cells #[.int .i64 xi,.string xt,.slice ap np cp] 129)).drew).ownsRow base 129 3 (.slice a n cap) n (cellsR m)):=by
  have:=OD.out
  unfold OwnR at this
  rw[hml]at this
  exact this
 have cA:(w1.alloc (.cells #[.int .i64 xi,.string xt,.slice ap np cp] 129)).cell? ⟨g,0,none⟩=some (.slice a n cap):=(wk_cells (blk_alloc G1.out _)).1
 go_region_law (refine step_append_own rfl (.tmp 10) (.tmp 12) 72 rfl base 129 i0 _ 3 48 Tryz.underlying72 hi hz0 hz1 hz2 rfl (by decide) (.slice a n cap) n _ rfl ODD.out ⟨w1.heap.size,0,none⟩ 1 1 [.int .i64 xi,.string xt,.slice ap np cp] rfl rfl (three_new w1.drew _ _ _ _) (three_one rfl rfl rfl) (by unfold maxLen;omega) (by omega) (by simp;omega) ?_;intro v8 w8 ho8 hg8;obtain⟨a8,c8,hv8⟩:=own_one ho8;subst hv8;obtain⟨G8,HE8⟩:=HEND.out w1 w8 _ _ HW1.out hbase hg8 ho8;have E8:=hideK HE8;clear ho8 hg8 HE8;obtain⟨d0,d1,_⟩:=wk_cells G8;have hf8:=fun o=>frozen_of_row w8 g o _ _ G8)
 all_goals (try go_wp2_with fail)
 all_goals (
  refine bodyPost_end (v:=.tuple #[]) (by simp[results,Tryz.results108,go_sem]) rfl ⟨rfl,?_⟩
  exact E8.out)
end Go.Proofs.YtpddanmnlkcdpaaGreatDoor.Kp


namespace Go.Proofs.YtpddanmnlkcdpaaGreatDoor.Kp
open Go.RowKit
open Gn (rd rt)
open Ls (HH hh_keep num_all text_all cells3 set3_all set_j3)
theorem rec_no {s:ByteArray} {e:Nat} (h:¬((rt s e).2.2=0/\usC (rt s e).1=0)):recR s e=none:=if_neg h
theorem rec_yes {s:ByteArray} {e:Nat} (h:(rt s e).2.2=0/\usC (rt s e).1=0):recR s e=(innerR (usT (rt s e).1)).map (fun r=>(r,(rt s e).2.1)):=if_pos h
theorem usT_size (s:ByteArray) (h:s.size<=8000):(usT s).size<=8000:=by
 unfold usT
 split
 ·exact Nat.zero_le _
 ·split
  ·exact Nat.zero_le _
  ·split
   ·rw[ByteArray.size_extract];omega
   ·exact Nat.zero_le _
theorem rt_size8 (s:ByteArray) (a:Int):(rt s a).1.size<=8000:=by
 by_cases h:(rt s a).2.2=0
 ·exact(rt_more s a h).2.2.2
 ·rw[(Gn.rt_codes s a h).1]
  exact Nat.zero_le _
theorem pathIn_drew {W:World} {v:Value} {p:List ByteArray} (h:PathIn W v p):PathIn W.drew v p:=h.keeps (fun _ _ e=>e)
def RecOut (B:Nat) (R:Option (Rec × Nat)) (r:Ending) (w':World):Prop :=
 (∃ x v,R=some x/\r=.returned (.tuple #[.agg #[.int .i64 x.1.1,.string x.1.2.1,v],.int .i64 x.2,.bool true])/\PathO B w' v x.1.2.2) ∨
 (R=none/\∃ n:Int,r=.returned (.tuple #[.agg #[.int .i64 0,.string ⟨#[]⟩,.slice none 0 0],.int .i64 n,.bool false]))
theorem readRecord_any (s:ByteArray) (e:Nat) (w:World) (hs:s.size<=1048576) (hh:HH w) :
  Calls Tryz.prog 106 #[.string s,.int .i64 e] w fun r w' =>
   RecOut w.heap.size (recR s e) r w'/\Below w.heap.size w w':=by
 have HHW:Hid (∀ W,Below w.heap.size w W->HH W):=fun W h=>hh_keep hh h
 have hs2:s.size<=maxLen:=by unfold maxLen;omega
 have H1:=hideK (fun W h=>Gn.text_impl s e W hs2 h)
 have H2:=hideK (fun W=>Se.unseal_impl (rt s e).1 W (by have:=rt_size8 s e;unfold maxLen;omega))
 have H3:=hideK (fun W h=>readInner_any (usT (rt s e).1) W (by have:=usT_size _ (rt_size8 s e);omega) h)
 rw[text_all]at H1
 simp only[unseal_all]at H2
 have HNO:=hideK (rec_no (s:=s) (e:=e))
 have HYE:=hideK (rec_yes (s:=s) (e:=e))
 change Hid (∀ W,HH W->_) at H1 H3
 generalize recR s e=R at HNO HYE ⊢
 generalize rt s e=x1 at H1 H2 H3 HNO HYE
 obtain⟨t,p1,c1⟩:=x1
 dsimp only at H1 H2 H3 HNO HYE
 generalize usC t=c2 at H2 HNO HYE
 generalize usT t=u at H2 H3 HYE
 generalize innerR u=I at H3 HYE
 clear hh
 go_enter Tryz.func106,Tryz.ntmps106
 go_wp2_with fail
 have C0:=hideK ((Cx.nil w).new (.cells #[.int .i64 0,.string ⟨#[]⟩,.slice none 0 0] 129))
 generalize w.alloc (.cells #[.int .i64 0,.string ⟨#[]⟩,.slice none 0 0] 129)=W0 at C0 ⊢
 refine(H1.out _ (HHW.out _ C0.out.low)).mono ?_
 rintro e v1 ⟨rfl,hb⟩
 have C1:=hideK ((C0.out.call hb).new (.cells #[.string t,.int .i64 p1,.int .i64 c1] 179))
 clear hb C0
 go_wp2_with fail
 generalize v1.alloc (.cells #[.string t,.int .i64 p1,.int .i64 c1] 179)=W1 at C1 ⊢
 refine(H2.out _).mono ?_
 rintro e v2 ⟨rfl,hb⟩
 have C2:=hideK ((C1.out.call hb).new (.cells #[.string u,.int .i64 0,.int .i64 c2] 179))
 clear hb C1
 go_upto_region 3 with fail
 generalize v2.alloc (.cells #[.string u,.int .i64 0,.int .i64 c2] 179)=W2 at C2 ⊢
 obtain⟨a0,a1,a2⟩:=cells3 (C2.out.get 1 rfl)
 obtain⟨b0,b1,b2⟩:=cells3 (C2.out.get 0 rfl)
 obtain⟨q0,q1,q2⟩:=cells3 (C2.out.get 2 rfl)
 have ff:=fun o=>frozen_of_row W2 w.heap.size o _ _ (C2.out.get 2 rfl)
 have s3:=set3_all (C2.out.get 2 rfl) (.int .i64 0) (.string ⟨#[]⟩) (.slice none 0 0)
 have E3:=hideK (set3_low C2.out.low (Nat.le_refl _) (.int .i64 0) (.string ⟨#[]⟩) (.slice none 0 0))
 generalize v1.heap.size=g1 at C2 a0 a1 a2 ⊢
 generalize v2.heap.size=g2 at C2 b0 b1 b2 ⊢
 by_cases h1:c1=0
 ·have h1':(c1 != 0)=false:=by simp;exact h1
  by_cases h2:c2=0
  ·have h2':(c2 != 0)=false:=by simp;exact h2
   have HY:=hideK (HYE.out ⟨h1,h2⟩)
   clear h1 h2 HNO HYE E3 s3
   go_wp2_with fail
   refine(H3.out _ (HHW.out _ C2.out.low)).mono ?_
   rintro e v3 ⟨⟨x,v,hx,rfl,ho⟩|⟨hx,rfl⟩,hb⟩
   ·obtain⟨ap,cp,rfl,_,_⟩:=ho.strs
    have C3:=hideK ((C2.out.call hb).new (.cells #[.int .i64 x.1,.string x.2.1,.slice ap x.2.2.length cp] 129))
    have O3:=hideK ((ho.mono C2.out.low.size).keeps (KeepsS.below ((Below.refl _ v3).alloc (Nat.le_refl _) (.cells #[.int .i64 x.1,.string x.2.1,.slice ap x.2.2.length cp] 129))))
    rw[hx]at HY
    clear hb C2 ho hx
    obtain⟨i,t2,p⟩:=x
    dsimp only at C3 O3 HY ⊢
    go_upto_region 6 with fail
    generalize v3.alloc (.cells #[.int .i64 i,.string t2,.slice ap p.length cp] 129)=W3 at C3 O3 ⊢
    obtain⟨d0,d1,d2⟩:=cells3 (C3.out.get 0 rfl)
    obtain⟨a0,a1,a2⟩:=cells3 (C3.out.get 2 rfl)
    obtain⟨q0,q1,q2⟩:=cells3 (C3.out.get 3 rfl)
    have ff:=fun o=>frozen_of_row W3 w.heap.size o _ _ (C3.out.get 3 rfl)
    have n1:=ty_ne (C3.out.get 3 rfl) (C3.out.get 2 rfl) (by decide)
    have n2:¬g1=w.heap.size:=fun h=>n1 h.symm
    have s3:=set3_all (C3.out.get 3 rfl) (.int .i64 i) (.string t2) (.slice ap p.length cp)
    have E3:=hideK (set3_low C3.out.low (Nat.le_refl _) (.int .i64 i) (.string t2) (.slice ap p.length cp)).drew
    have O4:Hid (PathO w.heap.size (((W3.setCell ⟨w.heap.size,0,none⟩ (.int .i64 i)).setCell ⟨w.heap.size,1,none⟩ (.string t2)).setCell ⟨w.heap.size,2,none⟩ (.slice ap p.length cp)).drew (.slice ap p.length cp) p):=PathO.drew (PathO.keeps O3.out (KeepsS.set3 (C3.out.get 3 rfl) (by decide) _ _ _))
    go_region
    all_goals (
     go_wp2_with fail
     exact bodyPost_ret (v:=.tuple #[.agg #[.int .i64 i,.string t2,.slice ap p.length cp],.int .i64 p1,.bool true]) (by simp[results,Tryz.results106,go_sem,s3.1,s3.2.1,s3.2.2]) rfl ⟨.inl ⟨((i,t2,p),p1),_,HY.out,rfl,O4.out⟩,E3.out⟩)
   ·have C3:=hideK ((C2.out.call hb).new (.cells #[.int .i64 0,.string ⟨#[]⟩,.slice none 0 0] 129))
    rw[hx]at HY
    clear hb C2 hx
    go_upto_region 6 with fail
    generalize v3.alloc (.cells #[.int .i64 0,.string ⟨#[]⟩,.slice none 0 0] 129)=W3 at C3 ⊢
    obtain⟨d0,d1,d2⟩:=cells3 (C3.out.get 0 rfl)
    obtain⟨a0,a1,a2⟩:=cells3 (C3.out.get 2 rfl)
    obtain⟨q0,q1,q2⟩:=cells3 (C3.out.get 3 rfl)
    have ff:=fun o=>frozen_of_row W3 w.heap.size o _ _ (C3.out.get 3 rfl)
    have n1:=ty_ne (C3.out.get 3 rfl) (C3.out.get 2 rfl) (by decide)
    have n2:¬g1=w.heap.size:=fun h=>n1 h.symm
    have s3:=set3_all (C3.out.get 3 rfl) (.int .i64 0) (.string ⟨#[]⟩) (.slice none 0 0)
    have E3:=hideK (set3_low C3.out.low (Nat.le_refl _) (.int .i64 0) (.string ⟨#[]⟩) (.slice none 0 0)).drew
    go_region
    all_goals (
     go_wp2_with fail
     exact bodyPost_ret (v:=.tuple #[.agg #[.int .i64 0,.string ⟨#[]⟩,.slice none 0 0],.int .i64 p1,.bool false]) (by simp[results,Tryz.results106,go_sem,s3.1,s3.2.1,s3.2.2]) rfl ⟨.inr ⟨HY.out,p1,rfl⟩,E3.out⟩)
  ·have h2':(c2 != 0)=true:=by simp;exact h2
   have HX:=hideK (HNO.out (fun h=>h2 h.2))
   go_wp2_with fail
   exact bodyPost_ret (v:=.tuple #[.agg #[.int .i64 0,.string ⟨#[]⟩,.slice none 0 0],.int .i64 0,.bool false]) (by simp[results,Tryz.results106,go_sem,s3.1,s3.2.1,s3.2.2]) rfl ⟨.inr ⟨HX.out,0,rfl⟩,E3.out⟩
 ·have h1':(c1 != 0)=true:=by simp;exact h1
  have HX:=hideK (HNO.out (fun h=>h1 h.1))
  go_wp2_with fail
  exact bodyPost_ret (v:=.tuple #[.agg #[.int .i64 0,.string ⟨#[]⟩,.slice none 0 0],.int .i64 0,.bool false]) (by simp[results,Tryz.results106,go_sem,s3.1,s3.2.1,s3.2.2]) rfl ⟨.inr ⟨HX.out,0,rfl⟩,E3.out⟩
end Go.Proofs.YtpddanmnlkcdpaaGreatDoor.Kp


namespace Go.Proofs.YtpddanmnlkcdpaaGreatDoor.St
open Go.RowKit
def dg (k:Nat) (o:ByteArray):ByteArray:=if _h:k=0 then o else dg (k/10) (⟨#[UInt8.ofNat (48+k%10)]⟩++o)
termination_by k
decreasing_by omega
theorem dg_zero (o:ByteArray):dg 0 o=o:=by rw[dg,dif_pos rfl]
theorem dg_more (k:Nat) (o:ByteArray) (h:k≠0):dg k o=dg (k/10) (⟨#[UInt8.ofNat (48+k%10)]⟩++o):=by rw[dg,dif_neg h]
def markT (k:Nat):ByteArray:=⟨#[109]⟩++dg k ⟨#[]⟩
theorem one_str (W:World) (y:Nat) (h:y<256):(convert 168 9 (.slice (some ⟨W.heap.size,0,none⟩) 1 1)).run Tryz.prog (W.alloc (.cells #[.int .u8 (y:Int)] 5))=.ok (.string ⟨#[UInt8.ofNat y]⟩) (W.alloc (.cells #[.int .u8 (y:Int)] 5)):=by
 refine run_convert_bytes_back (P:=Tryz.prog) (W.alloc (.cells #[.int .u8 (y:Int)] 5)) 168 9 5 ⟨W.heap.size,0,none⟩ 1 [UInt8.ofNat y] Tryz.underlying168 Tryz.underlying5 Tryz.underlying9 ?_
 intro j hj
 match j,hj with
 |0,_ =>
  simp[Addr.add]
  omega
theorem markT_any (k:Nat) (w:World) (h0:0<k) (hk:k<=1099511627776) :
  Calls Tryz.prog 81 #[.int .i64 k] w fun e w'=>e=.returned (.string (markT k))/\Below w.heap.size w w':=by
 go_enter Tryz.func81,Tryz.ntmps81
 go_wp2_with fail
 go_loopw [0,3] (fun kv ov wr=>∃ (j:Nat) (o:ByteArray),kv=.int .i64 j/\ov=.string o/\dg j o=dg k ⟨#[]⟩/\o.size+j<=k/\Below w.heap.size w wr) (fun kv _ _=>(intOf kv).toNat)
 case atStart=>exact⟨k,⟨#[]⟩,rfl,rfl,rfl,by simp[ByteArray.size],Below.refl _ _⟩
 case round =>
  obtain⟨j,o,rfl,rfl,hd,hsz,hbel⟩:=hrel
  have HD:=hideT hd
  have HB:=hideT hbel
  have hsz':=hbel.size
  clear hd hbel
  by_cases hj:j=0
  ·subst hj
   have HE:Hid ((⟨#[109]⟩:ByteArray)++o=markT k):=by
    unfold Hid markT
    rw[<-HD.out,dg_zero]
   go_wp2_with fail
   go_ret
   exact⟨Nu.ret_strJ HE.out,HB.out⟩
  ·have g0:0<(j:Int):=by omega
   have hy:48+j%10<256:=by omega
   have e1:IntKind.u8.wrap (48+(j:Int)%10)=((48+j%10:Nat):Int):=by
    simp[IntKind.wrap,IntKind.bits,IntKind.signed]
    omega
   have hconv:=one_str wr (48+j%10) hy
   rw[show ((48+j%10:Nat):Int)=48+(j:Int)%10 by omega]at hconv
   have hm:=dg_more j o hj
   generalize UInt8.ofNat (48+j%10)=y at hconv hm
   have HM:=hideT hm
   have hs1:(⟨#[y]⟩:ByteArray).size=1:=rfl
   clear hm
   go_wp2_with fail
   go_roundw
   case rel =>
    refine⟨j/10,_,by go_num,rfl,by rw[<-HM.out];exact HD.out,?_,HB.out.alloc hsz' _⟩
    rw[ByteArray.size_append,hs1]
    omega
   case measure=>simp[intOf];omega
def marks (k n:Nat):List ByteArray:=(List.range n).map fun j=>markT (k+j)
def mmid (l:List ByteArray) (k i:Nat):List ByteArray:=marks k i++l.drop i
end Go.Proofs.YtpddanmnlkcdpaaGreatDoor.St

