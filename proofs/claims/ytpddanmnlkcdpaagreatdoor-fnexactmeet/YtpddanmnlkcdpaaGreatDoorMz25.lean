/- Texts put together: LsReadW, KpRow, KpPut, KpInner, KpFind, ShaAllA. -/
import Derived.Test.YtpddanmnlkcdpaaGreatDoorMz24
import Derived.Test.YtpddanmnlkcdpaaGreatDoorMz28
import Derived.Laws.OwnMore
import Derived.Test.YtpddanmnlkcdpaaGreatDoorMz29
import Derived.BigRegion
set_option maxRecDepth 100000
set_option maxHeartbeats 8000000
/- The walks of ListRead. -/
namespace Go.Proofs.YtpddanmnlkcdpaaGreatDoor.Ls
open Go.RowKit
open Gn (rd getV handle rt textV handle_below handle_alloc)
def HH (w:World):Prop:=w.cell? ⟨1,0,none⟩=some handle
theorem hh_keep {w w':World} (h:HH w) (hb:Below w.heap.size w w'):HH w':=handle_below hb h
end Go.Proofs.YtpddanmnlkcdpaaGreatDoor.Ls


/- What is kept: the blocks that a walk has laid, and rows of records in memory. -/
namespace Go.Proofs.YtpddanmnlkcdpaaGreatDoor.Kp
open Go.RowKit
open St (IsO OwnS Strs)
open Ls (blkL lowL blk_alloc cells3)
abbrev MR:=Rec × Value
def recV (x:MR):Value:=.agg #[.int .i64 x.1.1,.string x.1.2.1,x.2]
def recZ:Value:=.agg #[.int .i64 0,.string ⟨#[]⟩,.slice none 0 0]
def cellsR:List MR->List Value
 |[]=>[]
 |x :: m=>.int .i64 x.1.1 :: .string x.1.2.1 :: x.2 :: cellsR m
theorem cellsR_append:∀ m k:List MR,cellsR (m++k)=cellsR m++cellsR k
 |[],k=>rfl
 |x :: m,k=>by
  rw[List.cons_append,cellsR,cellsR,cellsR_append m k]
  rfl
theorem cellsR_at:∀ (m:List MR) (i:Nat) (h:i<m.length),(cellsR m)[i*3]? = some (.int .i64 m[i].1.1)/\(cellsR m)[i*3+1]? = some (.string m[i].1.2.1)/\(cellsR m)[i*3+2]? = some m[i].2
 |x :: m,0,_=>⟨rfl,rfl,rfl⟩
 |x :: m,i+1,h=>by
  have:=cellsR_at m i (Nat.lt_of_succ_lt_succ h)
  rw[cellsR,show (i+1)*3=i*3+3 by omega,show i*3+3+1=(i*3+1)+3 by omega,show i*3+3+2=(i*3+2)+3 by omega]
  exact this
def KeepsS (W W':World):Prop:=∀ (g:Nat) (cur:Array Value),W.heap[g]? = some (.cells cur 9 (0,0))->W'.heap[g]? = some (.cells cur 9 (0,0))
theorem KeepsS.refl (W:World):KeepsS W W:=fun _ _ h=>h
theorem KeepsS.trans {W W' W'':World} (h:KeepsS W W') (k:KeepsS W' W''):KeepsS W W'':=fun g cur e=>k g cur (h g cur e)
theorem KeepsS.below {W W':World} (h:Below W.heap.size W W'):KeepsS W W':=fun g _ e=>(h.block g (lt_rowK e)).trans e
theorem KeepsS.set {W:World} {g:Nat} {cs:Array Value} {e:TypeId} (hg:W.heap[g]? = some (.cells cs e (0,0))) (he:e≠9) (i:Nat) (v:Value):KeepsS W (W.setCell ⟨g,i,none⟩ v):=fun k cur h=>by
 rw[heap_setCell_other W _ k v (by
  rintro rfl
  rw[hg]at h
  simp at h
  exact he h.2)]
 exact h
theorem KeepsS.grown {W W':World} {row:Option Nat} (h:W.grownBy W' row) (hr:∀ k,row=some k->∃ cs t,W.heap[k]? = some (.cells cs t (0,0))/\t≠9):KeepsS W W':=fun g cur e=>by
 rw[h.block g (lt_rowK e) (by
  intro hg
  obtain⟨cs,t,hk,ht⟩:=hr g hg.symm
  rw[hk]at e
  simp at e
  exact ht e.2)]
 exact e
def PathIn (W:World) (v:Value) (p:List ByteArray):Prop :=
 (v=.slice none 0 0/\p=[])∨∃ g cap,v=.slice (some ⟨g,0,none⟩) p.length cap/\p.length<=cap/\IsO W g 9 p
theorem PathIn.keeps {W W':World} {v:Value} {p:List ByteArray} (h:PathIn W v p) (k:KeepsS W W'):PathIn W' v p:=by
 rcases h with h|⟨g,cap,hv,hc,cur,hg,hj⟩
 ·exact .inl h
 ·exact .inr ⟨g,cap,hv,hc,cur,k g cur hg,hj⟩
theorem pathIn_own {W:World} {base:Nat} {v:Value} {p:List ByteArray} (h:OwnS W base v p):PathIn W v p:=by
 rcases h.split with h|⟨g,cap,hv,_,hc,ho⟩
 ·exact .inl h
 ·exact .inr ⟨g,cap,hv,hc,ho⟩
theorem PathIn.one {W:World} {v:Value} {p:List ByteArray} (h:PathIn W v p):v.oneCell'=true:=by
 rcases h with⟨rfl,_⟩|⟨g,cap,rfl,_⟩
 ·rfl
 ·rfl
theorem PathIn.strs {W:World} {v:Value} {p:List ByteArray} (h:PathIn W v p):∃ a cap,v=.slice a p.length cap/\p.length<=cap/\Strs W W.heap.size a p:=by
 rcases h with⟨rfl,rfl⟩|⟨g,cap,rfl,hc,ho⟩
 ·exact⟨none,0,rfl,Nat.le_refl _,.inl rfl⟩
 ·exact⟨_,cap,rfl,hc,ho.strs ho.lt⟩
def OwnR (W:World) (base:Nat) (v:Value) (m:List MR):Prop:=W.ownsRow base 129 3 v m.length (cellsR m)
def Paths (W:World) (m:List MR):Prop:=∀ x∈m,PathIn W x.2 x.1.2.2
theorem Paths.keeps {W W':World} {m:List MR} (h:Paths W m) (k:KeepsS W W'):Paths W' m:=fun x hx=>(h x hx).keeps k
theorem OwnR.nil (w:World) (base:Nat):OwnR w base (.slice none 0 0) []:=World.ownsRow_nil w base _ _
theorem OwnR.alloc {W:World} {base:Nat} {v:Value} {m:List MR} (h:OwnR W base v m) (o:Obj):OwnR (W.alloc o) base v m:=World.ownsRow.alloc h o
theorem OwnR.below {w w':World} {base:Nat} {v:Value} {m:List MR} (h:OwnR w base v m) (b:Below w.heap.size w w'):OwnR w' base v m:=by
 obtain⟨hl,h⟩:=h
 refine⟨hl,?_⟩
 rcases h with h|⟨g,cap,cur,hv,hg,hb,rest⟩
 ·exact .inl h
 ·exact .inr ⟨g,cap,cur,hv,hg,by rw[b.block g (lt_rowK hb)];exact hb,rest⟩
theorem OwnR.mono {w:World} {base base':Nat} {v:Value} {m:List MR} (h:OwnR w base v m) (hb:base'<=base):OwnR w base' v m:=by
 obtain⟨hl,h⟩:=h
 refine⟨hl,?_⟩
 rcases h with h|⟨g,cap,cur,hv,hg,rest⟩
 ·exact .inl h
 ·exact .inr ⟨g,cap,cur,hv,Nat.le_trans hb hg,rest⟩
theorem OwnR.one {W:World} {base:Nat} {v:Value} {m:List MR} (h:OwnR W base v m):∃ a cap,v=.slice a m.length cap:=by
 obtain⟨_,h⟩:=h
 rcases h with⟨h,h0⟩|⟨g,cap,cur,hv,_⟩
 ·exact⟨none,0,by rw[h,h0]⟩
 ·exact⟨_,cap,hv⟩
theorem OwnR.cells {W:World} {base:Nat} {v:Value} {m:List MR} (h:OwnR W base v m) (h0:0<m.length):∃ g cap,v=.slice (some ⟨g,0,none⟩) m.length cap/\base<=g/\g<W.heap.size/\m.length<=cap /\
  ∀ i (hi:i<m.length),W.cell? ⟨g,i*3,none⟩=some (.int .i64 m[i].1.1)/\W.cell? ⟨g,i*3+1,none⟩=some (.string m[i].1.2.1)/\W.cell? ⟨g,i*3+2,none⟩=some m[i].2:=by
 obtain⟨_,h⟩:=h
 rcases h with⟨_,h⟩|⟨g,cap,cur,hv,hg,hb,hn,_,hs,ht⟩
 ·omega
 ·refine⟨g,cap,hv,hg,lt_rowK hb,hn,fun i hi=>?_⟩
  have hc:=cellsR_at m i hi
  rw[<-ht]at hc
  rw[List.getElem?_take_of_lt (by omega),List.getElem?_take_of_lt (by omega),List.getElem?_take_of_lt (by omega),Array.getElem?_toList,Array.getElem?_toList,Array.getElem?_toList]at hc
  exact⟨(cell_of_row W g _ _ _ _ hb).trans hc.1,(cell_of_row W g _ _ _ _ hb).trans hc.2.1,(cell_of_row W g _ _ _ _ hb).trans hc.2.2⟩
theorem OwnR.rowT {W:World} {base:Nat} {v:Value} {m:List MR} (h:OwnR W base v m):∀ k,v.ownBlock=some k->∃ cs,W.heap[k]? = some (.cells cs 129 (0,0)):=by
 intro k hk
 obtain⟨_,h⟩:=h
 rcases h with⟨h,_⟩|⟨g,cap,cur,hv,_,hb,_⟩
 ·subst h
  simp[Value.ownBlock]at hk
 ·subst hv
  simp[Value.ownBlock]at hk
  subst hk
  exact⟨cur,hb⟩
theorem OwnR.snoc {W:World} {base:Nat} {v:Value} {m:List MR} {x:MR} (h:W.ownsRow base 129 3 v (m.length+1) (cellsR m++[.int .i64 x.1.1,.string x.1.2.1,x.2])):OwnR W base v (m++[x]):=by
 unfold OwnR
 rw[List.length_append,cellsR_append]
 exact h
theorem three_new (W:World) (x y z:Value) (t:TypeId):∀ (j:Nat) (u:Value),[x,y,z][j]? = some u->(W.alloc (.cells #[x,y,z] t)).cell? ((⟨W.heap.size,0,none⟩:Addr).add j)=some u:=by
 intro j u hj
 match j,hj with
 |0,hj=>simp at hj;subst hj;simp[Addr.add]
 |1,hj=>simp at hj;subst hj;simp[Addr.add]
 |2,hj=>simp at hj;subst hj;simp[Addr.add]
theorem three_one {x y z:Value} (hx:x.oneCell'=true) (hy:y.oneCell'=true) (hz:z.oneCell'=true):∀ u∈[x,y,z],u.oneCell'=true:=by
 intro u hu
 simp at hu
 rcases hu with rfl|rfl|rfl
 ·exact hx
 ·exact hy
 ·exact hz
def recs (m:List MR):List Rec:=m.map (·.1)
theorem recs_length (m:List MR):(recs m).length=m.length:=List.length_map ..
theorem hasR_recs (m:List MR) (i:Int):hasR (recs m) i=m.any fun x=>x.1.1==i:=by
 unfold hasR recs
 rw[List.any_map]
 rfl
end Go.Proofs.YtpddanmnlkcdpaaGreatDoor.Kp


namespace Go.Proofs.YtpddanmnlkcdpaaGreatDoor.Kp
open Go.RowKit
open Ls (cells3 set3_all blk_alloc)
open Sh (step_append_own)
theorem Tryz.infoRecord:(Tryz.prog.info? 129).map (fun i=>(i.zero,i.size,i.bytes))=some (some (.agg #[.int .i64 0,.string ⟨#[]⟩,.slice none 0 0]),3,48):=by kernel_rfl
def wkB (v:Value) (e:Int) (z b:Int) (r s:ByteArray) (y:Int):Obj:=.cells #[v,.int .i64 e,.int .i64 z,.int .i64 b,.string r,.string s,.int .i64 y] 76
theorem wk_set0 {W:World} {g:Nat} {v:Value} {e z b:Int} {r s:ByteArray} {y:Int} (h:W.heap[g]? = some (wkB v e z b r s y)) (u:Value):(W.setCell ⟨g,0,none⟩ u).heap[g]? = some (wkB u e z b r s y):=by
 unfold wkB at h ⊢
 rw[heap_setCell_same W g 0 _ _ u h]
 rfl
theorem wk_set1 {W:World} {g:Nat} {v:Value} {e z b:Int} {r s:ByteArray} {y:Int} (h:W.heap[g]? = some (wkB v e z b r s y)) (f:Int):(W.setCell ⟨g,1,none⟩ (.int .i64 f)).heap[g]? = some (wkB v f z b r s y):=by
 unfold wkB at h ⊢
 rw[heap_setCell_same W g 1 _ _ _ h]
 rfl
theorem wk_cells {W:World} {g:Nat} {v:Value} {e z b:Int} {r s:ByteArray} {y:Int} (h:W.heap[g]? = some (wkB v e z b r s y)):W.cell? ⟨g,0,none⟩=some v/\W.cell? ⟨g,1,none⟩=some (.int .i64 e)/\W.cell? ⟨g,2,none⟩=some (.int .i64 z)/\W.cell? ⟨g,3,none⟩=some (.int .i64 b)/\W.cell? ⟨g,4,none⟩=some (.string r)/\W.cell? ⟨g,5,none⟩=some (.string s)/\W.cell? ⟨g,6,none⟩=some (.int .i64 y) :=
 ⟨cell_of_row W g 0 _ _ _ h,cell_of_row W g 1 _ _ _ h,cell_of_row W g 2 _ _ _ h,cell_of_row W g 3 _ _ _ h,cell_of_row W g 4 _ _ _ h,cell_of_row W g 5 _ _ _ h,cell_of_row W g 6 _ _ _ h⟩
theorem OwnR.set {W:World} {base g:Nat} {v:Value} {m:List MR} {cs:Array Value} {T:TypeId} (h:OwnR W base v m) (hg:W.heap[g]? = some (.cells cs T (0,0))) (hT:T≠129) (i:Nat) (u:Value):OwnR (W.setCell ⟨g,i,none⟩ u) base v m:=by
 obtain⟨hl,h⟩:=h
 refine⟨hl,?_⟩
 rcases h with h|⟨k,cap,cur,hv,hk,hb,rest⟩
 ·exact .inl h
 ·refine .inr ⟨k,cap,cur,hv,hk,?_,rest⟩
  rw[heap_setCell_other W _ k u (by
   rintro rfl
   rw[hg]at hb
   simp at hb
   exact hT hb.2)]
  exact hb
theorem own_one {W:World} {base size n:Nat} {e:TypeId} {v:Value} {xs:List Value} (h:W.ownsRow base e size v n xs):∃ a cap,v=.slice a n cap:=by
 obtain⟨_,h⟩:=h
 rcases h with⟨h,h0⟩|⟨g,cap,cur,hv,_⟩
 ·exact⟨none,0,by rw[h,h0]⟩
 ·exact⟨_,cap,hv⟩
theorem own_drewA {W:World} {base:Nat} {v:Value} {m:List MR} (h:OwnR W base v m) (o:Obj):OwnR (W.drew.alloc o) base v m:=(h.below (show Below W.heap.size W W.drew from (Below.refl _ _).drew)).alloc o
theorem grown_blk {W W':World} {row:Option Nat} {g:Nat} {o:Obj} (h:W.grownBy W' row) (hg:W.heap[g]? = some o) (hr:row≠some g):W'.heap[g]? = some o:=(h.block g (lt_rowK hg) (fun e=>hr e.symm)).trans hg
theorem own_not {W:World} {base g:Nat} {v:Value} {m:List MR} {cs:Array Value} {T:TypeId} (h:OwnR W base v m) (hg:W.heap[g]? = some (.cells cs T (0,0))) (hT:T≠129):v.ownBlock≠some g:=fun e=>by
 obtain⟨cs',hk⟩:=h.rowT g e
 rw[hg]at hk
 simp at hk
 exact hT hk.2
theorem put_end {w w1 w8:World} {o:Obj} {g base:Nat} {x:MR} {e e0 z b:Int} {r s:ByteArray} {y:Int} {v v8:Value} {m:List MR} (hg:w.heap[g]? = some (wkB v e0 z b r s y)) (ho:OwnR w base v m) (hw1:∃ q,w1=w.alloc q) (hbase:base<=w.heap.size)
  (hg8:(w1.drew.alloc o).grownBy w8 v.ownBlock) (ho8:w8.ownsRow base 129 3 v8 (m.length+1) (cellsR m++[.int .i64 x.1.1,.string x.1.2.1,x.2])) :
  w8.heap[g]? = some (wkB v e0 z b r s y)/\∃ v',((w8.setCell ⟨g,0,none⟩ v8).setCell ⟨g,1,none⟩ (.int .i64 e)).heap[g]? = some (wkB v' e z b r s y)/\OwnR ((w8.setCell ⟨g,0,none⟩ v8).setCell ⟨g,1,none⟩ (.int .i64 e)) base v' (m++[x])/\KeepsS w ((w8.setCell ⟨g,0,none⟩ v8).setCell ⟨g,1,none⟩ (.int .i64 e)) /\
    (∀ k o,w.heap[k]? = some o->k≠g->v.ownBlock≠some k->((w8.setCell ⟨g,0,none⟩ v8).setCell ⟨g,1,none⟩ (.int .i64 e)).heap[k]? = some o)/\(∀ B,B<=base->B<=g->Below B w ((w8.setCell ⟨g,0,none⟩ v8).setCell ⟨g,1,none⟩ (.int .i64 e))):=by
 obtain⟨q,rfl⟩:=hw1
 have hT1:(76:Nat)≠129:=by decide
 have hT2:(76:Nat)≠9:=by decide
 have hT3:(129:Nat)≠9:=by decide
 have hne:v.ownBlock≠some g:=own_not ho hg hT1
 have up:∀ k u,w.heap[k]? = some u->((w.alloc q).drew.alloc o).heap[k]? = some u:=fun k u h=>blk_alloc (W:=(w.alloc q).drew) (blk_alloc h q) o
 have h8:w8.heap[g]? = some (wkB v e0 z b r s y):=grown_blk hg8 (up g _ hg) hne
 have o8:OwnR w8 base v8 (m++[x]):=OwnR.snoc ho8
 have h80:=wk_set0 h8 v8
 have hbl:Below w.heap.size w ((w.alloc q).drew.alloc o):=(((Below.refl _ w).alloc (Nat.le_refl _) q).drew).alloc (by simp) o
 refine⟨h8,v8,wk_set1 h80 e,(o8.set h8 hT1 0 v8).set h80 hT1 1 _,?_,?_,?_⟩
 ·refine((KeepsS.below hbl).trans (KeepsS.grown hg8 ?_)).trans ((KeepsS.set h8 hT2 0 v8).trans (KeepsS.set h80 hT2 1 _))
  intro k hk
  obtain⟨cs,hc⟩:=ho.rowT k hk
  exact⟨cs,_,up k _ hc,hT3⟩
 ·intro k u hk hkg hkv
  rw[heap_setCell_other _ _ k _ (by exact hkg),heap_setCell_other _ _ k _ (by exact hkg)]
  exact grown_blk hg8 (up k _ hk) hkv
 ·intro B hB hBg
  have hBs:B<=w.heap.size:=by have:=lt_rowK hg;omega
  refine((((((Below.refl B w).alloc hBs q).drew).alloc (by simp;omega) o).grown hg8 (by simp;omega) ?_).setCell (p:=⟨g,0,none⟩) hBg v8).setCell (p:=⟨g,1,none⟩) hBg _
  intro k hk
  exact Nat.le_trans hB (World.ownsRow.lt ho k hk).1
theorem put_any (g base n:Nat) (x:MR) (e e0 z b:Int) (r s:ByteArray) (y:Int) (v:Value) (m:List MR) (w:World) (hg:w.heap[g]? = some (wkB v e0 z b r s y)) (ho:OwnR w base v m) (hbase:base<=w.heap.size) (hn:m.length=n) (hm:n<=1048576) (hx:∃ a n cap,x.2=.slice a n cap) :
  Calls Tryz.prog 108 #[.pointer (some ⟨g,0,none⟩),.agg #[.int .i64 x.1.1,.string x.1.2.1,x.2],.int .i64 e] w fun q w' =>
   q=.returned (.tuple #[])/\∃ v',w'.heap[g]? = some (wkB v' e z b r s y)/\OwnR w' base v' (m++[x])/\KeepsS w w' /\
    (∀ k o,w.heap[k]? = some o->k≠g->v.ownBlock≠some k->w'.heap[k]? = some o)/\(∀ B,B<=base->B<=g->Below B w w'):=by
 obtain⟨i0,hi,hz0,hz1,hz2⟩:=info_parts Tryz.infoRecord
 have HEND:=hideK (fun w1 w8 o v8=>put_end (w:=w) (w1:=w1) (w8:=w8) (o:=o) (x:=x) (e:=e) (v8:=v8) hg ho)
 obtain⟨⟨xi,xt,xp⟩,xv⟩:=x
 obtain⟨ap,np,cp,hxv⟩:=hx
 dsimp only at hxv HEND ⊢
 subst hxv
 subst hn
 obtain⟨w1,hw1⟩:∃ w1,w1=w.alloc (.cells #[.int .i64 xi,.string xt,.slice ap np cp] 129):=⟨_,rfl⟩
 have HX1:Hid (w1.heap[w.heap.size]? = some (.cells #[.int .i64 xi,.string xt,.slice ap np cp] 129 (0,0))):=by rw[hw1];exact heap_alloc_new w _
 have B1:Hid (Below w.heap.size w w1):=by rw[hw1];exact(Below.refl _ _).alloc (Nat.le_refl _) _
 have G1:Hid (w1.heap[g]? = some (wkB v e0 z b r s y)):=by rw[hw1];exact blk_alloc hg _
 have O1:Hid (OwnR w1 base v m):=by rw[hw1];exact ho.alloc _
 have HW1:Hid (∃ q,w1=w.alloc q):=⟨_,hw1⟩
 have OD:=hideK (own_drewA O1.out (.cells #[.int .i64 xi,.string xt,.slice ap np cp] 129))
 have hz1':base<=w1.heap.size:=Nat.le_trans hbase B1.out.size
 clear hg ho
 obtain⟨a,cap,hv⟩:=O1.out.one
 obtain⟨x0,x1,x2⟩:=cells3 HX1.out
 obtain⟨k0,k1,_⟩:=wk_cells G1.out
 have hfz:=fun o=>frozen_of_row w1 g o _ _ G1.out
 go_enter Tryz.func108,Tryz.ntmps108
 go_upto_region 1 with fail
 rw[<-hw1]
 clear hw1
 generalize hml:m.length=n at hv OD HEND hm ⊢
 subst hv
 have ODD:Hid (((w1.alloc (.cells #[.int .i64 xi,.string xt,.slice ap np cp] 129)).drew).ownsRow base 129 3 (.slice a n cap) n (cellsR m)):=by
  have:=OD.out
  unfold OwnR at this
  rw[hml]at this
  exact this
 have cA:(w1.alloc (.cells #[.int .i64 xi,.string xt,.slice ap np cp] 129)).cell? ⟨g,0,none⟩=some (.slice a n cap):=(wk_cells (blk_alloc G1.out _)).1
 go_region_law (refine step_append_own rfl (.tmp 10) (.tmp 12) 72 rfl base 129 i0 _ 3 48 Tryz.underlying72 hi hz0 hz1 hz2 rfl (by decide) (.slice a n cap) n _ rfl ODD.out ⟨w1.heap.size,0,none⟩ 1 1 [.int .i64 xi,.string xt,.slice ap np cp] rfl rfl (three_new w1.drew _ _ _ _) (three_one rfl rfl rfl) (by unfold maxLen;omega) (by omega) (by simp;omega) ?_;intro v8 w8 ho8 hg8;obtain⟨a8,c8,hv8⟩:=own_one ho8;subst hv8;obtain⟨G8,HE8⟩:=HEND.out w1 w8 _ _ HW1.out hbase hg8 ho8;have E8:=hideK HE8;clear ho8 hg8 HE8;obtain⟨d0,d1,_⟩:=wk_cells G8;have hf8:=fun o=>frozen_of_row w8 g o _ _ G8)
 all_goals (try go_wp2_with fail)
 all_goals (
  refine bodyPost_end (v:=.tuple #[]) (by simp[results,Tryz.results108,go_sem]) rfl ⟨rfl,?_⟩
  exact E8.out)
end Go.Proofs.YtpddanmnlkcdpaaGreatDoor.Kp


namespace Go.Proofs.YtpddanmnlkcdpaaGreatDoor.Kp
open Go.RowKit
open Gn (rd rt handle_below)
open St (OwnS)
open Ls (HH hh_keep num_all text_all cells3 set3_all set_j3)
theorem KeepsS.set3 {W:World} {g:Nat} {x y z:Value} {T:TypeId} (hg:W.heap[g]? = some (.cells #[x,y,z] T (0,0))) (hT:T≠9) (a b c:Value):KeepsS W (((W.setCell ⟨g,0,none⟩ a).setCell ⟨g,1,none⟩ b).setCell ⟨g,2,none⟩ c) :=
 ((KeepsS.set hg hT 0 a).trans (KeepsS.set (set_j3 hg a).1 hT 1 b)).trans (KeepsS.set (set_j3 (set_j3 hg a).1 b).2.1 hT 2 c)
theorem inner_no {s:ByteArray} (h:¬innerOk s):innerR s=none:=if_neg h
theorem inner_path {s:ByteArray} (h:innerOk s) (hp:pathR s (rd s (rt s (rd s 0).2.1).2.1).1.toNat (rd s (rt s (rd s 0).2.1).2.1).2.1 []=none):innerR s=none:=by
 unfold innerR
 rw[if_pos h,hp]
theorem inner_yes {s:ByteArray} {q:List ByteArray × Nat} (h:innerOk s) (hp:pathR s (rd s (rt s (rd s 0).2.1).2.1).1.toNat (rd s (rt s (rd s 0).2.1).2.1).2.1 []=some q):innerR s=if q.2=s.size then some ((rd s 0).1,(rt s (rd s 0).2.1).1,q.1) else none:=by
 unfold innerR
 rw[if_pos h,hp]
theorem readInner_any (s:ByteArray) (w:World) (hs:s.size<=1048576) (hh:HH w) :
  Calls Tryz.prog 137 #[.string s] w fun r w' =>
   ((∃ x v,innerR s=some x/\r=.returned (.tuple #[.agg #[.int .i64 x.1,.string x.2.1,v],.bool true])/\PathIn w' v x.2.2) ∨
   (innerR s=none/\r=.returned (.tuple #[.agg #[.int .i64 0,.string ⟨#[]⟩,.slice none 0 0],.bool false])))/\Below w.heap.size w w':=by
 have HHW:Hid (∀ W,Below w.heap.size w W->HH W):=fun W h=>hh_keep hh h
 have hs2:s.size<=maxLen:=by unfold maxLen;omega
 have H1:=hideK (fun W h=>Gn.get_impl s 0 W hs2 h)
 have H2:=hideK (fun W h=>Gn.text_impl s (rd s 0).2.1 W hs2 h)
 have H3:=hideK (fun W h=>Gn.get_impl s (rt s (rd s 0).2.1).2.1 W hs2 h)
 have HP:=hideK (fun n W hn=>readPath_any s (rd s (rt s (rd s 0).2.1).2.1).2.1 n W hs2 hn)
 rw[num_all]at H1 H3
 rw[text_all]at H2
 have HNO:=hideK (inner_no (s:=s))
 have HPA:=hideK (inner_path (s:=s))
 have HYE:=hideK (fun q=>inner_yes (s:=s) (q:=q))
 change Hid (∀ W,HH W->_) at H1 H2 H3
 unfold innerOk at HNO HPA HYE
 generalize innerR s=R at HNO HPA HYE ⊢
 generalize rd s (rt s (rd s 0).2.1).2.1=x3 at H3 HP HNO HPA HYE
 generalize rt s (rd s 0).2.1=x2 at H2 H3 HNO HPA HYE
 generalize rd s 0=x1 at H1 H2 HNO HPA HYE
 obtain⟨i,p1,c1⟩:=x1
 obtain⟨t,p2,c2⟩:=x2
 obtain⟨n,p3,c3⟩:=x3
 dsimp only at H1 H2 H3 HP HNO HPA HYE
 clear hh
 go_enter Tryz.func137,Tryz.ntmps137
 go_wp2_with fail
 have C0:=hideK ((Cx.nil w).new (.cells #[.int .i64 0,.string ⟨#[]⟩,.slice none 0 0] 129))
 generalize w.alloc (.cells #[.int .i64 0,.string ⟨#[]⟩,.slice none 0 0] 129)=W0 at C0 ⊢
 refine(H1.out _ (HHW.out _ C0.out.low)).mono ?_
 rintro e v1 ⟨rfl,hb⟩
 have C1:=hideK ((C0.out.call hb).new (.cells #[.int .i64 i,.int .i64 p1,.int .i64 c1] 183))
 clear hb C0
 go_wp2_with fail
 generalize v1.alloc (.cells #[.int .i64 i,.int .i64 p1,.int .i64 c1] 183)=W1 at C1 ⊢
 refine(H2.out _ (HHW.out _ C1.out.low)).mono ?_
 rintro e v2 ⟨rfl,hb⟩
 have C2:=hideK ((C1.out.call hb).new (.cells #[.string t,.int .i64 p2,.int .i64 c2] 179))
 clear hb C1
 go_wp2_with fail
 generalize v2.alloc (.cells #[.string t,.int .i64 p2,.int .i64 c2] 179)=W2 at C2 ⊢
 refine(H3.out _ (HHW.out _ C2.out.low)).mono ?_
 rintro e v3 ⟨rfl,hb⟩
 have C3:=hideK ((C2.out.call hb).new (.cells #[.int .i64 n,.int .i64 p3,.int .i64 c3] 183))
 clear hb C2
 go_upto_region 4 with fail
 generalize v3.alloc (.cells #[.int .i64 n,.int .i64 p3,.int .i64 c3] 183)=W3 at C3 ⊢
 obtain⟨a0,a1,a2⟩:=cells3 (C3.out.get 2 rfl)
 obtain⟨b0,b1,b2⟩:=cells3 (C3.out.get 1 rfl)
 obtain⟨d0,d1,d2⟩:=cells3 (C3.out.get 0 rfl)
 obtain⟨q0,q1,q2⟩:=cells3 (C3.out.get 3 rfl)
 have ff:=fun o=>frozen_of_row W3 w.heap.size o _ _ (C3.out.get 3 rfl)
 have s3:=set3_all (C3.out.get 3 rfl) (.int .i64 0) (.string ⟨#[]⟩) (.slice none 0 0)
 have E3:=hideK (set3_low C3.out.low (Nat.le_refl _) (.int .i64 0) (.string ⟨#[]⟩) (.slice none 0 0))
 generalize v1.heap.size=g1 at C3 a0 a1 a2 ⊢
 generalize v2.heap.size=g2 at C3 b0 b1 b2 ⊢
 generalize v3.heap.size=g3 at C3 d0 d1 d2 ⊢
 by_cases h1:c1=0
 ·have h1':(c1 != 0)=false:=by simp;exact h1
  by_cases h2:c2=0
  ·have h2':(c2 != 0)=false:=by simp;exact h2
   by_cases h3:c3=0
   ·have h3':(c3 != 0)=false:=by simp;exact h3
    have K:=hideK (And.intro h1 (And.intro h2 h3))
    clear h1 h2 h3
    by_cases h4:n<0
    ·have HX:=hideK (HNO.out (fun h=>by omega))
     go_wp2_with fail
     refine bodyPost_ret (v:=.tuple #[.agg #[.int .i64 0,.string ⟨#[]⟩,.slice none 0 0],.bool false]) (by simp[results,Tryz.results137,go_sem,s3.1,s3.2.1,s3.2.2]) rfl ⟨.inr ⟨HX.out,rfl⟩,E3.out⟩
    ·by_cases h5:(20:Int)<n
     ·have HX:=hideK (HNO.out (fun h=>by omega))
      go_wp2_with fail
      refine bodyPost_ret (v:=.tuple #[.agg #[.int .i64 0,.string ⟨#[]⟩,.slice none 0 0],.bool false]) (by simp[results,Tryz.results137,go_sem,s3.1,s3.2.1,s3.2.2]) rfl ⟨.inr ⟨HX.out,rfl⟩,E3.out⟩
     ·have HOK:=hideK (And.intro K.out.1 (And.intro K.out.2.1 (And.intro K.out.2.2 (And.intro (show 0<=n by omega) (show n<=20 by omega)))))
      obtain⟨k,rfl⟩:=Int.eq_ofNat_of_zero_le (show 0<=n by omega)
      have HPK:=hideK (fun W=>HP.out k W (by omega))
      have HPA1:=hideK (HPA.out HOK.out)
      have HYE1:=hideK (fun q=>HYE.out q HOK.out)
      simp only[Int.toNat_natCast]at HPA1 HYE1
      generalize pathR s k p3 []=Q at HPK HPA1 HYE1
      clear HNO HPA HYE HP HOK K E3 s3 h4
      go_wp2_with fail
      refine(HPK.out _).mono ?_
      rintro e v4 ⟨⟨q,v,hq,rfl,ho⟩|⟨hq,c,rfl⟩,hb⟩
      ·obtain⟨ap,cp,rfl,_,_⟩:=ho.strs
       have O:=hideK ho
       have C4:=hideK (C3.out.call hb)
       have HY:=hideK (HYE1.out q hq)
       obtain⟨a0,a1,a2⟩:=cells3 (C4.out.get 2 rfl)
       obtain⟨b0,b1,b2⟩:=cells3 (C4.out.get 1 rfl)
       obtain⟨q0,q1,q2⟩:=cells3 (C4.out.get 3 rfl)
       have ff:=fun o=>frozen_of_row v4 w.heap.size o _ _ (C4.out.get 3 rfl)
       clear ho hb C3 HYE1 HPA1 hq
       by_cases he:q.2=s.size
       ·have he':((q.2:Int) != (s.size:Int))=false:=by simp;omega
        rw[if_pos he]at HY
        have s3:=set3_all (C4.out.get 3 rfl) (.int .i64 i) (.string t) (.slice ap q.1.length cp)
        have E3:=hideK (set3_low C4.out.low (Nat.le_refl _) (.int .i64 i) (.string t) (.slice ap q.1.length cp))
        have O3:Hid (PathIn (((v4.setCell ⟨w.heap.size,0,none⟩ (.int .i64 i)).setCell ⟨w.heap.size,1,none⟩ (.string t)).setCell ⟨w.heap.size,2,none⟩ (.slice ap q.1.length cp)) (.slice ap q.1.length cp) q.1):=(pathIn_own O.out).keeps (KeepsS.set3 (C4.out.get 3 rfl) (by decide) _ _ _)
        go_wp2_with fail
        refine bodyPost_ret (v:=.tuple #[.agg #[.int .i64 i,.string t,.slice ap q.1.length cp],.bool true]) (by simp[results,Tryz.results137,go_sem,s3.1,s3.2.1,s3.2.2]) rfl ⟨.inl ⟨(i,t,q.1),_,HY.out,rfl,O3.out⟩,E3.out⟩
       ·have he':((q.2:Int) != (s.size:Int))=true:=by simp;omega
        rw[if_neg he]at HY
        have s3:=set3_all (C4.out.get 3 rfl) (.int .i64 0) (.string ⟨#[]⟩) (.slice none 0 0)
        have E3:=hideK (set3_low C4.out.low (Nat.le_refl _) (.int .i64 0) (.string ⟨#[]⟩) (.slice none 0 0))
        go_wp2_with fail
        refine bodyPost_ret (v:=.tuple #[.agg #[.int .i64 0,.string ⟨#[]⟩,.slice none 0 0],.bool false]) (by simp[results,Tryz.results137,go_sem,s3.1,s3.2.1,s3.2.2]) rfl ⟨.inr ⟨HY.out,rfl⟩,E3.out⟩
      ·have C4:=hideK (C3.out.call hb)
       have HX:=hideK (HPA1.out hq)
       obtain⟨q0,q1,q2⟩:=cells3 (C4.out.get 3 rfl)
       have ff:=fun o=>frozen_of_row v4 w.heap.size o _ _ (C4.out.get 3 rfl)
       have s3:=set3_all (C4.out.get 3 rfl) (.int .i64 0) (.string ⟨#[]⟩) (.slice none 0 0)
       have E3:=hideK (set3_low C4.out.low (Nat.le_refl _) (.int .i64 0) (.string ⟨#[]⟩) (.slice none 0 0))
       clear hb C3 HYE1 HPA1 hq
       go_wp2_with fail
       refine bodyPost_ret (v:=.tuple #[.agg #[.int .i64 0,.string ⟨#[]⟩,.slice none 0 0],.bool false]) (by simp[results,Tryz.results137,go_sem,s3.1,s3.2.1,s3.2.2]) rfl ⟨.inr ⟨HX.out,rfl⟩,E3.out⟩
   ·have h3':(c3 != 0)=true:=by simp;exact h3
    have HX:=hideK (HNO.out (fun h=>h3 h.2.2.1))
    go_wp2_with fail
    refine bodyPost_ret (v:=.tuple #[.agg #[.int .i64 0,.string ⟨#[]⟩,.slice none 0 0],.bool false]) (by simp[results,Tryz.results137,go_sem,s3.1,s3.2.1,s3.2.2]) rfl ⟨.inr ⟨HX.out,rfl⟩,E3.out⟩
  ·have h2':(c2 != 0)=true:=by simp;exact h2
   have HX:=hideK (HNO.out (fun h=>h2 h.2.1))
   go_wp2_with fail
   refine bodyPost_ret (v:=.tuple #[.agg #[.int .i64 0,.string ⟨#[]⟩,.slice none 0 0],.bool false]) (by simp[results,Tryz.results137,go_sem,s3.1,s3.2.1,s3.2.2]) rfl ⟨.inr ⟨HX.out,rfl⟩,E3.out⟩
 ·have h1':(c1 != 0)=true:=by simp;exact h1
  have HX:=hideK (HNO.out (fun h=>h1 h.1))
  go_wp2_with fail
  refine bodyPost_ret (v:=.tuple #[.agg #[.int .i64 0,.string ⟨#[]⟩,.slice none 0 0],.bool false]) (by simp[results,Tryz.results137,go_sem,s3.1,s3.2.1,s3.2.2]) rfl ⟨.inr ⟨HX.out,rfl⟩,E3.out⟩
end Go.Proofs.YtpddanmnlkcdpaaGreatDoor.Kp


namespace Go.Proofs.YtpddanmnlkcdpaaGreatDoor.Kp
open Go.RowKit
open Ls (cells3 set3_all)
theorem find_none {m:List MR} {i:Int} (h:∀ j (hj:j<m.length),¬m[j].1.1=i):hasR (recs m) i=false:=by
 rw[hasR_recs,<-Bool.not_eq_true,List.any_eq_true]
 rintro⟨x,hx,he⟩
 obtain⟨j,hj,rfl⟩:=List.getElem_of_mem hx
 exact h j hj (by simpa using he)
theorem find_some {m:List MR} {i:Int} {j:Nat} (hj:j<m.length) (h:m[j].1.1=i):hasR (recs m) i=true:=by
 rw[hasR_recs,List.any_eq_true]
 exact⟨m[j],List.getElem_mem hj,by simpa using h⟩
theorem find_any (g base n:Nat) (i:Int) (v:Value) (m:List MR) (w:World) (hc:w.cell? ⟨g,0,none⟩=some v) (hg:g<w.heap.size) (ho:OwnR w base v m) (hsl:∀ x∈m,∃ a n cap,x.2=.slice a n cap) (hn:m.length=n) (hm:n<=1048576) :
  Calls Tryz.prog 129 #[.pointer (some ⟨g,0,none⟩),.int .i64 i] w fun r w' =>
   ((∃ (j:Nat) (hj:j<m.length),m[j].1.1=i/\(∀ k (hk:k<j),¬(m[k]'(Nat.lt_trans hk hj)).1.1=i)/\r=.returned (.tuple #[.agg #[.int .i64 i,.string m[j].1.2.1,m[j].2],.bool true])) ∨
   ((∀ j (hj:j<m.length),¬m[j].1.1=i)/\r=.returned (.tuple #[.agg #[.int .i64 0,.string ⟨#[]⟩,.slice none 0 0],.bool false])))/\Below w.heap.size w w':=by
 have HN:=hideK hn
 obtain⟨a,cap,rfl⟩:=ho.one
 have HC:=hideK (fun h0=>ho.cells h0)
 rw[hn]at hc
 have C0:=hideK ((Cx.nil w).new (.cells #[.int .i64 0,.string ⟨#[]⟩,.slice none 0 0] 129))
 have hc0:(w.alloc (.cells #[.int .i64 0,.string ⟨#[]⟩,.slice none 0 0] 129)).cell? ⟨g,0,none⟩=some (.slice a n cap):=(C0.out.low.cell (p:=⟨g,0,none⟩) hg).trans hc
 have HSL:=hideK hsl
 clear hc ho hn hsl
 go_enter Tryz.func129,Tryz.ntmps129
 go_wp2_with fail
 go_loopw [13,7] (fun jv _ wr=>∃ (j:Nat),jv=.int .i64 j/\j<=n/\(∀ k (hk:k<m.length),k<j->¬m[k].1.1=i)/\Cx w wr [(w.heap.size,.cells #[.int .i64 0,.string ⟨#[]⟩,.slice none 0 0] 129)]) (fun jv _ _=>n-(intOf jv).toNat)
 case atStart=>exact⟨0,rfl,Nat.zero_le _,fun k _ h=>absurd h (Nat.not_lt_zero _),C0.out⟩
 case round =>
  obtain⟨j,rfl,hj,hno,hcx⟩:=hrel
  have NO:=hideK hno
  have CX:=hideK hcx
  clear hno hcx
  by_cases hlt:j<n
  ·have hlt':(j:Int)<(n:Int):=by omega
   have hjm:j<m.length:=by rw[HN.out];exact hlt
   obtain⟨gr,cp,hv,_,hgl,_,hcl⟩:=HC.out (by rw[HN.out];omega)
   cases hv
   obtain⟨e0,e1,e2⟩:=hcl j hjm
   have c0:=(CX.out.low.cell (p:=⟨gr,j*3,none⟩) hgl).trans e0
   have c1:=(CX.out.low.cell (p:=⟨gr,j*3+1,none⟩) hgl).trans e1
   have c2:=(CX.out.low.cell (p:=⟨gr,j*3+2,none⟩) hgl).trans e2
   have HI:Hid (∀ x:MR,x=m[j]->x.1.1=i->(∃ (j:Nat) (hj:j<m.length),m[j].1.1=i/\(∀ k (hk:k<j),¬(m[k]'(Nat.lt_trans hk hj)).1.1=i)/\(.tuple #[.agg #[.int .i64 i,.string x.1.2.1,x.2],.bool true]:Value)=.tuple #[.agg #[.int .i64 i,.string m[j].1.2.1,m[j].2],.bool true])):=fun x hx he=>⟨j,hjm,by rw[<-hx];exact he,fun k hk=>NO.out k (Nat.lt_trans hk hjm) hk,by rw[hx]⟩
   have HQ:Hid (∀ x:MR,x=m[j]->¬x.1.1=i->∀ k (hk:k<m.length),k<j+1->¬m[k].1.1=i):=fun x hx he k hk hk1=>by
    by_cases hkj:k<j
    ·exact NO.out k hk hkj
    ·have:k=j:=by omega
     subst this
     rw[<-hx]
     exact he
   obtain⟨x,hx⟩:∃ x,x=m[j]:=⟨_,rfl⟩
   obtain⟨ap,np,cp,hxv⟩:=HSL.out x (by rw[hx];exact List.getElem_mem hjm)
   have HI1:=hideK (HI.out x hx)
   have HQ1:=hideK (HQ.out x hx)
   rw[<-hx]at c0 c1 c2
   clear e0 e1 e2 hcl hx HI HQ hjm
   obtain⟨⟨xi,xt,xp⟩,xv⟩:=x
   dsimp only at c0 c1 c2 HI1 HQ1 hxv
   subst hxv
   have C1:=hideK (CX.out.new (.cells #[.int .i64 xi,.string xt,.slice ap np cp] 129))
   go_upto_region 4 with fail
   generalize wr.alloc (.cells #[.int .i64 xi,.string xt,.slice ap np cp] 129)=W1 at C1 ⊢
   generalize wr.heap.size=g1 at C1 ⊢
   obtain⟨q0,q1,q2⟩:=cells3 (C1.out.get 1 rfl)
   obtain⟨d0,d1,d2⟩:=cells3 (C1.out.get 0 rfl)
   clear c0 c1 c2
   by_cases he:xi=i
   ·subst he
    have HI2:=hideK (HI1.out rfl)
    have ff:=fun o=>frozen_of_row W1 w.heap.size o _ _ (C1.out.get 1 rfl)
    have s3:=set3_all (C1.out.get 1 rfl) (.int .i64 xi) (.string xt) (.slice ap np cp)
    have E3:=hideK (set3_low C1.out.low (Nat.le_refl _) (.int .i64 xi) (.string xt) (.slice ap np cp))
    go_wp2_with fail
    obtain⟨jj,hjj,k1,k2,k3⟩:=HI2.out
    exact bodyPost_ret (v:=.tuple #[.agg #[.int .i64 xi,.string xt,.slice ap np cp],.bool true]) (by simp[results,Tryz.results129,go_sem,s3.1,s3.2.1,s3.2.2]) rfl ⟨.inl ⟨jj,hjj,k1,k2,by rw[k3]⟩,E3.out⟩
   ·have he':(xi==i)=false:=beq_eq_false_iff_ne.2 he
    have HQ2:=hideK (HQ1.out he)
    clear he
    have C2:Hid (Cx w W1 [(w.heap.size,.cells #[.int .i64 0,.string ⟨#[]⟩,.slice none 0 0] 129)]):=⟨C1.out.low,fun x hx=>C1.out.blk x (List.mem_cons_of_mem _ hx)⟩
    go_wp2_with fail
    go_roundw
    case rel=>exact⟨j+1,by go_num,by omega,HQ2.out,C2.out⟩
    case measure=>simp[intOf];omega
  ·obtain rfl:j=n:=by omega
   have NN:Hid (∀ k (hk:k<m.length),¬m[k].1.1=i):=fun k hk=>NO.out k hk (by rw[<-HN.out];exact hk)
   obtain⟨q0,q1,q2⟩:=cells3 (CX.out.get 0 rfl)
   have ff:=fun o=>frozen_of_row wr w.heap.size o _ _ (CX.out.get 0 rfl)
   have s3:=set3_all (CX.out.get 0 rfl) (.int .i64 0) (.string ⟨#[]⟩) (.slice none 0 0)
   have E3:=hideK (set3_low CX.out.low (Nat.le_refl _) (.int .i64 0) (.string ⟨#[]⟩) (.slice none 0 0))
   go_wp2_with fail
   exact bodyPost_ret (v:=.tuple #[.agg #[.int .i64 0,.string ⟨#[]⟩,.slice none 0 0],.bool false]) (by simp[results,Tryz.results129,go_sem,s3.1,s3.2.1,s3.2.2]) rfl ⟨.inr ⟨NN.out,rfl⟩,E3.out⟩
theorem has_any (g base n:Nat) (i:Int) (v:Value) (m:List MR) (w:World) (hc:w.cell? ⟨g,0,none⟩=some v) (hg:g<w.heap.size) (ho:OwnR w base v m) (hsl:∀ x∈m,∃ a n cap,x.2=.slice a n cap) (hn:m.length=n) (hm:n<=1048576) :
  Calls Tryz.prog 98 #[.pointer (some ⟨g,0,none⟩),.int .i64 i] w fun r w'=>r=.returned (.bool (hasR (recs m) i))/\Below w.heap.size w w':=by
 have HF:=hideK (find_any g base n i v m w hc hg ho hsl hn hm)
 have HSL:=hideK hsl
 clear hc ho hsl
 go_enter Tryz.func98,Tryz.ntmps98
 go_wp2_with fail
 refine HF.out.mono ?_
 rintro e w1 ⟨⟨j,hj,he,_,rfl⟩|⟨hno,rfl⟩,hb⟩
 ·obtain⟨ap,np,cp,hv⟩:=HSL.out m[j] (List.getElem_mem hj)
  rw[hv]
  have HB:=hideK (hb.alloc hb.size (.cells #[.int .i64 i,.string m[j].1.2.1,.slice ap np cp] 129))
  have HH:=hideK (find_some hj he)
  clear hb he
  go_wp2_with fail
  go_ret
  exact⟨by rw[HH.out];rfl,HB.out⟩
 ·have HB:=hideK (hb.alloc hb.size (.cells #[.int .i64 0,.string ⟨#[]⟩,.slice none 0 0] 129))
  have HH:=hideK (find_none hno)
  clear hb hno
  go_wp2_with fail
  go_ret
  exact⟨by rw[HH.out];rfl,HB.out⟩
end Go.Proofs.YtpddanmnlkcdpaaGreatDoor.Kp


namespace Go.Proofs.YtpddanmnlkcdpaaGreatDoor.Sh
open Go.RowKit
theorem hideA {p:Prop} (h:p):Hid p:=h
theorem app_own {B:Nat} {w wr w1:World} {v:Value} {n:Nat} {f:Nat->Nat} {o:Obj} (hbel:Below B w wr) (hB:B<=wr.heap.size) (hown:OwnB wr B v n f) (hgrow:(wr.alloc o).grownBy w1 v.ownBlock):Below B w w1:=by
 obtain⟨g,cap,rfl,hg,_⟩:=hown
 refine(hbel.alloc hB o).grown hgrow (by simp;omega) ?_
 intro k hk
 simp[Value.ownBlock]at hk
 omega
theorem four_cell (a b c d:Int):∀ u∈[Value.int .u8 a,Value.int .u8 b,Value.int .u8 c,Value.int .u8 d],u.oneCell'=true:=by
 intro u hu
 simp at hu
 rcases hu with rfl|rfl|rfl|rfl<;>rfl
theorem cell_one (W:World) (x:Value) (t:TypeId):(W.alloc (.cells #[x] t)).cell? ((⟨W.heap.size,0,none⟩:Addr).add 0)=some x:=one_new W x t 0 x rfl
theorem all_of (hblk:∀ (s:Nat->Int) (gs c:Nat) (t:ByteArray) (w:World),t.size=64->gs<w.heap.size->(∀ j,j<8->w.cell? ⟨gs,j,none⟩=some (.int .i64 (s j)))->(∀ j,0<=s j/\s j<4294967296) ->
   Calls Tryz.prog 193 #[.slice (some ⟨gs,0,none⟩) 8 c,.string t] w fun e w'=>∃ g c',e=.returned (.slice (some ⟨g,0,none⟩) 8 c')/\w.heap.size<=g/\g<w'.heap.size/\(∀ j,j<8->w'.cell? ⟨g,j,none⟩=some (.int .i64 (blk (bt t) s j)))/\Below w.heap.size w w')
  (t:ByteArray) (w:World) (ht:t.size<=1048576) :
  Calls Tryz.prog 167 #[.string t] w fun e w'=>e=.returned (.string (sha t))/\Below w.heap.size w w':=by
 have HBK:=hideA hblk
 clear hblk
 obtain⟨i0,hi,hz0,hz1,hz2⟩:=info_parts Nu.Tryz.infoJ5
 obtain⟨ch,hch⟩:∃ c,c=chunks t.size:=⟨_,rfl⟩
 have hr:=chunks_room t.size
 have hti:=chunks_tight t.size
 rw[<-hch]at hr hti
 have HCH:=hideA hch
 clear hch
 obtain⟨V,w1,hcv,hO,hB⟩:∃ V w1,(convert 9 168 (.string t)).run Tryz.prog w=.ok V w1/\OwnB w1 w.heap.size V t.size (bt t)/\Below w.heap.size w w1 :=
  ⟨_,_,run_bytes_of_string (P:=Tryz.prog) w 9 168 5 t Tryz.underlying9 Tryz.underlying168 Tryz.underlying5,own_of_string w w.heap.size t 5 (by unfold maxLen;omega) (Nat.le_refl _),(Below.refl _ _).drew.alloc (Nat.le_refl _) _⟩
 have HO:=hideA hO
 have HB:=hideA hB
 clear hO hB
 go_enter Tryz.func167,Tryz.ntmps167
 go_wp2_with (at_builtin;refine wpList_append_b rfl _ _ 168 rfl w.heap.size 5 i0 Tryz.underlying168 hi hz0 hz1 hz2 V t.size (bt t) rfl (HO.out.alloc _) ⟨w1.heap.size,0,none⟩ 1 128 rfl (cell_one w1 _ _) (by omega) (by have:=HB.out.size;simp;omega) ?_;intro v2 w2 hO2 hg2)
 have HO2:=hideA (hO2.congr (fun j hj=>pad_first t j hj))
 have HB2:=hideA (app_own HB.out HB.out.size HO.out hg2)
 clear hO2 hg2 HO HB
 go_loopw [3] (fun v wr=>∃ n:Nat,OwnB wr w.heap.size v n (pad t)/\t.size+1<=n/\n+8<=ch*64/\Below w.heap.size w wr) (fun v _=>match v with|.slice _ n _=>ch*64-n|_=>0)
 case atStart=>exact⟨t.size+1,HO2.out,by omega,by omega,HB2.out⟩
 case round =>
  obtain⟨n,hown,hn1,hn2,hbel⟩:=hrel
  have HO3:=hideA hown
  have HB3:=hideA hbel
  obtain⟨g,cap,hv,hcap⟩:=hown.slice
  subst hv
  clear hown hbel
  by_cases hmod:n%64=56
  ·have HN:=hideA (show n=ch*64-8 by omega)
   have em:((n:Int)%64==56)=true:=by simp;omega
   have em2:((n:Int)%64 != 56)=false:=by simp;omega
   go_wp2_with fail
   go_loopw [3,5] (fun v i wr=>∃ m:Nat,i=.int .i64 (56-8*(m:Int))/\m<=8/\OwnB wr w.heap.size v (n+m) (pad t)/\Below w.heap.size w wr) (fun _ i _=>(intOf i+8).toNat)
   case atStart=>exact⟨0,rfl,by omega,HO3.out,HB3.out⟩
   case round =>
    obtain⟨m,rfl,hm,hown,hbel⟩:=hrel
    have HO5:=hideA hown
    have HB5:=hideA hbel
    obtain⟨g5,cap5,hv,hcap5⟩:=hown.slice
    subst hv
    clear hown hbel
    by_cases hm8:m<8
    ·have q1:IntKind.u64.wrap (56-8*(m:Int))=56-8*(m:Int):=by simp[IntKind.wrap,IntKind.bits,IntKind.signed];omega
     have q2:(56-8*(m:Int)).toNat=56-8*m:=by omega
     have q3:0<=56-8*(m:Int):=by omega
     obtain⟨x,hx⟩:∃ x,x=t.size*8/2 ^ (56-8*m)%256:=⟨_,rfl⟩
     have HV:Hid (8*(t.size:Int)/2 ^ (56-8*m)%256=(x:Int)):=by
      unfold Hid
      rw[hx,Nat.mul_comm t.size 8]
      simp
     have HP:Hid (x=pad t (n+m)):=by
      unfold Hid
      rw[hx,HN.out,HCH.out,pad_len t m hm8]
     clear hx
     go_wp2_with (at_builtin;refine wpList_append_b rfl _ _ 168 rfl w.heap.size 5 i0 Tryz.underlying168 hi hz0 hz1 hz2 (.slice (some ⟨g5,0,none⟩) (n+m) cap5) (n+m) (pad t) rfl (HO5.out.alloc _) ⟨wr.heap.size,0,none⟩ 1 x rfl (by rw[cell_one];exact congrArg some (congrArg (Value.int .u8) HV.out)) (by omega) (by have:=HB5.out.size;simp;omega) ?_;intro v6 w6 hO6 hg6;have HO6:=hideA (hO6.congr (fun j _=>pad_app t (n+m) x HP.out j));have HB6:=hideA (app_own HB5.out HB5.out.size HO5.out hg6);clear hO6 hg6)
     go_roundw
     case rel=>exact⟨m+1,by go_num,by omega,HO6.out,HB6.out⟩
     case measure=>simp[intOf];omega
    ·have HNM:Hid (n+m=ch*64):=by
      have:=HN.out
      unfold Hid
      omega
     have q3:¬0<=56-8*(m:Int):=by omega
     go_wp2_with fail
     refine(start_any wr).mono ?_
     rintro e w7 ⟨rfl,hw7⟩
     have HS7:Hid (∀ j,j<8->w7.cell? ⟨wr.heap.size,j,none⟩=some (.int .i64 (shaS t 0 j))):=by
      intro j hj
      rw[hw7]
      exact(IsB.new wr 2 .i64 8 firstF).cell hj
     have HO7:Hid (OwnB w7 w.heap.size (.slice (some ⟨g5,0,none⟩) (n+m) cap5) (n+m) (pad t)):=by
      unfold Hid
      rw[hw7]
      exact HO5.out.alloc _
     have HB7:Hid (Below w.heap.size w w7):=by
      unfold Hid
      rw[hw7]
      exact HB5.out.alloc HB5.out.size _
     have HZ7:Hid (wr.heap.size<w7.heap.size):=by
      unfold Hid
      rw[hw7]
      simp
     generalize n+m=L at HO7 HNM hcap5 ⊢
     generalize wr.heap.size=G7 at HS7 HZ7 ⊢
     clear hw7 HO5 HB5
     go_wp2_with fail
     go_loopw [6,7] (fun st i wr=>∃ k gs c:Nat,st=.slice (some ⟨gs,0,none⟩) 8 c/\i=.int .i64 (64*(k:Int))/\k<=ch/\gs<wr.heap.size/\(∀ j,j<8->wr.cell? ⟨gs,j,none⟩=some (.int .i64 (shaS t k j)))/\OwnB wr w.heap.size (.slice (some ⟨g5,0,none⟩) L cap5) L (pad t)/\Below w.heap.size w wr) (fun _ i _=>ch*64-(intOf i).toNat)
     case atStart=>exact⟨0,G7,8,rfl,rfl,Nat.zero_le _,HZ7.out,HS7.out,HO7.out,HB7.out⟩
     case round =>
      obtain⟨k,gs,c,rfl,rfl,hk,hgs,hcs,hown,hbel⟩:=hrel
      have HC8:=hideA hcs
      have HO8:=hideA hown
      have HB8:=hideA hbel
      have HG8:=hideA hgs
      clear hcs hown hbel hgs
      by_cases hkc:k<ch
      ·have e1:64*(k:Int)<(L:Int):=by have:=HNM.out;omega
       have e2:(64*(k:Int)).toNat=64*k:=by omega
       have e3:(64*(k:Int)+64).toNat=64*k+64:=by omega
       have e4:64*k+64-64*k=64:=by omega
       have e5:IntKind.i64.wrap (64*(k:Int)+64)=64*(k:Int)+64:=by simp[IntKind.wrap,IntKind.bits,IntKind.signed];omega
       have e6:64*(k:Int)+64<=(cap5:Int):=by have:=HNM.out;omega
       have e7:0<=64*(k:Int)+64:=by omega
       have e8:0<=64*(k:Int):=by omega
       have e9:64*(k:Int)<=64*(k:Int)+64:=by omega
       have e10:¬cap5=64*k:=by have:=HNM.out;omega
       have hcv8:=HO8.out.piece (P:=Tryz.prog) (src:=168) (dst:=9) (64*k) 64 (cap5-64*k) (by have:=HNM.out;omega) (pad_lt t) Tryz.underlying168 Tryz.underlying5 Tryz.underlying9
       go_wp2_with fail
       refine(HBK.out (shaS t k) gs c (strF 64 (blkB t k)) wr (strF_size 64 _) HG8.out HC8.out (shaS_range t k)).mono ?_
       rintro e w9 ⟨g9,c9,rfl,hg9a,hg9b,hcl9,hb9⟩
       rw[blk_str]at hcl9
       have HC9:=hideA hcl9
       have HO9:=hideA (HO8.out.below hb9 (Nat.le_refl _))
       have HB9:=hideA (HB8.out.trans (hb9.mono HB8.out.size))
       have HG9:=hideA hg9b
       clear hcl9 hb9 hg9a hg9b
       go_wp2_with fail
       go_roundw
       case rel=>exact⟨k+1,g9,c9,rfl,by go_num,by omega,HG9.out,HC9.out,HO9.out,HB9.out⟩
       case measure=>simp[intOf];omega
      ·have e1:¬64*(k:Int)<(L:Int):=by have:=HNM.out;omega
       have HSK:Hid (shaS t k=shaS t (chunks t.size)):=by
        unfold Hid
        rw[<-HCH.out]
        congr 1
        have:=HNM.out
        omega
       go_wp2_with fail
       obtain⟨w8,hw8⟩:∃ x,x=wr:=⟨_,rfl⟩
       have HW8:=hideA hw8
       clear hw8
       have HE8:=hideA (own_empty wr wr.heap.size 5 (Nat.le_refl _))
       have HL8:=hideA ((Below.refl wr.heap.size wr).alloc (Nat.le_refl _) (.cells #[] 5))
       go_loopw [8,9] (fun v i wo=>∃ j:Nat,i=.int .i64 j/\j<=8/\wo.ownsRow w8.heap.size 5 1 v (4*j) (rowF .u8 (4*j) (fun q=>(outF (shaS t k) q:Nat))).toList/\Below w8.heap.size w8 wo) (fun _ i _=>8-(intOf i).toNat)
       case atStart =>
        refine⟨0,rfl,by omega,?_,?_⟩
        ·rw[HW8.out];exact HE8.out
        ·rw[HW8.out];exact HL8.out
       case round =>
        rw[<-HW8.out]at HC8 HO8 HB8 HG8
        obtain⟨j,rfl,hj,hown,hbel⟩:=hrel
        have HOj:=hideA hown
        have HBj:=hideA hbel
        by_cases hj8:j<8
        ·obtain⟨x,hx⟩:∃ x,x=shaS t k j:=⟨_,rfl⟩
         have cs:wr.cell? ⟨gs,j,none⟩=some (.int .i64 x):=by rw[hbel.cell (p:=⟨gs,j,none⟩) HG8.out,HC8.out j hj8,hx]
         have lj:(j:Int)<8:=by omega
         have HX:=hideA hx
         have hsz9:w8.heap.size<=wr.heap.size:=hbel.size
         clear hx hbel hown
         go_wp2_with (at_builtin;refine wpList_append_own _ rfl _ _ 168 rfl w8.heap.size 5 i0 (.int .u8 0) 1 1 Tryz.underlying168 hi hz0 hz1 hz2 rfl (by decide) _ _ _ rfl (HOj.out.alloc _) ⟨wr.heap.size,0,none⟩ 4 4 [.int .u8 (x/16777216%256),.int .u8 (x/65536%256),.int .u8 (x/256%256),.int .u8 (x%256)] rfl rfl (four_new wr _ _ _ _ _) (four_cell _ _ _ _) (by unfold maxLen;omega) (by omega) (by simp;omega) ?_;intro v6 w6 hO6 hg6 _;have HB6:=hideA (Nu.app_below HBj.out (Nat.le_refl _) HOj.out hg6);have HO6:=hideA hO6;clear hO6 hg6)
         go_roundw
         case rel =>
          refine⟨j+1,by go_num,by omega,?_,HB6.out⟩
          have e:=HO6.out
          rw[out_four (shaS t k) j _ _ _ _ (by rw[HX.out]) (by rw[HX.out]) (by rw[HX.out]) (by rw[HX.out])]at e
          rw[show 4*(j+1)=4*j+4 by omega]at e ⊢
          exact e
         case measure=>simp[intOf];omega
        ·have hown8:wr.ownsRow w8.heap.size 5 1 u8 32 (rowF .u8 32 (fun q=>(outF (shaS t k) q:Nat))).toList:=by
          have e:j=8:=by omega
          rw[e]at hown
          exact hown
         have hcv9:=own_str (P:=Tryz.prog) (src:=168) (dst:=9) hown8 (outF_lt _) Tryz.underlying168 Tryz.underlying5 Tryz.underlying9
         have HFB:=hideA (HB8.out.trans (hbel.mono HB8.out.size))
         clear hown hown8 hbel
         go_wp2_with fail
         go_ret
         refine⟨Nu.ret_strJ ?_,HFB.out⟩
         rw[HSK.out]
         rfl
  ·have em:((n:Int)%64==56)=false:=by simp;omega
   have HZ:Hid (0=pad t n):=by
    unfold Hid
    rw[pad_zero t n (by omega) (by rw[<-HCH.out];omega)]
   go_wp2_with (at_builtin;refine wpList_append_b rfl _ _ 168 rfl w.heap.size 5 i0 Tryz.underlying168 hi hz0 hz1 hz2 (.slice (some ⟨g,0,none⟩) n cap) n (pad t) rfl (HO3.out.alloc _) ⟨wr.heap.size,0,none⟩ 1 0 rfl (cell_one wr _ _) (by omega) (by have:=HB3.out.size;simp;omega) ?_;intro v4 w4 hO4 hg4;have HO4:=hideA (hO4.congr (fun j _=>pad_app t n 0 HZ.out j));have HB4:=hideA (app_own HB3.out HB3.out.size HO3.out hg4);clear hO4 hg4)
   obtain⟨g',cap',hv4,hcap4⟩:=HO4.out.slice
   subst hv4
   go_roundw
   case rel=>exact⟨n+1,HO4.out,by omega,by omega,HB4.out⟩
   case measure=>simp;omega
end Go.Proofs.YtpddanmnlkcdpaaGreatDoor.Sh

