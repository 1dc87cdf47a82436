/- Texts put together: KpRow, ShaMade, ShaSpecA, ShaStill. -/
import Derived.Test.YtikiihjabbmkcaaGreatDoorHz31
import Derived.Test.YtikiihjabbmkcaaGreatDoorHz29
import Derived.Laws.OwnMore
import Derived.Test.YtikiihjabbmkcaaGreatDoorHz8
import Derived.Test.YtikiihjabbmkcaaGreatDoorHz3
import Derived.Test.YtikiihjabbmkcaaGreatDoorHz0
import Derived.StillTailTactics
set_option maxRecDepth 100000
set_option maxHeartbeats 8000000
/- What is kept: the blocks that a walk has laid, and rows of records in memory. -/
namespace Go.Proofs.YtikiihjabbmkcaaGreatDoor.Kp
open Go.RowKit
open St (IsO OwnS Strs)
open Ls (blkL lowL blk_alloc cells3)
abbrev MR:=Rec × Value
def recV (x:MR):Value:=.agg #[.int .i64 x.1.1,.string x.1.2.1,x.2]
def recZ:Value:=.agg #[.int .i64 0,.string ⟨#[]⟩,.slice none 0 0]
def cellsR:List MR->List Value
 |[]=>[]
 |x :: m=>.int .i64 x.1.1 :: .string x.1.2.1 :: x.2 :: cellsR m
theorem cellsR_append:∀ m k:List MR,cellsR (m++k)=cellsR m++cellsR k
 |[],k=>rfl
 |x :: m,k=>by
  rw[List.cons_append,cellsR,cellsR,cellsR_append m k]
  rfl
theorem cellsR_at:∀ (m:List MR) (i:Nat) (h:i<m.length),(cellsR m)[i*3]? = some (.int .i64 m[i].1.1)/\(cellsR m)[i*3+1]? = some (.string m[i].1.2.1)/\(cellsR m)[i*3+2]? = some m[i].2
 |x :: m,0,_=>⟨rfl,rfl,rfl⟩
 |x :: m,i+1,h=>by
  have:=cellsR_at m i (Nat.lt_of_succ_lt_succ h)
  rw[cellsR,show (i+1)*3=i*3+3 by omega,show i*3+3+1=(i*3+1)+3 by omega,show i*3+3+2=(i*3+2)+3 by omega]
  exact this
def KeepsS (W W':World):Prop:=∀ (g:Nat) (cur:Array Value),W.heap[g]? = some (.cells cur 9 (0,0))->W'.heap[g]? = some (.cells cur 9 (0,0))
theorem KeepsS.refl (W:World):KeepsS W W:=fun _ _ h=>h
theorem KeepsS.trans {W W' W'':World} (h:KeepsS W W') (k:KeepsS W' W''):KeepsS W W'':=fun g cur e=>k g cur (h g cur e)
theorem KeepsS.below {W W':World} (h:Below W.heap.size W W'):KeepsS W W':=fun g _ e=>(h.block g (lt_rowK e)).trans e
theorem KeepsS.set {W:World} {g:Nat} {cs:Array Value} {e:TypeId} (hg:W.heap[g]? = some (.cells cs e (0,0))) (he:e≠9) (i:Nat) (v:Value):KeepsS W (W.setCell ⟨g,i,none⟩ v):=fun k cur h=>by
 rw[heap_setCell_other W _ k v (by
  rintro rfl
  rw[hg]at h
  simp at h
  exact he h.2)]
 exact h
theorem KeepsS.grown {W W':World} {row:Option Nat} (h:W.grownBy W' row) (hr:∀ k,row=some k->∃ cs t,W.heap[k]? = some (.cells cs t (0,0))/\t≠9):KeepsS W W':=fun g cur e=>by
 rw[h.block g (lt_rowK e) (by
  intro hg
  obtain⟨cs,t,hk,ht⟩:=hr g hg.symm
  rw[hk]at e
  simp at e
  exact ht e.2)]
 exact e
def PathIn (W:World) (v:Value) (p:List ByteArray):Prop :=
 (v=.slice none 0 0/\p=[])∨∃ g cap,v=.slice (some ⟨g,0,none⟩) p.length cap/\p.length<=cap/\IsO W g 9 p
theorem PathIn.keeps {W W':World} {v:Value} {p:List ByteArray} (h:PathIn W v p) (k:KeepsS W W'):PathIn W' v p:=by
 rcases h with h|⟨g,cap,hv,hc,cur,hg,hj⟩
 ·exact .inl h
 ·exact .inr ⟨g,cap,hv,hc,cur,k g cur hg,hj⟩
theorem pathIn_own {W:World} {base:Nat} {v:Value} {p:List ByteArray} (h:OwnS W base v p):PathIn W v p:=by
 rcases h.split with h|⟨g,cap,hv,_,hc,ho⟩
 ·exact .inl h
 ·exact .inr ⟨g,cap,hv,hc,ho⟩
theorem PathIn.one {W:World} {v:Value} {p:List ByteArray} (h:PathIn W v p):v.oneCell'=true:=by
 rcases h with⟨rfl,_⟩|⟨g,cap,rfl,_⟩
 ·rfl
 ·rfl
theorem PathIn.strs {W:World} {v:Value} {p:List ByteArray} (h:PathIn W v p):∃ a cap,v=.slice a p.length cap/\p.length<=cap/\Strs W W.heap.size a p:=by
 rcases h with⟨rfl,rfl⟩|⟨g,cap,rfl,hc,ho⟩
 ·exact⟨none,0,rfl,Nat.le_refl _,.inl rfl⟩
 ·exact⟨_,cap,rfl,hc,ho.strs ho.lt⟩
def OwnR (W:World) (base:Nat) (v:Value) (m:List MR):Prop:=W.ownsRow base 130 3 v m.length (cellsR m)
def Paths (W:World) (m:List MR):Prop:=∀ x∈m,PathIn W x.2 x.1.2.2
theorem Paths.keeps {W W':World} {m:List MR} (h:Paths W m) (k:KeepsS W W'):Paths W' m:=fun x hx=>(h x hx).keeps k
theorem OwnR.nil (w:World) (base:Nat):OwnR w base (.slice none 0 0) []:=World.ownsRow_nil w base _ _
theorem OwnR.alloc {W:World} {base:Nat} {v:Value} {m:List MR} (h:OwnR W base v m) (o:Obj):OwnR (W.alloc o) base v m:=World.ownsRow.alloc h o
theorem OwnR.below {w w':World} {base:Nat} {v:Value} {m:List MR} (h:OwnR w base v m) (b:Below w.heap.size w w'):OwnR w' base v m:=by
 obtain⟨hl,h⟩:=h
 refine⟨hl,?_⟩
 rcases h with h|⟨g,cap,cur,hv,hg,hb,rest⟩
 ·exact .inl h
 ·exact .inr ⟨g,cap,cur,hv,hg,by rw[b.block g (lt_rowK hb)];exact hb,rest⟩
theorem OwnR.mono {w:World} {base base':Nat} {v:Value} {m:List MR} (h:OwnR w base v m) (hb:base'<=base):OwnR w base' v m:=by
 obtain⟨hl,h⟩:=h
 refine⟨hl,?_⟩
 rcases h with h|⟨g,cap,cur,hv,hg,rest⟩
 ·exact .inl h
 ·exact .inr ⟨g,cap,cur,hv,Nat.le_trans hb hg,rest⟩
theorem OwnR.one {W:World} {base:Nat} {v:Value} {m:List MR} (h:OwnR W base v m):∃ a cap,v=.slice a m.length cap:=by
 obtain⟨_,h⟩:=h
 rcases h with⟨h,h0⟩|⟨g,cap,cur,hv,_⟩
 ·exact⟨none,0,by rw[h,h0]⟩
 ·exact⟨_,cap,hv⟩
theorem OwnR.cells {W:World} {base:Nat} {v:Value} {m:List MR} (h:OwnR W base v m) (h0:0<m.length):∃ g cap,v=.slice (some ⟨g,0,none⟩) m.length cap/\base<=g/\g<W.heap.size/\m.length<=cap /\
  ∀ i (hi:i<m.length),W.cell? ⟨g,i*3,none⟩=some (.int .i64 m[i].1.1)/\W.cell? ⟨g,i*3+1,none⟩=some (.string m[i].1.2.1)/\W.cell? ⟨g,i*3+2,none⟩=some m[i].2:=by
 obtain⟨_,h⟩:=h
 rcases h with⟨_,h⟩|⟨g,cap,cur,hv,hg,hb,hn,_,hs,ht⟩
 ·omega
 ·refine⟨g,cap,hv,hg,lt_rowK hb,hn,fun i hi=>?_⟩
  have hc:=cellsR_at m i hi
  rw[<-ht]at hc
  rw[List.getElem?_take_of_lt (by omega),List.getElem?_take_of_lt (by omega),List.getElem?_take_of_lt (by omega),Array.getElem?_toList,Array.getElem?_toList,Array.getElem?_toList]at hc
  exact⟨(cell_of_row W g _ _ _ _ hb).trans hc.1,(cell_of_row W g _ _ _ _ hb).trans hc.2.1,(cell_of_row W g _ _ _ _ hb).trans hc.2.2⟩
theorem OwnR.rowT {W:World} {base:Nat} {v:Value} {m:List MR} (h:OwnR W base v m):∀ k,v.ownBlock=some k->∃ cs,W.heap[k]? = some (.cells cs 130 (0,0)):=by
 intro k hk
 obtain⟨_,h⟩:=h
 rcases h with⟨h,_⟩|⟨g,cap,cur,hv,_,hb,_⟩
 ·subst h
  simp[Value.ownBlock]at hk
 ·subst hv
  simp[Value.ownBlock]at hk
  subst hk
  exact⟨cur,hb⟩
theorem OwnR.snoc {W:World} {base:Nat} {v:Value} {m:List MR} {x:MR} (h:W.ownsRow base 130 3 v (m.length+1) (cellsR m++[.int .i64 x.1.1,.string x.1.2.1,x.2])):OwnR W base v (m++[x]):=by
 unfold OwnR
 rw[List.length_append,cellsR_append]
 exact h
theorem three_new (W:World) (x y z:Value) (t:TypeId):∀ (j:Nat) (u:Value),[x,y,z][j]? = some u->(W.alloc (.cells #[x,y,z] t)).cell? ((⟨W.heap.size,0,none⟩:Addr).add j)=some u:=by
 intro j u hj
 match j,hj with
 |0,hj=>simp at hj;subst hj;simp[Addr.add]
 |1,hj=>simp at hj;subst hj;simp[Addr.add]
 |2,hj=>simp at hj;subst hj;simp[Addr.add]
theorem three_one {x y z:Value} (hx:x.oneCell'=true) (hy:y.oneCell'=true) (hz:z.oneCell'=true):∀ u∈[x,y,z],u.oneCell'=true:=by
 intro u hu
 simp at hu
 rcases hu with rfl|rfl|rfl
 ·exact hx
 ·exact hy
 ·exact hz
def recs (m:List MR):List Rec:=m.map (·.1)
theorem recs_length (m:List MR):(recs m).length=m.length:=List.length_map ..
theorem hasR_recs (m:List MR) (i:Int):hasR (recs m) i=m.any fun x=>x.1.1==i:=by
 unfold hasR recs
 rw[List.any_map]
 rfl
end Go.Proofs.YtikiihjabbmkcaaGreatDoor.Kp


/- A row of numbers that make has just made. -/
namespace Go.Proofs.YtikiihjabbmkcaaGreatDoor.Sh
open Go.RowKit
theorem made_zerosK (k:IntKind) (n:Nat):(madeCells (Value.int k 0).cells (n*1)).toList=(rowF k n (fun _=>0)).toList:=by
 apply List.ext_getElem?
 intro i
 by_cases hi:i<n
 ·simp[madeCells,rowF,hi,Value.cells,Nat.mod_one]
 ·simp[madeCells,rowF,hi,Value.cells]
theorem made_rowK {k:IntKind} {w:World} {base e g n:Nat} (h:w.ownsRow base e 1 (.slice (some ⟨g,0,none⟩) n n) n (madeCells (Value.int k 0).cells (n*1)).toList):IsB w g e k n (fun _=>0):=by
 obtain⟨_,h⟩:=h
 rcases h with⟨h,_⟩|⟨g',cap,cur,hv,_,hb,_,_,hsz,htk⟩
 ·simp at h
 ·simp at hv
  obtain⟨rfl,rfl⟩:=hv
  rw[made_zerosK,List.take_of_length_le (by simp[hsz])]at htk
  have:cur=rowF k n (fun _=>0):=by simpa using htk
  rw[this]at hb
  exact hb
theorem own_cells {w:World} {base e n:Nat} {v:Value} {k:IntKind} {f:Nat->Int} (hn:0<n) (h:w.ownsRow base e 1 v n (rowF k n f).toList) :
  ∃ g c,v=.slice (some ⟨g,0,none⟩) n c/\base<=g/\g<w.heap.size/\∀ j,j<n->w.cell? ⟨g,j,none⟩=some (.int k (f j)):=by
 obtain⟨_,h⟩:=h
 rcases h with⟨_,h⟩|⟨g,cap,cur,hv,hg,hb,hnc,_,hsz,htk⟩
 ·omega
 ·refine⟨g,cap,hv,hg,(Array.getElem?_eq_some_iff.1 hb).1,fun j hj=>?_⟩
  rw[cell_of_row w g j cur e (0,0) hb]
  have h1:cur.toList[j]? = (cur.toList.take (n*1))[j]?:=by rw[List.getElem?_take_of_lt (by omega)]
  rw[<-Array.getElem?_toList,h1,htk,Array.getElem?_toList]
  exact rowF_get k n f j hj
theorem rowF_snoc (k:IntKind) (n:Nat) (f:Nat->Int):(rowF k n f).toList++[.int k (f n)]=(rowF k (n+1) f).toList:=by
 simp[rowF,List.range_succ]
theorem byte_at (t:ByteArray) (j:Nat) (h:j<t.size):∃ y:UInt8,t[j]=y/\y.toNat=bt t j:=⟨t[j],rfl,bt_get t j h⟩
theorem word_spec (B:Nat->Nat) (k:Nat) (y0 y1 y2 y3:Nat) (h0:y0=B (4*k)) (h1:y1=B (4*k+1)) (h2:y2=B (4*k+2)) (h3:y3=B (4*k+3)) (hB:∀ j,B j<256) :
  bits BinOp.or IntKind.u32 (bits BinOp.or IntKind.u32 (bits BinOp.or IntKind.u32 ((y0:Int)*16777216) ((y1:Int)*65536))
   ((y2:Int)*256)) (y3:Int)=((word B k:Nat):Int):=by
 have b0:=hB (4*k)
 have b1:=hB (4*k+1)
 have b2:=hB (4*k+2)
 have b3:=hB (4*k+3)
 rw[<-h0]at b0
 rw[<-h1]at b1
 rw[<-h2]at b2
 rw[<-h3]at b3
 rw[show (y0:Int)*16777216=((y0*16777216:Nat):Int) by simp,show (y1:Int)*65536=((y1*65536:Nat):Int) by simp,show (y2:Int)*256=((y2*256:Nat):Int) by simp]
 rw[u32_or_nat _ _ (by omega) (by omega),nat_join 24 (y0*16777216) (y1*65536) (by omega) (by omega),
  u32_or_nat _ _ (by omega) (by omega),nat_join 16 (y0*16777216+y1*65536) (y2*256) (by omega) (by omega),
  u32_or_nat _ _ (by omega) (by omega),nat_join 8 (y0*16777216+y1*65536+y2*256) y3 (by omega) (by omega)]
 simp only[word,part,Nat.add_zero,<-h0,<-h1,<-h2,<-h3]
 omega
end Go.Proofs.YtikiihjabbmkcaaGreatDoor.Sh


namespace Go.Proofs.YtikiihjabbmkcaaGreatDoor.Sh
open Go.RowKit
theorem keys_any (w:World):Calls Tryz.prog 211 #[] w fun e w'=>e=.returned (.slice (some ⟨w.heap.size,0,none⟩) 64 64)/\w'=w.alloc (.cells (rowF .u32 64 keyF) 214):=by
 go_enter Tryz.func211,Tryz.ntmps211
 go_wp2
 go_ret
 exact⟨rfl,rfl⟩
theorem start_any (w:World):Calls Tryz.prog 185 #[] w fun e w'=>e=.returned (.slice (some ⟨w.heap.size,0,none⟩) 8 8)/\w'=w.alloc (.cells (rowF .i64 8 firstF) 2):=by
 go_enter Tryz.func185,Tryz.ntmps185
 go_wp2
 go_ret
 exact⟨rfl,rfl⟩
end Go.Proofs.YtikiihjabbmkcaaGreatDoor.Sh


/- Two laws of the library on regions that draw their order and only read, the world spelled as a walk spells it. -/
namespace Go.Proofs.YtikiihjabbmkcaaGreatDoor.Sh
theorem still_lit {P:Program} {id:Nat} {Q:Exit->Act->World->Prop} {a:Act} {w:World} {l:List Oper} (hm:P.follows .mixedOrders=true) (hB:Region.lexB .any l.toArray=true)
  (h:wpStill P l.toArray w.drew (fun a'=>Q .normal a' w.drew) l a):(Code.region id l.toArray true).wp P Q a w :=
 wp_region_still_lit hm hB h
theorem still_tail {P:Program} {id:Nat} {Q:Exit->Act->World->Prop} {a:Act} {w:World} {l:List Oper} (n:Nat) (hm:P.follows .mixedOrders=true) (hB:Region.lexTailB .any l.toArray n=true)
  (h:wpStill P l.toArray w.drew (fun a'=>wpList P l.toArray Q (l.drop n) a' w.drew) (l.take n) a):(Code.region id l.toArray true).wp P Q a w :=
 wp_region_still_tail n hm hB h
end Go.Proofs.YtikiihjabbmkcaaGreatDoor.Sh

