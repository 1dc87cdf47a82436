/- Texts put together: LsReadW, KpRow, PlRow, KpInner, TkPlain. -/
import Derived.Test.YtpddanmnlkcdpaaGreatDoorTz28
import Derived.Test.YtpddanmnlkcdpaaGreatDoorTz32
import Derived.Laws.OwnMore
import Derived.Test.YtpddanmnlkcdpaaGreatDoorTz31
import Derived.Test.YtpddanmnlkcdpaaGreatDoorTz12
set_option maxRecDepth 100000
set_option maxHeartbeats 8000000
/- The walks of ListRead. -/
namespace Go.Proofs.YtpddanmnlkcdpaaGreatDoor.Ls
open Go.RowKit
open Gn (rd getV handle rt textV handle_below handle_alloc)
def HH (w:World):Prop:=w.cell? ⟨1,0,none⟩=some handle
theorem hh_keep {w w':World} (h:HH w) (hb:Below w.heap.size w w'):HH w':=handle_below hb h
end Go.Proofs.YtpddanmnlkcdpaaGreatDoor.Ls


/- What is kept: the blocks that a walk has laid, and rows of records in memory. -/
namespace Go.Proofs.YtpddanmnlkcdpaaGreatDoor.Kp
open Go.RowKit
open St (IsO OwnS Strs)
open Ls (blkL lowL blk_alloc cells3)
abbrev MR:=Rec × Value
def recV (x:MR):Value:=.agg #[.int .i64 x.1.1,.string x.1.2.1,x.2]
def recZ:Value:=.agg #[.int .i64 0,.string ⟨#[]⟩,.slice none 0 0]
def cellsR:List MR->List Value
 |[]=>[]
 |x :: m=>.int .i64 x.1.1 :: .string x.1.2.1 :: x.2 :: cellsR m
theorem cellsR_append:∀ m k:List MR,cellsR (m++k)=cellsR m++cellsR k
 |[],k=>rfl
 |x :: m,k=>by
  rw[List.cons_append,cellsR,cellsR,cellsR_append m k]
  rfl
theorem cellsR_at:∀ (m:List MR) (i:Nat) (h:i<m.length),(cellsR m)[i*3]? = some (.int .i64 m[i].1.1)/\(cellsR m)[i*3+1]? = some (.string m[i].1.2.1)/\(cellsR m)[i*3+2]? = some m[i].2
 |x :: m,0,_=>⟨rfl,rfl,rfl⟩
 |x :: m,i+1,h=>by
  have:=cellsR_at m i (Nat.lt_of_succ_lt_succ h)
  rw[cellsR,show (i+1)*3=i*3+3 by omega,show i*3+3+1=(i*3+1)+3 by omega,show i*3+3+2=(i*3+2)+3 by omega]
  exact this
def KeepsS (W W':World):Prop:=∀ (g:Nat) (cur:Array Value),W.heap[g]? = some (.cells cur 9 (0,0))->W'.heap[g]? = some (.cells cur 9 (0,0))
theorem KeepsS.trans {W W' W'':World} (h:KeepsS W W') (k:KeepsS W' W''):KeepsS W W'':=fun g cur e=>k g cur (h g cur e)
theorem KeepsS.below {W W':World} (h:Below W.heap.size W W'):KeepsS W W':=fun g _ e=>(h.block g (lt_rowK e)).trans e
theorem KeepsS.set {W:World} {g:Nat} {cs:Array Value} {e:TypeId} (hg:W.heap[g]? = some (.cells cs e (0,0))) (he:e≠9) (i:Nat) (v:Value):KeepsS W (W.setCell ⟨g,i,none⟩ v):=fun k cur h=>by
 rw[heap_setCell_other W _ k v (by
  rintro rfl
  rw[hg]at h
  simp at h
  exact he h.2)]
 exact h
theorem KeepsS.grown {W W':World} {row:Option Nat} (h:W.grownBy W' row) (hr:∀ k,row=some k->∃ cs t,W.heap[k]? = some (.cells cs t (0,0))/\t≠9):KeepsS W W':=fun g cur e=>by
 rw[h.block g (lt_rowK e) (by
  intro hg
  obtain⟨cs,t,hk,ht⟩:=hr g hg.symm
  rw[hk]at e
  simp at e
  exact ht e.2)]
 exact e
def PathIn (W:World) (v:Value) (p:List ByteArray):Prop :=
 (v=.slice none 0 0/\p=[])∨∃ g cap,v=.slice (some ⟨g,0,none⟩) p.length cap/\p.length<=cap/\IsO W g 9 p
theorem PathIn.keeps {W W':World} {v:Value} {p:List ByteArray} (h:PathIn W v p) (k:KeepsS W W'):PathIn W' v p:=by
 rcases h with h|⟨g,cap,hv,hc,cur,hg,hj⟩
 ·exact .inl h
 ·exact .inr ⟨g,cap,hv,hc,cur,k g cur hg,hj⟩
theorem pathIn_own {W:World} {base:Nat} {v:Value} {p:List ByteArray} (h:OwnS W base v p):PathIn W v p:=by
 rcases h.split with h|⟨g,cap,hv,_,hc,ho⟩
 ·exact .inl h
 ·exact .inr ⟨g,cap,hv,hc,ho⟩
theorem PathIn.strs {W:World} {v:Value} {p:List ByteArray} (h:PathIn W v p):∃ a cap,v=.slice a p.length cap/\p.length<=cap/\Strs W W.heap.size a p:=by
 rcases h with⟨rfl,rfl⟩|⟨g,cap,rfl,hc,ho⟩
 ·exact⟨none,0,rfl,Nat.le_refl _,.inl rfl⟩
 ·exact⟨_,cap,rfl,hc,ho.strs ho.lt⟩
def OwnR (W:World) (base:Nat) (v:Value) (m:List MR):Prop:=W.ownsRow base 129 3 v m.length (cellsR m)
def Paths (W:World) (m:List MR):Prop:=∀ x∈m,PathIn W x.2 x.1.2.2
theorem Paths.keeps {W W':World} {m:List MR} (h:Paths W m) (k:KeepsS W W'):Paths W' m:=fun x hx=>(h x hx).keeps k
theorem OwnR.nil (w:World) (base:Nat):OwnR w base (.slice none 0 0) []:=World.ownsRow_nil w base _ _
theorem OwnR.alloc {W:World} {base:Nat} {v:Value} {m:List MR} (h:OwnR W base v m) (o:Obj):OwnR (W.alloc o) base v m:=World.ownsRow.alloc h o
theorem OwnR.below {w w':World} {base:Nat} {v:Value} {m:List MR} (h:OwnR w base v m) (b:Below w.heap.size w w'):OwnR w' base v m:=by
 obtain⟨hl,h⟩:=h
 refine⟨hl,?_⟩
 rcases h with h|⟨g,cap,cur,hv,hg,hb,rest⟩
 ·exact .inl h
 ·exact .inr ⟨g,cap,cur,hv,hg,by rw[b.block g (lt_rowK hb)];exact hb,rest⟩
theorem OwnR.mono {w:World} {base base':Nat} {v:Value} {m:List MR} (h:OwnR w base v m) (hb:base'<=base):OwnR w base' v m:=by
 obtain⟨hl,h⟩:=h
 refine⟨hl,?_⟩
 rcases h with h|⟨g,cap,cur,hv,hg,rest⟩
 ·exact .inl h
 ·exact .inr ⟨g,cap,cur,hv,Nat.le_trans hb hg,rest⟩
theorem OwnR.one {W:World} {base:Nat} {v:Value} {m:List MR} (h:OwnR W base v m):∃ a cap,v=.slice a m.length cap:=by
 obtain⟨_,h⟩:=h
 rcases h with⟨h,h0⟩|⟨g,cap,cur,hv,_⟩
 ·exact⟨none,0,by rw[h,h0]⟩
 ·exact⟨_,cap,hv⟩
theorem OwnR.cells {W:World} {base:Nat} {v:Value} {m:List MR} (h:OwnR W base v m) (h0:0<m.length):∃ g cap,v=.slice (some ⟨g,0,none⟩) m.length cap/\base<=g/\g<W.heap.size/\m.length<=cap /\
  ∀ i (hi:i<m.length),W.cell? ⟨g,i*3,none⟩=some (.int .i64 m[i].1.1)/\W.cell? ⟨g,i*3+1,none⟩=some (.string m[i].1.2.1)/\W.cell? ⟨g,i*3+2,none⟩=some m[i].2:=by
 obtain⟨_,h⟩:=h
 rcases h with⟨_,h⟩|⟨g,cap,cur,hv,hg,hb,hn,_,hs,ht⟩
 ·omega
 ·refine⟨g,cap,hv,hg,lt_rowK hb,hn,fun i hi=>?_⟩
  have hc:=cellsR_at m i hi
  rw[<-ht]at hc
  rw[List.getElem?_take_of_lt (by omega),List.getElem?_take_of_lt (by omega),List.getElem?_take_of_lt (by omega),Array.getElem?_toList,Array.getElem?_toList,Array.getElem?_toList]at hc
  exact⟨(cell_of_row W g _ _ _ _ hb).trans hc.1,(cell_of_row W g _ _ _ _ hb).trans hc.2.1,(cell_of_row W g _ _ _ _ hb).trans hc.2.2⟩
theorem OwnR.rowT {W:World} {base:Nat} {v:Value} {m:List MR} (h:OwnR W base v m):∀ k,v.ownBlock=some k->∃ cs,W.heap[k]? = some (.cells cs 129 (0,0)):=by
 intro k hk
 obtain⟨_,h⟩:=h
 rcases h with⟨h,_⟩|⟨g,cap,cur,hv,_,hb,_⟩
 ·subst h
  simp[Value.ownBlock]at hk
 ·subst hv
  simp[Value.ownBlock]at hk
  subst hk
  exact⟨cur,hb⟩
theorem OwnR.snoc {W:World} {base:Nat} {v:Value} {m:List MR} {x:MR} (h:W.ownsRow base 129 3 v (m.length+1) (cellsR m++[.int .i64 x.1.1,.string x.1.2.1,x.2])):OwnR W base v (m++[x]):=by
 unfold OwnR
 rw[List.length_append,cellsR_append]
 exact h
theorem three_new (W:World) (x y z:Value) (t:TypeId):∀ (j:Nat) (u:Value),[x,y,z][j]? = some u->(W.alloc (.cells #[x,y,z] t)).cell? ((⟨W.heap.size,0,none⟩:Addr).add j)=some u:=by
 intro j u hj
 match j,hj with
 |0,hj=>simp at hj;subst hj;simp[Addr.add]
 |1,hj=>simp at hj;subst hj;simp[Addr.add]
 |2,hj=>simp at hj;subst hj;simp[Addr.add]
theorem three_one {x y z:Value} (hx:x.oneCell'=true) (hy:y.oneCell'=true) (hz:z.oneCell'=true):∀ u∈[x,y,z],u.oneCell'=true:=by
 intro u hu
 simp at hu
 rcases hu with rfl|rfl|rfl
 ·exact hx
 ·exact hy
 ·exact hz
def recs (m:List MR):List Rec:=m.map (·.1)
theorem recs_length (m:List MR):(recs m).length=m.length:=List.length_map ..
theorem hasR_recs (m:List MR) (i:Int):hasR (recs m) i=m.any fun x=>x.1.1==i:=by
 unfold hasR recs
 rw[List.any_map]
 rfl
end Go.Proofs.YtpddanmnlkcdpaaGreatDoor.Kp


/- Letters in memory: as a slice sees them, and as a row that a call owns. -/
namespace Go.Proofs.YtpddanmnlkcdpaaGreatDoor.Pl
open Go.RowKit
open Kp
open St (Strs OwnS)
structure Snt where
 who:ByteArray
 kind:Int
 index:Int
 piece:ByteArray
 path:List ByteArray
abbrev ML:=Snt × Value
def sntV (x:ML):Value:=.agg #[.string x.1.who,.int .i64 x.1.kind,.int .i64 x.1.index,.string x.1.piece,x.2]
def cellsL:List ML->List Value
 |[]=>[]
 |x :: m=>.string x.1.who :: .int .i64 x.1.kind :: .int .i64 x.1.index :: .string x.1.piece :: x.2 :: cellsL m
theorem cellsL_length:∀ m:List ML,(cellsL m).length=m.length*5
 |[]=>rfl
 |x :: m=>by
  rw[cellsL,List.length_cons,List.length_cons,List.length_cons,List.length_cons,List.length_cons,cellsL_length m,List.length_cons]
  omega
theorem cellsL_append:∀ m k:List ML,cellsL (m++k)=cellsL m++cellsL k
 |[],k=>rfl
 |x :: m,k=>by
  rw[List.cons_append,cellsL,cellsL,cellsL_append m k]
  rfl
theorem cellsL_at:∀ (m:List ML) (i:Nat) (h:i<m.length),(cellsL m)[i*5]? = some (.string m[i].1.who)/\(cellsL m)[i*5+1]? = some (.int .i64 m[i].1.kind)/\(cellsL m)[i*5+2]? = some (.int .i64 m[i].1.index)/\(cellsL m)[i*5+3]? = some (.string m[i].1.piece)/\(cellsL m)[i*5+4]? = some m[i].2
 |x :: m,0,_=>⟨rfl,rfl,rfl,rfl,rfl⟩
 |x :: m,i+1,h=>by
  have:=cellsL_at m i (Nat.lt_of_succ_lt_succ h)
  rw[cellsL,show (i+1)*5=i*5+5 by omega,show i*5+5+1=(i*5+1)+5 by omega,show i*5+5+2=(i*5+2)+5 by omega,show i*5+5+3=(i*5+3)+5 by omega,show i*5+5+4=(i*5+4)+5 by omega]
  exact this
def PathAt (W:World) (B:Nat) (x:ML):Prop:=∃ a cap,x.2=.slice a x.1.path.length cap/\x.1.path.length<=cap/\Strs W B a x.1.path
theorem PathAt.below {W W':World} {B:Nat} {x:ML} (h:PathAt W B x) (hb:Below B W W'):PathAt W' B x:=by
 obtain⟨a,cap,hv,hc,hi⟩:=h
 exact⟨a,cap,hv,hc,hi.below hb⟩
theorem PathAt.mono {W:World} {B C:Nat} {x:ML} (h:PathAt W B x) (hB:B<=C):PathAt W C x:=by
 obtain⟨a,cap,hv,hc,hi⟩:=h
 exact⟨a,cap,hv,hc,hi.mono hB⟩
def FiveL (W:World) (b o:Nat) (x:ML):Prop:=W.cell? ⟨b,o,none⟩=some (.string x.1.who)/\W.cell? ⟨b,o+1,none⟩=some (.int .i64 x.1.kind)/\W.cell? ⟨b,o+2,none⟩=some (.int .i64 x.1.index)/\W.cell? ⟨b,o+3,none⟩=some (.string x.1.piece)/\W.cell? ⟨b,o+4,none⟩=some x.2
theorem FiveL.below {W W':World} {B b o:Nat} {x:ML} (h:FiveL W b o x) (hb:Below B W W') (hlt:b<B):FiveL W' b o x:=by
 obtain⟨h0,h1,h2,h3,h4⟩:=h
 exact⟨(hb.cell (p:=⟨b,o,none⟩) hlt).trans h0,(hb.cell (p:=⟨b,o+1,none⟩) hlt).trans h1,(hb.cell (p:=⟨b,o+2,none⟩) hlt).trans h2,(hb.cell (p:=⟨b,o+3,none⟩) hlt).trans h3,(hb.cell (p:=⟨b,o+4,none⟩) hlt).trans h4⟩
def Snts (W:World) (B:Nat) (a:Option Addr) (m:List ML):Prop :=
 (m=[]∨∃ b off,a=some ⟨b,off,none⟩/\b<B/\∀ j (h:j<m.length),FiveL W b (off+j*5) m[j])/\∀ x∈m,PathAt W B x
theorem Snts.below {W W':World} {B:Nat} {a:Option Addr} {m:List ML} (h:Snts W B a m) (hb:Below B W W'):Snts W' B a m:=by
 refine⟨?_,fun x hx=>(h.2 x hx).below hb⟩
 rcases h.1 with h0|⟨b,off,rfl,hlt,hc⟩
 ·exact .inl h0
 ·exact .inr ⟨b,off,rfl,hlt,fun j hj=>(hc j hj).below hb hlt⟩
theorem Snts.mono {W:World} {B C:Nat} {a:Option Addr} {m:List ML} (h:Snts W B a m) (hB:B<=C):Snts W C a m:=by
 refine⟨?_,fun x hx=>(h.2 x hx).mono hB⟩
 rcases h.1 with h0|⟨b,off,rfl,hlt,hc⟩
 ·exact .inl h0
 ·exact .inr ⟨b,off,rfl,Nat.lt_of_lt_of_le hlt hB,hc⟩
theorem Snts.some {W:World} {B:Nat} {a:Option Addr} {m:List ML} (h:Snts W B a m) (hl:0<m.length):∃ b off,a=.some ⟨b,off,none⟩/\b<B/\∀ j (h:j<m.length),FiveL W b (off+j*5) m[j]:=by
 rcases h.1 with h0|h
 ·subst h0;simp at hl
 ·exact h
def snts (m:List ML):List Snt:=m.map (·.1)
theorem snts_length (m:List ML):(snts m).length=m.length:=List.length_map ..
theorem snts_get (m:List ML) (j:Nat) (h:j<m.length):(snts m)[j]'(by rw[snts_length];exact h)=m[j].1:=by simp[snts]
def OwnL (W:World) (base:Nat) (v:Value) (m:List ML):Prop:=W.ownsRow base 114 5 v m.length (cellsL m)
theorem OwnL.nil (w:World) (base:Nat):OwnL w base (.slice none 0 0) []:=World.ownsRow_nil w base _ _
theorem OwnL.alloc {W:World} {base:Nat} {v:Value} {m:List ML} (h:OwnL W base v m) (o:Obj):OwnL (W.alloc o) base v m:=World.ownsRow.alloc h o
theorem OwnL.below {w w':World} {base:Nat} {v:Value} {m:List ML} (h:OwnL w base v m) (b:Below w.heap.size w w'):OwnL w' base v m:=by
 obtain⟨hl,h⟩:=h
 refine⟨hl,?_⟩
 rcases h with h|⟨g,cap,cur,hv,hg,hb,rest⟩
 ·exact .inl h
 ·exact .inr ⟨g,cap,cur,hv,hg,by rw[b.block g (lt_rowK hb)];exact hb,rest⟩
theorem OwnL.mono {w:World} {base base':Nat} {v:Value} {m:List ML} (h:OwnL w base v m) (hb:base'<=base):OwnL w base' v m:=by
 obtain⟨hl,h⟩:=h
 refine⟨hl,?_⟩
 rcases h with h|⟨g,cap,cur,hv,hg,rest⟩
 ·exact .inl h
 ·exact .inr ⟨g,cap,cur,hv,Nat.le_trans hb hg,rest⟩
theorem OwnL.one {W:World} {base:Nat} {v:Value} {m:List ML} (h:OwnL W base v m):∃ a cap,v=.slice a m.length cap/\m.length<=cap/\(a=none->cap=0):=by
 obtain⟨_,h⟩:=h
 rcases h with⟨h,h0⟩|⟨g,cap,cur,hv,_,_,hn,_⟩
 ·exact⟨none,0,by rw[h,h0],by omega,fun _=>rfl⟩
 ·exact⟨_,cap,hv,hn,fun h=>by cases h⟩
theorem OwnL.cells {W:World} {base:Nat} {v:Value} {m:List ML} (h:OwnL W base v m) (h0:0<m.length):∃ g cap,v=.slice (some ⟨g,0,none⟩) m.length cap/\base<=g/\g<W.heap.size/\m.length<=cap/\∀ i (hi:i<m.length),FiveL W g (i*5) m[i]:=by
 obtain⟨_,h⟩:=h
 rcases h with⟨_,h⟩|⟨g,cap,cur,hv,hg,hb,hn,_,hs,ht⟩
 ·omega
 ·refine⟨g,cap,hv,hg,lt_rowK hb,hn,fun i hi=>?_⟩
  have hc:=cellsL_at m i hi
  rw[<-ht]at hc
  rw[List.getElem?_take_of_lt (by omega),List.getElem?_take_of_lt (by omega),List.getElem?_take_of_lt (by omega),List.getElem?_take_of_lt (by omega),List.getElem?_take_of_lt (by omega),Array.getElem?_toList,Array.getElem?_toList,Array.getElem?_toList,Array.getElem?_toList,Array.getElem?_toList]at hc
  exact⟨(cell_of_row W g _ _ _ _ hb).trans hc.1,(cell_of_row W g _ _ _ _ hb).trans hc.2.1,(cell_of_row W g _ _ _ _ hb).trans hc.2.2.1,(cell_of_row W g _ _ _ _ hb).trans hc.2.2.2.1,(cell_of_row W g _ _ _ _ hb).trans hc.2.2.2.2⟩
theorem OwnL.snoc {W:World} {base:Nat} {v:Value} {m:List ML} {x:ML} (h:W.ownsRow base 114 5 v (m.length+1) (cellsL m++[.string x.1.who,.int .i64 x.1.kind,.int .i64 x.1.index,.string x.1.piece,x.2])):OwnL W base v (m++[x]):=by
 unfold OwnL
 rw[List.length_append,cellsL_append]
 exact h
def Pths (W:World) (base:Nat) (m:List ML):Prop:=∀ x∈m,OwnS W base x.2 x.1.path
theorem Pths.below {W W':World} {base:Nat} {m:List ML} (h:Pths W base m) (hb:Below W.heap.size W W'):Pths W' base m:=fun x hx=>(h x hx).below hb
theorem Pths.mono {W:World} {base base':Nat} {m:List ML} (h:Pths W base m) (hb:base'<=base):Pths W base' m:=fun x hx=>(h x hx).mono hb
theorem own_snts {W:World} {base n:Nat} {a:Option Addr} {cap:Nat} {m:List ML} (h:OwnL W base (.slice a n cap) m) (hp:Pths W base m):Snts W W.heap.size a m/\m.length=n:=by
 obtain⟨a',c',hv,_,_⟩:=h.one
 obtain⟨rfl,rfl,rfl⟩:a=a'/\n=m.length/\cap=c':=by simpa using hv
 refine⟨⟨?_,fun x hx=>?_⟩,rfl⟩
 ·by_cases h0:0<m.length
  ·obtain⟨g,cap,hv,_,hg,_,hc⟩:=h.cells h0
   refine .inr ⟨g,0,?_,hg,fun j hj=>by rw[Nat.zero_add];exact hc j hj⟩
   simp at hv
   exact hv.1
  ·exact .inl (List.eq_nil_of_length_eq_zero (by omega))
 ·obtain⟨a,cap,hv,hc,hs⟩:=(hp x hx).strs
  exact⟨a,cap,hv,hc,hs⟩
end Go.Proofs.YtpddanmnlkcdpaaGreatDoor.Pl


namespace Go.Proofs.YtpddanmnlkcdpaaGreatDoor.Kp
open Go.RowKit
open Gn (rd rt handle_below)
open St (OwnS Strs)
open Ls (HH hh_keep num_all text_all cells3 set3_all set_j3)
theorem KeepsS.set3 {W:World} {g:Nat} {x y z:Value} {T:TypeId} (hg:W.heap[g]? = some (.cells #[x,y,z] T (0,0))) (hT:T≠9) (a b c:Value):KeepsS W (((W.setCell ⟨g,0,none⟩ a).setCell ⟨g,1,none⟩ b).setCell ⟨g,2,none⟩ c) :=
 ((KeepsS.set hg hT 0 a).trans (KeepsS.set (set_j3 hg a).1 hT 1 b)).trans (KeepsS.set (set_j3 (set_j3 hg a).1 b).2.1 hT 2 c)
theorem inner_no {s:ByteArray} (h:¬innerOk s):innerR s=none:=if_neg h
theorem inner_path {s:ByteArray} (h:innerOk s) (hp:pathR s (rd s (rt s (rd s 0).2.1).2.1).1.toNat (rd s (rt s (rd s 0).2.1).2.1).2.1 []=none):innerR s=none:=by
 unfold innerR
 rw[if_pos h,hp]
theorem inner_yes {s:ByteArray} {q:List ByteArray × Nat} (h:innerOk s) (hp:pathR s (rd s (rt s (rd s 0).2.1).2.1).1.toNat (rd s (rt s (rd s 0).2.1).2.1).2.1 []=some q):innerR s=if q.2=s.size then some ((rd s 0).1,(rt s (rd s 0).2.1).1,q.1) else none:=by
 unfold innerR
 rw[if_pos h,hp]
def PathO (B:Nat) (W:World) (v:Value) (p:List ByteArray):Prop:=OwnS W B v p
theorem PathO.keeps {B:Nat} {W W':World} {v:Value} {p:List ByteArray} (h:PathO B W v p) (k:KeepsS W W'):PathO B W' v p:=by
 obtain⟨hl,h⟩:=h
 refine⟨hl,?_⟩
 rcases h with h|⟨g,cap,cur,hv,hg,hb,rest⟩
 ·exact .inl h
 ·exact .inr ⟨g,cap,cur,hv,hg,k g cur hb,rest⟩
theorem PathO.drew {B:Nat} {W:World} {v:Value} {p:List ByteArray} (h:PathO B W v p):PathO B W.drew v p:=h.keeps (fun _ _ e=>e)
theorem PathO.mono {B C:Nat} {W:World} {v:Value} {p:List ByteArray} (h:PathO B W v p) (hB:C<=B):PathO C W v p:=OwnS.mono h hB
theorem PathO.strs {B:Nat} {W:World} {v:Value} {p:List ByteArray} (h:PathO B W v p):∃ a cap,v=.slice a p.length cap/\p.length<=cap/\Strs W W.heap.size a p:=OwnS.strs h
theorem readInner_any (s:ByteArray) (w:World) (hs:s.size<=1048576) (hh:HH w) :
  Calls Tryz.prog 137 #[.string s] w fun r w' =>
   ((∃ x v,innerR s=some x/\r=.returned (.tuple #[.agg #[.int .i64 x.1,.string x.2.1,v],.bool true])/\PathO w.heap.size w' v x.2.2) ∨
   (innerR s=none/\r=.returned (.tuple #[.agg #[.int .i64 0,.string ⟨#[]⟩,.slice none 0 0],.bool false])))/\Below w.heap.size w w':=by
 have HHW:Hid (∀ W,Below w.heap.size w W->HH W):=fun W h=>hh_keep hh h
 have hs2:s.size<=maxLen:=by unfold maxLen;omega
 have H1:=hideK (fun W h=>Gn.get_impl s 0 W hs2 h)
 have H2:=hideK (fun W h=>Gn.text_impl s (rd s 0).2.1 W hs2 h)
 have H3:=hideK (fun W h=>Gn.get_impl s (rt s (rd s 0).2.1).2.1 W hs2 h)
 have HP:=hideK (fun n W hn=>readPath_any s (rd s (rt s (rd s 0).2.1).2.1).2.1 n W hs2 hn)
 rw[num_all]at H1 H3
 rw[text_all]at H2
 have HNO:=hideK (inner_no (s:=s))
 have HPA:=hideK (inner_path (s:=s))
 have HYE:=hideK (fun q=>inner_yes (s:=s) (q:=q))
 change Hid (∀ W,HH W->_) at H1 H2 H3
 unfold innerOk at HNO HPA HYE
 generalize innerR s=R at HNO HPA HYE ⊢
 generalize rd s (rt s (rd s 0).2.1).2.1=x3 at H3 HP HNO HPA HYE
 generalize rt s (rd s 0).2.1=x2 at H2 H3 HNO HPA HYE
 generalize rd s 0=x1 at H1 H2 HNO HPA HYE
 obtain⟨i,p1,c1⟩:=x1
 obtain⟨t,p2,c2⟩:=x2
 obtain⟨n,p3,c3⟩:=x3
 dsimp only at H1 H2 H3 HP HNO HPA HYE
 clear hh
 go_enter Tryz.func137,Tryz.ntmps137
 go_wp2_with fail
 have C0:=hideK ((Cx.nil w).new (.cells #[.int .i64 0,.string ⟨#[]⟩,.slice none 0 0] 129))
 generalize w.alloc (.cells #[.int .i64 0,.string ⟨#[]⟩,.slice none 0 0] 129)=W0 at C0 ⊢
 refine(H1.out _ (HHW.out _ C0.out.low)).mono ?_
 rintro e v1 ⟨rfl,hb⟩
 have C1:=hideK ((C0.out.call hb).new (.cells #[.int .i64 i,.int .i64 p1,.int .i64 c1] 183))
 clear hb C0
 go_wp2_with fail
 generalize v1.alloc (.cells #[.int .i64 i,.int .i64 p1,.int .i64 c1] 183)=W1 at C1 ⊢
 refine(H2.out _ (HHW.out _ C1.out.low)).mono ?_
 rintro e v2 ⟨rfl,hb⟩
 have C2:=hideK ((C1.out.call hb).new (.cells #[.string t,.int .i64 p2,.int .i64 c2] 179))
 clear hb C1
 go_wp2_with fail
 generalize v2.alloc (.cells #[.string t,.int .i64 p2,.int .i64 c2] 179)=W2 at C2 ⊢
 refine(H3.out _ (HHW.out _ C2.out.low)).mono ?_
 rintro e v3 ⟨rfl,hb⟩
 have C3:=hideK ((C2.out.call hb).new (.cells #[.int .i64 n,.int .i64 p3,.int .i64 c3] 183))
 clear hb C2
 go_upto_region 4 with fail
 generalize v3.alloc (.cells #[.int .i64 n,.int .i64 p3,.int .i64 c3] 183)=W3 at C3 ⊢
 obtain⟨a0,a1,a2⟩:=cells3 (C3.out.get 2 rfl)
 obtain⟨b0,b1,b2⟩:=cells3 (C3.out.get 1 rfl)
 obtain⟨d0,d1,d2⟩:=cells3 (C3.out.get 0 rfl)
 obtain⟨q0,q1,q2⟩:=cells3 (C3.out.get 3 rfl)
 have ff:=fun o=>frozen_of_row W3 w.heap.size o _ _ (C3.out.get 3 rfl)
 have s3:=set3_all (C3.out.get 3 rfl) (.int .i64 0) (.string ⟨#[]⟩) (.slice none 0 0)
 have E3:=hideK (set3_low C3.out.low (Nat.le_refl _) (.int .i64 0) (.string ⟨#[]⟩) (.slice none 0 0))
 generalize v1.heap.size=g1 at C3 a0 a1 a2 ⊢
 generalize v2.heap.size=g2 at C3 b0 b1 b2 ⊢
 generalize v3.heap.size=g3 at C3 d0 d1 d2 ⊢
 by_cases h1:c1=0
 ·have h1':(c1 != 0)=false:=by simp;exact h1
  by_cases h2:c2=0
  ·have h2':(c2 != 0)=false:=by simp;exact h2
   by_cases h3:c3=0
   ·have h3':(c3 != 0)=false:=by simp;exact h3
    have K:=hideK (And.intro h1 (And.intro h2 h3))
    clear h1 h2 h3
    by_cases h4:n<0
    ·have HX:=hideK (HNO.out (fun h=>by omega))
     go_wp2_with fail
     refine bodyPost_ret (v:=.tuple #[.agg #[.int .i64 0,.string ⟨#[]⟩,.slice none 0 0],.bool false]) (by simp[results,Tryz.results137,go_sem,s3.1,s3.2.1,s3.2.2]) rfl ⟨.inr ⟨HX.out,rfl⟩,E3.out⟩
    ·by_cases h5:(20:Int)<n
     ·have HX:=hideK (HNO.out (fun h=>by omega))
      go_wp2_with fail
      refine bodyPost_ret (v:=.tuple #[.agg #[.int .i64 0,.string ⟨#[]⟩,.slice none 0 0],.bool false]) (by simp[results,Tryz.results137,go_sem,s3.1,s3.2.1,s3.2.2]) rfl ⟨.inr ⟨HX.out,rfl⟩,E3.out⟩
     ·have HOK:=hideK (And.intro K.out.1 (And.intro K.out.2.1 (And.intro K.out.2.2 (And.intro (show 0<=n by omega) (show n<=20 by omega)))))
      obtain⟨k,rfl⟩:=Int.eq_ofNat_of_zero_le (show 0<=n by omega)
      have HPK:=hideK (fun W=>HP.out k W (by omega))
      have HPA1:=hideK (HPA.out HOK.out)
      have HYE1:=hideK (fun q=>HYE.out q HOK.out)
      simp only[Int.toNat_natCast]at HPA1 HYE1
      generalize pathR s k p3 []=Q at HPK HPA1 HYE1
      clear HNO HPA HYE HP HOK K E3 s3 h4
      go_wp2_with fail
      refine(HPK.out _).mono ?_
      rintro e v4 ⟨⟨q,v,hq,rfl,ho⟩|⟨hq,c,rfl⟩,hb⟩
      ·obtain⟨ap,cp,rfl,_,_⟩:=ho.strs
       have O:=hideK ho
       have O0:=hideK C3.out.low.size
       have C4:=hideK (C3.out.call hb)
       have HY:=hideK (HYE1.out q hq)
       obtain⟨a0,a1,a2⟩:=cells3 (C4.out.get 2 rfl)
       obtain⟨b0,b1,b2⟩:=cells3 (C4.out.get 1 rfl)
       obtain⟨q0,q1,q2⟩:=cells3 (C4.out.get 3 rfl)
       have ff:=fun o=>frozen_of_row v4 w.heap.size o _ _ (C4.out.get 3 rfl)
       clear ho hb C3 HYE1 HPA1 hq
       by_cases he:q.2=s.size
       ·have he':((q.2:Int) != (s.size:Int))=false:=by simp;omega
        rw[if_pos he]at HY
        have s3:=set3_all (C4.out.get 3 rfl) (.int .i64 i) (.string t) (.slice ap q.1.length cp)
        have E3:=hideK (set3_low C4.out.low (Nat.le_refl _) (.int .i64 i) (.string t) (.slice ap q.1.length cp))
        have O3:Hid (PathO w.heap.size (((v4.setCell ⟨w.heap.size,0,none⟩ (.int .i64 i)).setCell ⟨w.heap.size,1,none⟩ (.string t)).setCell ⟨w.heap.size,2,none⟩ (.slice ap q.1.length cp)) (.slice ap q.1.length cp) q.1):=PathO.keeps (PathO.mono O.out O0.out) (KeepsS.set3 (C4.out.get 3 rfl) (by decide) _ _ _)
        go_wp2_with fail
        refine bodyPost_ret (v:=.tuple #[.agg #[.int .i64 i,.string t,.slice ap q.1.length cp],.bool true]) (by simp[results,Tryz.results137,go_sem,s3.1,s3.2.1,s3.2.2]) rfl ⟨.inl ⟨(i,t,q.1),_,HY.out,rfl,O3.out⟩,E3.out⟩
       ·have he':((q.2:Int) != (s.size:Int))=true:=by simp;omega
        rw[if_neg he]at HY
        have s3:=set3_all (C4.out.get 3 rfl) (.int .i64 0) (.string ⟨#[]⟩) (.slice none 0 0)
        have E3:=hideK (set3_low C4.out.low (Nat.le_refl _) (.int .i64 0) (.string ⟨#[]⟩) (.slice none 0 0))
        go_wp2_with fail
        refine bodyPost_ret (v:=.tuple #[.agg #[.int .i64 0,.string ⟨#[]⟩,.slice none 0 0],.bool false]) (by simp[results,Tryz.results137,go_sem,s3.1,s3.2.1,s3.2.2]) rfl ⟨.inr ⟨HY.out,rfl⟩,E3.out⟩
      ·have C4:=hideK (C3.out.call hb)
       have HX:=hideK (HPA1.out hq)
       obtain⟨q0,q1,q2⟩:=cells3 (C4.out.get 3 rfl)
       have ff:=fun o=>frozen_of_row v4 w.heap.size o _ _ (C4.out.get 3 rfl)
       have s3:=set3_all (C4.out.get 3 rfl) (.int .i64 0) (.string ⟨#[]⟩) (.slice none 0 0)
       have E3:=hideK (set3_low C4.out.low (Nat.le_refl _) (.int .i64 0) (.string ⟨#[]⟩) (.slice none 0 0))
       clear hb C3 HYE1 HPA1 hq
       go_wp2_with fail
       refine bodyPost_ret (v:=.tuple #[.agg #[.int .i64 0,.string ⟨#[]⟩,.slice none 0 0],.bool false]) (by simp[results,Tryz.results137,go_sem,s3.1,s3.2.1,s3.2.2]) rfl ⟨.inr ⟨HX.out,rfl⟩,E3.out⟩
   ·have h3':(c3 != 0)=true:=by simp;exact h3
    have HX:=hideK (HNO.out (fun h=>h3 h.2.2.1))
    go_wp2_with fail
    refine bodyPost_ret (v:=.tuple #[.agg #[.int .i64 0,.string ⟨#[]⟩,.slice none 0 0],.bool false]) (by simp[results,Tryz.results137,go_sem,s3.1,s3.2.1,s3.2.2]) rfl ⟨.inr ⟨HX.out,rfl⟩,E3.out⟩
  ·have h2':(c2 != 0)=true:=by simp;exact h2
   have HX:=hideK (HNO.out (fun h=>h2 h.2.1))
   go_wp2_with fail
   refine bodyPost_ret (v:=.tuple #[.agg #[.int .i64 0,.string ⟨#[]⟩,.slice none 0 0],.bool false]) (by simp[results,Tryz.results137,go_sem,s3.1,s3.2.1,s3.2.2]) rfl ⟨.inr ⟨HX.out,rfl⟩,E3.out⟩
 ·have h1':(c1 != 0)=true:=by simp;exact h1
  have HX:=hideK (HNO.out (fun h=>h1 h.1))
  go_wp2_with fail
  refine bodyPost_ret (v:=.tuple #[.agg #[.int .i64 0,.string ⟨#[]⟩,.slice none 0 0],.bool false]) (by simp[results,Tryz.results137,go_sem,s3.1,s3.2.1,s3.2.2]) rfl ⟨.inr ⟨HX.out,rfl⟩,E3.out⟩
end Go.Proofs.YtpddanmnlkcdpaaGreatDoor.Kp


/- A tick in plain words: who has an index, who is asked for it, the rarest. -/
namespace Go.Proofs.YtpddanmnlkcdpaaGreatDoor.Tk
open Pe
def ownN (l:List Oth) (x:Int):Nat:=(l.filter fun o=>decide (x∈o.has)).length
def askB (l:List Oth) (x:Int):Bool:=l.any fun o=>decide (o.asked=x+1)
theorem ownN_le (l:List Oth) (x:Int):ownN l x<=l.length:=List.length_filter_le _ _
theorem ownN_snoc (l:List Oth) (o:Oth) (x:Int):ownN (l++[o]) x=ownN l x+if x∈o.has then 1 else 0:=by
 unfold ownN
 rw[List.filter_append,List.length_append]
 by_cases h:x∈o.has
 ·simp[h]
 ·simp[h]
def candB (h:List Int) (l:List Oth) (rs:List Int) (x:Int):Bool:=decide (x∈h) && !decide (x∈rs) && !askB l x
def rareS (h:List Int) (l:List Oth) (rs:List Int) (acc:Option (Int × Nat)) (x:Int):Option (Int × Nat) :=
 if candB h l rs x=true then (match acc with|none=>some (x,ownN l x)|some (y,q)=>if ownN l x<q then some (x,ownN l x) else some (y,q)) else acc
def turnL (d:Int) (c n:Nat):List Int:=(List.range n).map fun (i:Nat)=>(d+(i:Int))%(c:Int)
theorem turnL_snoc (d:Int) (c n:Nat):turnL d c (n+1)=turnL d c n++[(d+(n:Nat))%(c:Int)]:=by
 unfold turnL
 rw[List.range_succ,List.map_append]
 rfl
def rareZ (h:List Int) (l:List Oth) (rs:List Int) (d:Int) (c n:Nat):Option (Int × Nat):=(turnL d c n).foldl (rareS h l rs) none
theorem rareZ_succ (h:List Int) (l:List Oth) (rs:List Int) (d:Int) (c n:Nat):rareZ h l rs d c (n+1)=rareS h l rs (rareZ h l rs d c n) ((d+(n:Nat))%(c:Int)):=by
 unfold rareZ
 rw[turnL_snoc,List.foldl_append]
 rfl
def oldO (o:Oth):Oth:=if o.asked=0 then o else if 3<o.age+1 then { o with asked:=0,age:=0 } else { o with age:=o.age+1 }
end Go.Proofs.YtpddanmnlkcdpaaGreatDoor.Tk

