/- Texts put together: PePlain, PeRow, PlRow, PeSz, PeRight, KpRec, StrEq. -/
import Derived.Test.YtpddanmnlkcdpaaGreatDoorMz22
import Derived.Test.YtpddanmnlkcdpaaGreatDoorMz26
import Derived.Laws.Cover1
import Derived.Test.YtpddanmnlkcdpaaGreatDoorMz25
import Derived.Test.YtpddanmnlkcdpaaGreatDoorMz12
import Derived.Test.YtpddanmnlkcdpaaGreatDoorMz28
import Derived.Lib.QuietBelow
import Derived.BigQuiet
import Derived.Test.YtpddanmnlkcdpaaGreatDoorMz10
import Derived.BigRegion
import Derived.Deep.QuietTactic
set_option maxRecDepth 100000
set_option maxHeartbeats 8000000
/- A peer in plain words: others, and when they are right. -/
namespace Go.Proofs.YtpddanmnlkcdpaaGreatDoor.Pe
open Go.RowKit
open Go.Proofs.YtpddanmnlkcdpaaGreatDoor.Nm (nameB)
structure Oth where
 name:ByteArray
 has:List Int
 asked:Int
 age:Int
 strikes:Int
def RisesTo (l:List Int) (c:Int) (n:Nat):Prop:=∀ j (hj:j<l.length),j<n->0<=l[j]/\l[j]<c/\(0<j->l.getD (j-1) 0<l[j])
noncomputable def risesB (l:List Int) (c:Int):Bool:=@decide (RisesTo l c l.length) (Classical.propDecidable _)
theorem risesB_yes {l:List Int} {c:Int} (h:RisesTo l c l.length):risesB l c=true:=by
 unfold risesB
 exact @decide_eq_true _ (Classical.propDecidable _) h
theorem risesB_no {l:List Int} {c:Int} (h:¬RisesTo l c l.length):risesB l c=false:=by
 unfold risesB
 exact @decide_eq_false _ (Classical.propDecidable _) h
theorem rises_zero (l:List Int) (c:Int):RisesTo l c 0:=fun _ _ h=>absurd h (Nat.not_lt_zero _)
def aheadZ (l:List Int) (j:Nat):Int:=if j=0 then -1 else l.getD (j-1) 0
theorem aheadZ_next (l:List Int) (j:Nat) (h:j<l.length):aheadZ l (j+1)=l[j]:=by
 unfold aheadZ
 rw[if_neg (by omega),Nat.add_sub_cancel,List.getD_eq_getElem?_getD,List.getElem?_eq_getElem h]
 rfl
theorem rises_step {l:List Int} {c:Int} {j:Nat} (hj:j<l.length) (h:RisesTo l c j) (h1:aheadZ l j<l[j]) (h2:l[j]<c):RisesTo l c (j+1):=by
 intro i hi hij
 by_cases e:i=j
 ·subst e
  unfold aheadZ at h1
  by_cases h0:i=0
  ·rw[if_pos h0]at h1
   exact⟨by omega,h2,fun h=>by omega⟩
  ·rw[if_neg h0]at h1
   have:=(h (i-1) (by omega) (by omega)).1
   rw[List.getD_eq_getElem?_getD,List.getElem?_eq_getElem (by omega)]at h1
   simp at h1
   refine⟨by omega,h2,fun _=>?_⟩
   rw[List.getD_eq_getElem?_getD,List.getElem?_eq_getElem (by omega)]
   simpa using h1
 ·exact h i hi (by omega)
theorem rises_bad {l:List Int} {c:Int} {j:Nat} (hj:j<l.length) (h:¬(aheadZ l j<l[j]/\l[j]<c)):¬RisesTo l c l.length:=by
 intro hr
 have hq:=hr j hj hj
 apply h
 refine⟨?_,hq.2.1⟩
 unfold aheadZ
 by_cases h0:j=0
 ·rw[if_pos h0]
  omega
 ·rw[if_neg h0]
  exact hq.2.2 (by omega)
theorem rises_step2 {l:List Int} {c:Int} {j:Nat} (hj:j<l.length) (h:RisesTo l c j) (h0:0<=l[j]) (h2:l[j]<c) (h1:0<j->l.getD (j-1) 0<l[j]):RisesTo l c (j+1):=by
 intro i hi hij
 by_cases e:i=j
 ·subst e
  exact⟨h0,h2,h1⟩
 ·exact h i hi (by omega)
theorem rises_bad2 {l:List Int} {c:Int} {j:Nat} (hj:j<l.length) (h:¬(0<=l[j]/\l[j]<c/\(0<j->l.getD (j-1) 0<l[j]))):¬RisesTo l c l.length:=fun hr=>h (hr j hj hj)
def askB (o:Oth) (c:Int):Bool:=decide (0<=o.asked/\o.asked<=c/\0<=o.age/\o.age<=3/\(0<o.asked∨o.age=0))
def strB (o:Oth):Bool:=decide (0<=o.strikes/\o.strikes<=3)
def banB (o:Oth):Bool:=o.strikes==3
def shutB (o:Oth):Bool:=!banB o || (decide (o.has.length=0) && decide (o.asked=0))
noncomputable def othB (o:Oth) (c:Int):Bool:=nameB o.name && risesB o.has c && askB o c && strB o && shutB o
def ltN (a b:ByteArray):Bool:=Op.bytesLess a.toList b.toList
def OthsTo (l:List Oth) (c:Int) (n:Nat):Prop:=∀ j (hj:j<l.length),j<n->othB l[j] c=true/\(∀ i (hi:i<l.length),i+1=j->ltN l[i].name l[j].name=true)
noncomputable def othsB (l:List Oth) (c:Int):Bool:=@decide (l.length<=4/\OthsTo l c l.length) (Classical.propDecidable _)
theorem othsB_yes {l:List Oth} {c:Int} (h1:l.length<=4) (h:OthsTo l c l.length):othsB l c=true:=by
 unfold othsB
 exact @decide_eq_true _ (Classical.propDecidable _) ⟨h1,h⟩
theorem othsB_no {l:List Oth} {c:Int} (h:¬OthsTo l c l.length):othsB l c=false:=by
 unfold othsB
 exact @decide_eq_false _ (Classical.propDecidable _) (fun h'=>h h'.2)
theorem othsB_long {l:List Oth} {c:Int} (h:4<l.length):othsB l c=false:=by
 unfold othsB
 exact @decide_eq_false _ (Classical.propDecidable _) (fun h'=>by omega)
theorem oths_of {l:List Oth} {c:Int} (h:othsB l c=true):l.length<=4/\OthsTo l c l.length:=by
 unfold othsB at h
 exact @of_decide_eq_true _ (Classical.propDecidable _) h
theorem oths_zero (l:List Oth) (c:Int):OthsTo l c 0:=fun _ _ h=>absurd h (Nat.not_lt_zero _)
theorem oths_step {l:List Oth} {c:Int} {j:Nat} (hj:j<l.length) (h:OthsTo l c j) (h1:othB l[j] c=true) (h2:∀ i (hi:i<l.length),i+1=j->ltN l[i].name l[j].name=true):OthsTo l c (j+1):=by
 intro i hi hij
 by_cases e:i=j
 ·subst e
  exact⟨h1,h2⟩
 ·exact h i hi (by omega)
end Go.Proofs.YtpddanmnlkcdpaaGreatDoor.Pe


/- Others in memory: as a slice sees them, and as a row that a call owns. -/
namespace Go.Proofs.YtpddanmnlkcdpaaGreatDoor.Pe
open Go.RowKit
open Kp
open In (Ints OwnI)
abbrev MO:=Oth × Value
def othV (x:MO):Value:=.agg #[.string x.1.name,x.2,.int .i64 x.1.asked,.int .i64 x.1.age,.int .i64 x.1.strikes]
def othO (x:MO) (T:TypeId):Obj:=.cells #[.string x.1.name,x.2,.int .i64 x.1.asked,.int .i64 x.1.age,.int .i64 x.1.strikes] T
def five (x:MO):List Value:=[.string x.1.name,x.2,.int .i64 x.1.asked,.int .i64 x.1.age,.int .i64 x.1.strikes]
def cellsO:List MO->List Value
 |[]=>[]
 |x :: m=>.string x.1.name :: x.2 :: .int .i64 x.1.asked :: .int .i64 x.1.age :: .int .i64 x.1.strikes :: cellsO m
theorem cellsO_length:∀ m:List MO,(cellsO m).length=m.length*5
 |[]=>rfl
 |x :: m=>by
  rw[cellsO,List.length_cons,List.length_cons,List.length_cons,List.length_cons,List.length_cons,cellsO_length m,List.length_cons]
  omega
theorem cellsO_append:∀ m k:List MO,cellsO (m++k)=cellsO m++cellsO k
 |[],k=>rfl
 |x :: m,k=>by
  rw[List.cons_append,cellsO,cellsO,cellsO_append m k]
  rfl
theorem cellsO_at:∀ (m:List MO) (i:Nat) (h:i<m.length),(cellsO m)[i*5]? = some (.string m[i].1.name)/\(cellsO m)[i*5+1]? = some m[i].2/\(cellsO m)[i*5+2]? = some (.int .i64 m[i].1.asked)/\(cellsO m)[i*5+3]? = some (.int .i64 m[i].1.age)/\(cellsO m)[i*5+4]? = some (.int .i64 m[i].1.strikes)
 |x :: m,0,_=>⟨rfl,rfl,rfl,rfl,rfl⟩
 |x :: m,i+1,h=>by
  have:=cellsO_at m i (Nat.lt_of_succ_lt_succ h)
  rw[cellsO,show (i+1)*5=i*5+5 by omega,show i*5+5+1=(i*5+1)+5 by omega,show i*5+5+2=(i*5+2)+5 by omega,show i*5+5+3=(i*5+3)+5 by omega,show i*5+5+4=(i*5+4)+5 by omega]
  exact this
def HasAt (W:World) (B:Nat) (x:MO):Prop:=∃ a cap,x.2=.slice a x.1.has.length cap/\x.1.has.length<=cap/\(a=none->cap=0)/\Ints W B a x.1.has
theorem HasAt.below {W W':World} {B:Nat} {x:MO} (h:HasAt W B x) (hb:Below B W W'):HasAt W' B x:=by
 obtain⟨a,cap,hv,hc,hn,hi⟩:=h
 exact⟨a,cap,hv,hc,hn,hi.below hb⟩
theorem HasAt.mono {W:World} {B C:Nat} {x:MO} (h:HasAt W B x) (hB:B<=C):HasAt W C x:=by
 obtain⟨a,cap,hv,hc,hn,hi⟩:=h
 exact⟨a,cap,hv,hc,hn,hi.mono hB⟩
def FiveAt (W:World) (b o:Nat) (x:MO):Prop:=W.cell? ⟨b,o,none⟩=some (.string x.1.name)/\W.cell? ⟨b,o+1,none⟩=some x.2/\W.cell? ⟨b,o+2,none⟩=some (.int .i64 x.1.asked)/\W.cell? ⟨b,o+3,none⟩=some (.int .i64 x.1.age)/\W.cell? ⟨b,o+4,none⟩=some (.int .i64 x.1.strikes)
theorem FiveAt.below {W W':World} {B b o:Nat} {x:MO} (h:FiveAt W b o x) (hb:Below B W W') (hlt:b<B):FiveAt W' b o x:=by
 obtain⟨h0,h1,h2,h3,h4⟩:=h
 exact⟨(hb.cell (p:=⟨b,o,none⟩) hlt).trans h0,(hb.cell (p:=⟨b,o+1,none⟩) hlt).trans h1,(hb.cell (p:=⟨b,o+2,none⟩) hlt).trans h2,(hb.cell (p:=⟨b,o+3,none⟩) hlt).trans h3,(hb.cell (p:=⟨b,o+4,none⟩) hlt).trans h4⟩
def Oths (W:World) (B:Nat) (a:Option Addr) (m:List MO):Prop :=
 (m=[]∨∃ b off,a=some ⟨b,off,none⟩/\b<B/\∀ j (h:j<m.length),FiveAt W b (off+j*5) m[j])/\∀ x∈m,HasAt W B x
theorem Oths.below {W W':World} {B:Nat} {a:Option Addr} {m:List MO} (h:Oths W B a m) (hb:Below B W W'):Oths W' B a m:=by
 refine⟨?_,fun x hx=>(h.2 x hx).below hb⟩
 rcases h.1 with h0|⟨b,off,rfl,hlt,hc⟩
 ·exact .inl h0
 ·exact .inr ⟨b,off,rfl,hlt,fun j hj=>(hc j hj).below hb hlt⟩
theorem Oths.mono {W:World} {B C:Nat} {a:Option Addr} {m:List MO} (h:Oths W B a m) (hB:B<=C):Oths W C a m:=by
 refine⟨?_,fun x hx=>(h.2 x hx).mono hB⟩
 rcases h.1 with h0|⟨b,off,rfl,hlt,hc⟩
 ·exact .inl h0
 ·exact .inr ⟨b,off,rfl,Nat.lt_of_lt_of_le hlt hB,hc⟩
theorem Oths.later {W W':World} {a:Option Addr} {m:List MO} (h:Oths W W.heap.size a m) (hb:Below W.heap.size W W'):Oths W' W'.heap.size a m:=(h.below hb).mono hb.size
theorem Oths.some {W:World} {B:Nat} {a:Option Addr} {m:List MO} (h:Oths W B a m) (hl:0<m.length):∃ b off,a=.some ⟨b,off,none⟩/\b<B/\∀ j (h:j<m.length),FiveAt W b (off+j*5) m[j]:=by
 rcases h.1 with h0|h
 ·subst h0;simp at hl
 ·exact h
theorem oths_nil (W:World) (B:Nat) (a:Option Addr):Oths W B a []:=⟨.inl rfl,fun _ hx=>absurd hx List.not_mem_nil⟩
def oths (m:List MO):List Oth:=m.map (·.1)
theorem oths_length (m:List MO):(oths m).length=m.length:=List.length_map ..
theorem oths_get (m:List MO) (j:Nat) (h:j<m.length):(oths m)[j]'(by rw[oths_length];exact h)=m[j].1:=by simp[oths]
def OwnO (W:World) (base:Nat) (v:Value) (m:List MO):Prop:=W.ownsRow base 86 5 v m.length (cellsO m)
theorem OwnO.nil (w:World) (base:Nat):OwnO w base (.slice none 0 0) []:=World.ownsRow_nil w base _ _
theorem OwnO.alloc {W:World} {base:Nat} {v:Value} {m:List MO} (h:OwnO W base v m) (o:Obj):OwnO (W.alloc o) base v m:=World.ownsRow.alloc h o
theorem OwnO.below {w w':World} {base:Nat} {v:Value} {m:List MO} (h:OwnO w base v m) (b:Below w.heap.size w w'):OwnO w' base v m:=by
 obtain⟨hl,h⟩:=h
 refine⟨hl,?_⟩
 rcases h with h|⟨g,cap,cur,hv,hg,hb,rest⟩
 ·exact .inl h
 ·exact .inr ⟨g,cap,cur,hv,hg,by rw[b.block g (lt_rowK hb)];exact hb,rest⟩
theorem OwnO.mono {w:World} {base base':Nat} {v:Value} {m:List MO} (h:OwnO w base v m) (hb:base'<=base):OwnO w base' v m:=by
 obtain⟨hl,h⟩:=h
 refine⟨hl,?_⟩
 rcases h with h|⟨g,cap,cur,hv,hg,rest⟩
 ·exact .inl h
 ·exact .inr ⟨g,cap,cur,hv,Nat.le_trans hb hg,rest⟩
theorem OwnO.one {W:World} {base:Nat} {v:Value} {m:List MO} (h:OwnO W base v m):∃ a cap,v=.slice a m.length cap/\m.length<=cap/\(a=none->cap=0):=by
 obtain⟨_,h⟩:=h
 rcases h with⟨h,h0⟩|⟨g,cap,cur,hv,_,_,hn,_⟩
 ·exact⟨none,0,by rw[h,h0],by omega,fun _=>rfl⟩
 ·exact⟨_,cap,hv,hn,fun h=>by cases h⟩
theorem OwnO.cells {W:World} {base:Nat} {v:Value} {m:List MO} (h:OwnO W base v m) (h0:0<m.length):∃ g cap,v=.slice (some ⟨g,0,none⟩) m.length cap/\base<=g/\g<W.heap.size/\m.length<=cap/\∀ i (hi:i<m.length),FiveAt W g (i*5) m[i]:=by
 obtain⟨_,h⟩:=h
 rcases h with⟨_,h⟩|⟨g,cap,cur,hv,hg,hb,hn,_,hs,ht⟩
 ·omega
 ·refine⟨g,cap,hv,hg,lt_rowK hb,hn,fun i hi=>?_⟩
  have hc:=cellsO_at m i hi
  rw[<-ht]at hc
  rw[List.getElem?_take_of_lt (by omega),List.getElem?_take_of_lt (by omega),List.getElem?_take_of_lt (by omega),List.getElem?_take_of_lt (by omega),List.getElem?_take_of_lt (by omega),Array.getElem?_toList,Array.getElem?_toList,Array.getElem?_toList,Array.getElem?_toList,Array.getElem?_toList]at hc
  exact⟨(cell_of_row W g _ _ _ _ hb).trans hc.1,(cell_of_row W g _ _ _ _ hb).trans hc.2.1,(cell_of_row W g _ _ _ _ hb).trans hc.2.2.1,(cell_of_row W g _ _ _ _ hb).trans hc.2.2.2.1,(cell_of_row W g _ _ _ _ hb).trans hc.2.2.2.2⟩
theorem OwnO.snoc {W:World} {base:Nat} {v:Value} {m:List MO} {x:MO} (h:W.ownsRow base 86 5 v (m.length+1) (cellsO m++[.string x.1.name,x.2,.int .i64 x.1.asked,.int .i64 x.1.age,.int .i64 x.1.strikes])):OwnO W base v (m++[x]):=by
 unfold OwnO
 rw[List.length_append,cellsO_append]
 exact h
theorem five_new (W:World) (x0 x1 x2 x3 x4:Value) (t:TypeId):∀ (j:Nat) (u:Value),[x0,x1,x2,x3,x4][j]? = .some u->(W.alloc (.cells #[x0,x1,x2,x3,x4] t)).cell? ((⟨W.heap.size,0,none⟩:Addr).add j)=.some u:=by
 intro j u hj
 match j,hj with
 |0,hj=>simp at hj;subst hj;simp[Addr.add]
 |1,hj=>simp at hj;subst hj;simp[Addr.add]
 |2,hj=>simp at hj;subst hj;simp[Addr.add]
 |3,hj=>simp at hj;subst hj;simp[Addr.add]
 |4,hj=>simp at hj;subst hj;simp[Addr.add]
theorem five_one {x0 x1 x2 x3 x4:Value} (h0:x0.oneCell'=true) (h1:x1.oneCell'=true) (h2:x2.oneCell'=true) (h3:x3.oneCell'=true) (h4:x4.oneCell'=true):∀ u∈[x0,x1,x2,x3,x4],u.oneCell'=true:=by
 intro u hu
 simp at hu
 rcases hu with rfl|rfl|rfl|rfl|rfl
 ·exact h0
 ·exact h1
 ·exact h2
 ·exact h3
 ·exact h4
end Go.Proofs.YtpddanmnlkcdpaaGreatDoor.Pe


/- Letters in memory: as a slice sees them, and as a row that a call owns. -/
namespace Go.Proofs.YtpddanmnlkcdpaaGreatDoor.Pl
open Go.RowKit
open Kp
open St (Strs OwnS)
structure Snt where
 who:ByteArray
 kind:Int
 index:Int
 piece:ByteArray
 path:List ByteArray
abbrev ML:=Snt × Value
def sntV (x:ML):Value:=.agg #[.string x.1.who,.int .i64 x.1.kind,.int .i64 x.1.index,.string x.1.piece,x.2]
def cellsL:List ML->List Value
 |[]=>[]
 |x :: m=>.string x.1.who :: .int .i64 x.1.kind :: .int .i64 x.1.index :: .string x.1.piece :: x.2 :: cellsL m
theorem cellsL_append:∀ m k:List ML,cellsL (m++k)=cellsL m++cellsL k
 |[],k=>rfl
 |x :: m,k=>by
  rw[List.cons_append,cellsL,cellsL,cellsL_append m k]
  rfl
theorem cellsL_at:∀ (m:List ML) (i:Nat) (h:i<m.length),(cellsL m)[i*5]? = some (.string m[i].1.who)/\(cellsL m)[i*5+1]? = some (.int .i64 m[i].1.kind)/\(cellsL m)[i*5+2]? = some (.int .i64 m[i].1.index)/\(cellsL m)[i*5+3]? = some (.string m[i].1.piece)/\(cellsL m)[i*5+4]? = some m[i].2
 |x :: m,0,_=>⟨rfl,rfl,rfl,rfl,rfl⟩
 |x :: m,i+1,h=>by
  have:=cellsL_at m i (Nat.lt_of_succ_lt_succ h)
  rw[cellsL,show (i+1)*5=i*5+5 by omega,show i*5+5+1=(i*5+1)+5 by omega,show i*5+5+2=(i*5+2)+5 by omega,show i*5+5+3=(i*5+3)+5 by omega,show i*5+5+4=(i*5+4)+5 by omega]
  exact this
def PathAt (W:World) (B:Nat) (x:ML):Prop:=∃ a cap,x.2=.slice a x.1.path.length cap/\x.1.path.length<=cap/\Strs W B a x.1.path
theorem PathAt.below {W W':World} {B:Nat} {x:ML} (h:PathAt W B x) (hb:Below B W W'):PathAt W' B x:=by
 obtain⟨a,cap,hv,hc,hi⟩:=h
 exact⟨a,cap,hv,hc,hi.below hb⟩
theorem PathAt.mono {W:World} {B C:Nat} {x:ML} (h:PathAt W B x) (hB:B<=C):PathAt W C x:=by
 obtain⟨a,cap,hv,hc,hi⟩:=h
 exact⟨a,cap,hv,hc,hi.mono hB⟩
def FiveL (W:World) (b o:Nat) (x:ML):Prop:=W.cell? ⟨b,o,none⟩=some (.string x.1.who)/\W.cell? ⟨b,o+1,none⟩=some (.int .i64 x.1.kind)/\W.cell? ⟨b,o+2,none⟩=some (.int .i64 x.1.index)/\W.cell? ⟨b,o+3,none⟩=some (.string x.1.piece)/\W.cell? ⟨b,o+4,none⟩=some x.2
theorem FiveL.below {W W':World} {B b o:Nat} {x:ML} (h:FiveL W b o x) (hb:Below B W W') (hlt:b<B):FiveL W' b o x:=by
 obtain⟨h0,h1,h2,h3,h4⟩:=h
 exact⟨(hb.cell (p:=⟨b,o,none⟩) hlt).trans h0,(hb.cell (p:=⟨b,o+1,none⟩) hlt).trans h1,(hb.cell (p:=⟨b,o+2,none⟩) hlt).trans h2,(hb.cell (p:=⟨b,o+3,none⟩) hlt).trans h3,(hb.cell (p:=⟨b,o+4,none⟩) hlt).trans h4⟩
def Snts (W:World) (B:Nat) (a:Option Addr) (m:List ML):Prop :=
 (m=[]∨∃ b off,a=some ⟨b,off,none⟩/\b<B/\∀ j (h:j<m.length),FiveL W b (off+j*5) m[j])/\∀ x∈m,PathAt W B x
theorem Snts.below {W W':World} {B:Nat} {a:Option Addr} {m:List ML} (h:Snts W B a m) (hb:Below B W W'):Snts W' B a m:=by
 refine⟨?_,fun x hx=>(h.2 x hx).below hb⟩
 rcases h.1 with h0|⟨b,off,rfl,hlt,hc⟩
 ·exact .inl h0
 ·exact .inr ⟨b,off,rfl,hlt,fun j hj=>(hc j hj).below hb hlt⟩
theorem Snts.mono {W:World} {B C:Nat} {a:Option Addr} {m:List ML} (h:Snts W B a m) (hB:B<=C):Snts W C a m:=by
 refine⟨?_,fun x hx=>(h.2 x hx).mono hB⟩
 rcases h.1 with h0|⟨b,off,rfl,hlt,hc⟩
 ·exact .inl h0
 ·exact .inr ⟨b,off,rfl,Nat.lt_of_lt_of_le hlt hB,hc⟩
theorem Snts.some {W:World} {B:Nat} {a:Option Addr} {m:List ML} (h:Snts W B a m) (hl:0<m.length):∃ b off,a=.some ⟨b,off,none⟩/\b<B/\∀ j (h:j<m.length),FiveL W b (off+j*5) m[j]:=by
 rcases h.1 with h0|h
 ·subst h0;simp at hl
 ·exact h
def snts (m:List ML):List Snt:=m.map (·.1)
theorem snts_length (m:List ML):(snts m).length=m.length:=List.length_map ..
theorem snts_get (m:List ML) (j:Nat) (h:j<m.length):(snts m)[j]'(by rw[snts_length];exact h)=m[j].1:=by simp[snts]
def OwnL (W:World) (base:Nat) (v:Value) (m:List ML):Prop:=W.ownsRow base 114 5 v m.length (cellsL m)
theorem OwnL.nil (w:World) (base:Nat):OwnL w base (.slice none 0 0) []:=World.ownsRow_nil w base _ _
theorem OwnL.alloc {W:World} {base:Nat} {v:Value} {m:List ML} (h:OwnL W base v m) (o:Obj):OwnL (W.alloc o) base v m:=World.ownsRow.alloc h o
theorem OwnL.below {w w':World} {base:Nat} {v:Value} {m:List ML} (h:OwnL w base v m) (b:Below w.heap.size w w'):OwnL w' base v m:=by
 obtain⟨hl,h⟩:=h
 refine⟨hl,?_⟩
 rcases h with h|⟨g,cap,cur,hv,hg,hb,rest⟩
 ·exact .inl h
 ·exact .inr ⟨g,cap,cur,hv,hg,by rw[b.block g (lt_rowK hb)];exact hb,rest⟩
theorem OwnL.mono {w:World} {base base':Nat} {v:Value} {m:List ML} (h:OwnL w base v m) (hb:base'<=base):OwnL w base' v m:=by
 obtain⟨hl,h⟩:=h
 refine⟨hl,?_⟩
 rcases h with h|⟨g,cap,cur,hv,hg,rest⟩
 ·exact .inl h
 ·exact .inr ⟨g,cap,cur,hv,Nat.le_trans hb hg,rest⟩
theorem OwnL.one {W:World} {base:Nat} {v:Value} {m:List ML} (h:OwnL W base v m):∃ a cap,v=.slice a m.length cap/\m.length<=cap/\(a=none->cap=0):=by
 obtain⟨_,h⟩:=h
 rcases h with⟨h,h0⟩|⟨g,cap,cur,hv,_,_,hn,_⟩
 ·exact⟨none,0,by rw[h,h0],by omega,fun _=>rfl⟩
 ·exact⟨_,cap,hv,hn,fun h=>by cases h⟩
theorem OwnL.cells {W:World} {base:Nat} {v:Value} {m:List ML} (h:OwnL W base v m) (h0:0<m.length):∃ g cap,v=.slice (some ⟨g,0,none⟩) m.length cap/\base<=g/\g<W.heap.size/\m.length<=cap/\∀ i (hi:i<m.length),FiveL W g (i*5) m[i]:=by
 obtain⟨_,h⟩:=h
 rcases h with⟨_,h⟩|⟨g,cap,cur,hv,hg,hb,hn,_,hs,ht⟩
 ·omega
 ·refine⟨g,cap,hv,hg,lt_rowK hb,hn,fun i hi=>?_⟩
  have hc:=cellsL_at m i hi
  rw[<-ht]at hc
  rw[List.getElem?_take_of_lt (by omega),List.getElem?_take_of_lt (by omega),List.getElem?_take_of_lt (by omega),List.getElem?_take_of_lt (by omega),List.getElem?_take_of_lt (by omega),Array.getElem?_toList,Array.getElem?_toList,Array.getElem?_toList,Array.getElem?_toList,Array.getElem?_toList]at hc
  exact⟨(cell_of_row W g _ _ _ _ hb).trans hc.1,(cell_of_row W g _ _ _ _ hb).trans hc.2.1,(cell_of_row W g _ _ _ _ hb).trans hc.2.2.1,(cell_of_row W g _ _ _ _ hb).trans hc.2.2.2.1,(cell_of_row W g _ _ _ _ hb).trans hc.2.2.2.2⟩
theorem OwnL.snoc {W:World} {base:Nat} {v:Value} {m:List ML} {x:ML} (h:W.ownsRow base 114 5 v (m.length+1) (cellsL m++[.string x.1.who,.int .i64 x.1.kind,.int .i64 x.1.index,.string x.1.piece,x.2])):OwnL W base v (m++[x]):=by
 unfold OwnL
 rw[List.length_append,cellsL_append]
 exact h
def Pths (W:World) (base:Nat) (m:List ML):Prop:=∀ x∈m,OwnS W base x.2 x.1.path
theorem Pths.below {W W':World} {base:Nat} {m:List ML} (h:Pths W base m) (hb:Below W.heap.size W W'):Pths W' base m:=fun x hx=>(h x hx).below hb
theorem Pths.mono {W:World} {base base':Nat} {m:List ML} (h:Pths W base m) (hb:base'<=base):Pths W base' m:=fun x hx=>(h x hx).mono hb
theorem own_snts {W:World} {base n:Nat} {a:Option Addr} {cap:Nat} {m:List ML} (h:OwnL W base (.slice a n cap) m) (hp:Pths W base m):Snts W W.heap.size a m/\m.length=n:=by
 obtain⟨a',c',hv,_,_⟩:=h.one
 obtain⟨rfl,rfl,rfl⟩:a=a'/\n=m.length/\cap=c':=by simpa using hv
 refine⟨⟨?_,fun x hx=>?_⟩,rfl⟩
 ·by_cases h0:0<m.length
  ·obtain⟨g,cap,hv,_,hg,_,hc⟩:=h.cells h0
   refine .inr ⟨g,0,?_,hg,fun j hj=>by rw[Nat.zero_add];exact hc j hj⟩
   simp at hv
   exact hv.1
  ·exact .inl (List.eq_nil_of_length_eq_zero (by omega))
 ·obtain⟨a,cap,hv,hc,hs⟩:=(hp x hx).strs
  exact⟨a,cap,hv,hc,hs⟩
end Go.Proofs.YtpddanmnlkcdpaaGreatDoor.Pl


namespace Go.Proofs.YtpddanmnlkcdpaaGreatDoor.Pe
open Go.RowKit
open Kp
open Ls (lowL)
def szV (L:Int) (k:Nat):Int:=if L-k<0 then -1 else L-k
theorem szV_yes {L:Int} {k:Nat} (h:(k:Int)<=L):szV L k=L-k:=by unfold szV;rw[if_neg (by omega)]
theorem szV_no {L:Int} {k:Nat} (h:¬(k:Int)<=L):szV L k = -1:=by unfold szV;rw[if_pos (by omega)]
def cost (o:Oth):Nat:=o.name.size+o.has.length
def tot (l:List Oth):Nat:=(l.map cost).sum
theorem tot_take {m:List MO} {j:Nat} (h:j<m.length):tot (oths (m.take (j+1)))=tot (oths (m.take j))+cost m[j].1:=by
 unfold tot oths
 rw[List.take_succ_eq_append_getElem h,List.map_append,List.map_append,List.sum_append]
 simp
theorem tot_le {m:List MO} (j:Nat):tot (oths (m.take j))<=tot (oths m):=by
 have h:oths m=oths (m.take j)++oths (m.drop j):=by
  unfold oths
  rw[<-List.map_append,List.take_append_drop]
 rw[h]
 unfold tot
 rw[List.map_append,List.sum_append]
 omega
theorem cost_le {m:List MO} {x:MO} (hx:x∈m):cost x.1<=tot (oths m):=by
 obtain⟨j,hj,rfl⟩:=List.getElem_of_mem hx
 have h1:=tot_take hj
 have h2:=tot_le (m:=m) (j+1)
 omega
def Lens (m:List MO):Prop:=∀ x∈m,x.1.has.length<=maxLen/\x.1.name.size<=maxLen
theorem szI_any (a:Option Addr) (n cap:Nat) (L:Int) (w:World) (hL0:0<=L) (hL1:L<=1048576) (hn:n<=maxLen) :
  Calls Tryz.prog 100 #[.slice a n cap,.int .i64 L] w fun e w'=>e=.returned (.int .i64 (szV L n))/\w'=w:=by
 unfold maxLen at hn
 have hw:IntKind.i64.wrap (L-(n:Int))=L-(n:Int):=by rw[IntKind.wrap_i64];omega
 by_cases h:(n:Int)<=L
 ·have HE:=hideK (szV_yes h)
  have h1:¬(L-(n:Int))<0:=by omega
  go_enter Tryz.func100,Tryz.ntmps100
  go_wp2_with fail
  go_ret
  exact⟨by rw[HE.out];rfl,rfl⟩
 ·have HE:=hideK (szV_no h)
  have h1:(L-(n:Int))<0:=by omega
  go_enter Tryz.func100,Tryz.ntmps100
  go_wp2_with fail
  go_ret
  exact⟨by rw[HE.out];rfl,rfl⟩
theorem szO_any (nm:ByteArray) (a:Option Addr) (n cap:Nat) (q g t L:Int) (w:World) (hL0:0<=L) (hL1:L<=1048576) (hn:n<=maxLen) (hnm:nm.size<=maxLen) :
  Calls Tryz.prog 57 #[.agg #[.string nm,.slice a n cap,.int .i64 q,.int .i64 g,.int .i64 t],.int .i64 L] w fun e w'=>e=.returned (.int .i64 (szV L (nm.size+n)))/\Below w.heap.size w w':=by
 have C0:=hideK ((Cx.nil w).new (.cells #[.string nm,.slice a n cap,.int .i64 q,.int .i64 g,.int .i64 t] 106))
 have hw:IntKind.i64.wrap (L-(nm.size:Int))=L-(nm.size:Int):=by unfold maxLen at hnm;rw[IntKind.wrap_i64];omega
 by_cases h:(nm.size:Int)<=L
 ·have h1:¬(L-(nm.size:Int))<0:=by omega
  have HI:=hideK (fun W=>szI_any a n cap (L-(nm.size:Int)) W (by omega) (by omega) hn)
  have HV:Hid (szV (L-(nm.size:Int)) n=szV L (nm.size+n)):=by
   unfold Hid szV
   rw[show L-(nm.size:Int)-(n:Int)=L-((nm.size+n:Nat):Int) by omega]
  rw[HV.out]at HI
  clear HV
  generalize hx:szV L (nm.size+n)=X at HI ⊢
  have HX:Hid (X<0->X = -1):=fun h=>by rw[<-hx]at h ⊢;unfold szV at h ⊢;split at h<;>simp_all
  clear hx
  go_enter Tryz.func57,Tryz.ntmps57
  go_wp2_with fail
  refine(HI.out _).mono ?_
  rintro e w1 ⟨rfl,hw1⟩
  subst hw1
  by_cases h2:X<0
  ·have HE:=hideK (HX.out h2)
   go_wp2_with fail
   go_ret
   exact⟨by rw[HE.out];rfl,C0.out.low⟩
  ·go_wp2_with fail
   go_ret
   exact⟨rfl,C0.out.low⟩
 ·have h1:(L-(nm.size:Int))<0:=by omega
  have HE:=hideK (szV_no (L:=L) (k:=nm.size+n) (by omega))
  go_enter Tryz.func57,Tryz.ntmps57
  go_wp2_with fail
  go_ret
  exact⟨by rw[HE.out];rfl,C0.out.low⟩
theorem szOs_any (a:Option Addr) (n cap:Nat) (m:List MO) (L:Int) (w:World) (h:Oths w w.heap.size a m) (hm:m.length=n) (hL0:0<=L) (hL1:L<=1048576) (hn:n<=maxLen) (hl:Lens m) :
  Calls Tryz.prog 24 #[.slice a n cap,.int .i64 L] w fun e w'=>e=.returned (.int .i64 (szV L (n+tot (oths m))))/\Below w.heap.size w w':=by
 have hw:IntKind.i64.wrap (L-(n:Int))=L-(n:Int):=by unfold maxLen at hn;rw[IntKind.wrap_i64];omega
 have HS:=hideK h
 have HM:=hideK hm
 have HL:=hideK hl
 clear h hm hl
 by_cases h0:(n:Int)<=L
 ·have h1:¬(L-(n:Int))<0:=by omega
  have HEND:Hid (((n+tot (oths m):Nat):Int)<=L->szV L (n+tot (oths m))=L-(n+tot (oths m):Nat)):=fun h=>szV_yes h
  have HBAD:Hid (¬((n+tot (oths m):Nat):Int)<=L->szV L (n+tot (oths m)) = -1):=fun h=>szV_no h
  have HTL:=hideK (fun j=>tot_le (m:=m) j)
  have HTT:Hid (oths (m.take n)=oths m):=by unfold Hid;rw[List.take_of_length_le (by rw[HM.out];exact Nat.le_refl _)]
  generalize szV L (n+tot (oths m))=X at HEND HBAD ⊢
  go_enter Tryz.func24,Tryz.ntmps24
  go_wp2_with fail
  go_loopw [1,5] (fun lv jv wr=>∃ j T:Nat,jv=.int .i64 j/\lv=.int .i64 (L-(n:Int)-(T:Int))/\j<=n/\T=tot (oths (m.take j))/\(n:Int)+T<=L/\Below w.heap.size w wr) (fun _ jv _=>n-(intOf jv).toNat)
  case atStart=>exact⟨0,0,rfl,by go_num,Nat.zero_le _,rfl,by omega,Below.refl _ _⟩
  case round =>
   obtain⟨j,T,rfl,rfl,hj,hT,hle,hbel⟩:=hrel
   have HTE:=hideK hT
   have GB:=hideK hbel
   clear hT hbel
   by_cases hlt:j<n
   ·have hlt':(j:Int)<(n:Int):=by omega
    have hjl:j<m.length:=by rw[HM.out];exact hlt
    obtain⟨b,off,rfl,hb,hc⟩:=HS.out.some (by omega)
    obtain⟨d0,d1,d2,d3,d4⟩:=(hc j hjl).below GB.out hb
    obtain⟨ax,cx,hxv,_,_,_⟩:=HS.out.2 m[j] (List.getElem_mem hjl)
    obtain⟨hk1,hk2⟩:=HL.out m[j] (List.getElem_mem hjl)
    have HT2:=hideK (tot_take hjl)
    have HC:Hid (cost m[j].1=m[j].1.name.size+m[j].1.has.length):=rfl
    rw[hxv]at d1
    generalize cost m[j].1=K at HT2 HC
    generalize m[j].1.name=nm at d0 HC hk2
    generalize m[j].1.has.length=k at d1 HC hk1
    generalize m[j].1.asked=q at d2
    generalize m[j].1.age=g at d3
    generalize m[j].1.strikes=t at d4
    clear hc hxv
    have HO:=hideK (fun W=>szO_any nm ax k cx q g t (L-(n:Int)-(T:Int)) W (by omega) (by omega) hk1 hk2)
    rw[<-HC.out]at HO
    have HV:Hid (szV (L-(n:Int)-(T:Int)) K=szV L (n+(T+K))):=by
     unfold Hid szV
     rw[show L-(n:Int)-(T:Int)-(K:Int)=L-((n+(T+K):Nat):Int) by omega]
    rw[HV.out]at HO
    by_cases h2:((n+(T+K):Nat):Int)<=L
    ·rw[szV_yes h2,show L-((n+(T+K):Nat):Int)=L-(n:Int)-((T+K:Nat):Int) by omega]at HO
     have h3:¬(L-(n:Int)-((T+K:Nat):Int))<0:=by omega
     have HTK:Hid (T+K=tot (oths (m.take (j+1)))):=by unfold Hid;rw[HT2.out,<-HTE.out]
     have h4:(n:Int)+((T+K:Nat):Int)<=L:=by omega
     generalize T+K=T2 at HO h3 HTK h4
     clear h2 HV HT2 HC
     go_wp2_with fail
     refine(HO.out _).mono ?_
     rintro e w1 ⟨rfl,hb1⟩
     have G1:=hideK (lowL GB.out hb1)
     clear hb1
     go_wp2_with fail
     go_roundw
     case rel=>exact⟨j+1,T2,by go_num,rfl,by omega,HTK.out,h4,G1.out⟩
     case measure=>simp[intOf];omega
    ·rw[szV_no h2]at HO
     have h5:=HTL.out (j+1)
     rw[HT2.out,<-HTE.out]at h5
     have HE:=hideK (HBAD.out (by omega))
     clear h5
     clear HV HT2 HC
     go_wp2_with fail
     refine(HO.out _).mono ?_
     rintro e w1 ⟨rfl,hb1⟩
     have G1:=hideK (lowL GB.out hb1)
     clear hb1
     go_wp2_with fail
     go_ret
     exact⟨by rw[HE.out];rfl,G1.out⟩
   ·obtain rfl:j=n:=by omega
    have HTN:Hid (T=tot (oths m)):=by unfold Hid;rw[HTE.out,HTT.out]
    have HE:=hideK (HEND.out (by rw[<-HTN.out];omega))
    have HF:Hid (L-(j:Int)-(T:Int)=X):=by unfold Hid;rw[HE.out,<-HTN.out];omega
    go_wp2_with fail
    go_ret
    exact⟨by rw[<-HF.out];rfl,GB.out⟩
 ·have h1:(L-(n:Int))<0:=by omega
  have HE:=hideK (szV_no (L:=L) (k:=n+tot (oths m)) (by omega))
  go_enter Tryz.func24,Tryz.ntmps24
  go_wp2_with fail
  go_ret
  exact⟨by rw[HE.out];rfl,Below.refl _ _⟩
def lpO (z b:Int) (r s:ByteArray) (y:Int) (v:Value):Obj:=.cells #[.int .i64 z,.int .i64 b,.string r,.string s,.int .i64 y,v] 28
def lpV (z b:Int) (r s:ByteArray) (y:Int) (v:Value):Value:=.agg #[.int .i64 z,.int .i64 b,.string r,.string s,.int .i64 y,v]
theorem szP_any (z b:Int) (r s:ByteArray) (y:Int) (a:Option Addr) (n cap:Nat) (m:List MO) (w:World) (h:Oths w w.heap.size a m) (hm:m.length=n) (hr:r.size<=maxLen) (hs:s.size<=maxLen) (hn:n<=maxLen) (hl:Lens m) :
  Calls Tryz.prog 6 #[lpV z b r s y (.slice a n cap),.int .i64 1048576] w fun e w'=>e=.returned (.int .i64 (szV 1048576 (r.size+s.size+(n+tot (oths m)))))/\Below w.heap.size w w':=by
 have C0:=hideK ((Cx.nil w).new (lpO z b r s y (.slice a n cap)))
 unfold lpV
 unfold lpO at C0
 by_cases h0:r.size+s.size<=1048576
 ·have HK:=hideK (fun W=>szK_yes z b r s y W h0)
  have h1:¬(1048576-(r.size:Int)-(s.size:Int))<0:=by omega
  have h2:decide ((1048576-(r.size:Int)-(s.size:Int))<0)=false:=by simp;omega
  have HO:=hideK (fun W (hW:Below w.heap.size w W)=>szOs_any a n cap m (1048576-(r.size:Int)-(s.size:Int)) W ((h.below hW).mono hW.size) hm (by omega) (by omega) hn hl)
  have HV:Hid (szV (1048576-(r.size:Int)-(s.size:Int)) (n+tot (oths m))=szV 1048576 (r.size+s.size+(n+tot (oths m)))):=by
   unfold Hid szV
   rw[show 1048576-(r.size:Int)-(s.size:Int)-((n+tot (oths m):Nat):Int)=1048576-((r.size+s.size+(n+tot (oths m)):Nat):Int) by omega]
  rw[HV.out]at HO
  clear HV h
  generalize hx:szV 1048576 (r.size+s.size+(n+tot (oths m)))=X at HO ⊢
  have HX:Hid (X<0->X = -1):=fun h=>by rw[<-hx]at h ⊢;unfold szV at h ⊢;split at h<;>simp_all
  clear hx
  unfold kV at HK
  go_enter Tryz.func6,Tryz.ntmps6
  go_wp2_with fail
  generalize w.alloc _=W0 at C0 ⊢
  refine(HK.out _).mono ?_
  rintro e w1 ⟨rfl,hb⟩
  have C1:=hideK (C0.out.call hb)
  clear hb C0
  have k5:=cell_of_row w1 w.heap.size 5 _ _ _ (C1.out.get 0 rfl)
  simp at k5
  go_wp2_with fail
  refine(HO.out _ C1.out.low).mono ?_
  rintro e w2 ⟨rfl,hb⟩
  have C2:=hideK (C1.out.call hb)
  clear hb C1
  by_cases h3:X<0
  ·have HE:=hideK (HX.out h3)
   go_wp2_with fail
   go_ret
   exact⟨by rw[HE.out];rfl,C2.out.low⟩
  ·go_wp2_with fail
   go_ret
   exact⟨rfl,C2.out.low⟩
 ·have HK:=hideK (fun W=>szK_no z b r s y W (by unfold maxLen at hr;omega) (by unfold maxLen at hs;omega) h0)
  have HE:=hideK (szV_no (L:=1048576) (k:=r.size+s.size+(n+tot (oths m))) (by omega))
  unfold kV at HK
  go_enter Tryz.func6,Tryz.ntmps6
  go_wp2_with fail
  generalize w.alloc _=W0 at C0 ⊢
  refine(HK.out _).mono ?_
  rintro e w1 ⟨rfl,hb⟩
  have C1:=hideK (C0.out.call hb)
  clear hb C0
  go_wp2_with fail
  go_ret
  exact⟨by rw[HE.out];rfl,C1.out.low⟩
end Go.Proofs.YtpddanmnlkcdpaaGreatDoor.Pe


namespace Go.Proofs.YtpddanmnlkcdpaaGreatDoor.Pe
open Go.RowKit
open Kp
open In (Ints)
open Go.Proofs.YtpddanmnlkcdpaaGreatDoor.Nm (nameB impl_any)
def ask2 (q g c:Int):Bool:=decide (0<=q/\q<=c/\0<=g/\g<=3/\(0<q∨g=0))
theorem ret_boolP {a b:Bool} (h:a=b):Ending.returned (.bool a)=.returned (.bool b):=by rw[h]
theorem banned_any (nm:ByteArray) (a:Option Addr) (n cap:Nat) (q g t:Int) (w:World) :
  Calls Tryz.prog 90 #[.agg #[.string nm,.slice a n cap,.int .i64 q,.int .i64 g,.int .i64 t]] w fun e w'=>e=.returned (.bool (t==3))/\Below w.heap.size w w':=by
 have C0:=hideK ((Cx.nil w).new (.cells #[.string nm,.slice a n cap,.int .i64 q,.int .i64 g,.int .i64 t] 86))
 go_enter Tryz.func90,Tryz.ntmps90
 go_wp2_with fail
 go_ret
 exact⟨rfl,C0.out.low⟩
theorem rises_impl (a:Option Addr) (n cap:Nat) (l:List Int) (c:Int) (w:World) (h:Ints w w.heap.size a l) (hln:l.length=n) (hn:n<=1048576) :
  Calls Tryz.prog 139 #[.slice a n cap,.int .i64 c] w fun e w'=>e=.returned (.bool (risesB l c))/\w'=w:=by
 have HS:=hideK h
 have HLN:=hideK hln
 clear h hln
 have HNO:Hid (∀ j (hj:j<l.length),¬(aheadZ l j<l[j]/\l[j]<c)->risesB l c=false):=fun j hj h=>risesB_no (rises_bad hj h)
 have HYE:Hid (RisesTo l c l.length->risesB l c=true):=fun h=>risesB_yes h
 generalize risesB l c=R at HNO HYE ⊢
 go_enter Tryz.func139,Tryz.ntmps139
 go_wp2_with fail
 go_loopw [5,10] (fun av jv wr=>∃ j:Nat,jv=.int .i64 j/\av=.int .i64 (aheadZ l j)/\j<=n/\RisesTo l c j/\wr=w) (fun _ jv _=>n-(intOf jv).toNat)
 case atStart=>exact⟨0,rfl,rfl,Nat.zero_le _,rises_zero _ _,rfl⟩
 case round =>
  obtain⟨j,rfl,rfl,hj,hr,hw⟩:=hrel
  subst hw
  have HR:=hideK hr
  clear hr
  by_cases hlt:j<n
  ·have hlt':(j:Int)<(n:Int):=by omega
   have hjl:j<l.length:=by rw[HLN.out];exact hlt
   obtain⟨b,off,rfl,hb,hc⟩:=HS.out.some (by omega)
   have ci:=hc j hjl
   have HNX:=hideK (aheadZ_next l j hjl)
   have HB:=hideK (HNO.out j hjl)
   have HST:Hid (aheadZ l j<l[j]->l[j]<c->RisesTo l c (j+1)):=fun h1 h2=>rises_step hjl HR.out h1 h2
   generalize l[j]=x at ci HNX HB HST
   generalize aheadZ l j=av at HB HST ⊢
   clear hc hjl
   by_cases h1:x<=av
   ·have HF:=hideK (HB.out (by omega))
    go_wp2_with fail
    go_ret
    exact⟨ret_boolP HF.out.symm,rfl⟩
   ·by_cases h2:c<=x
    ·have HF:=hideK (HB.out (by omega))
     go_wp2_with fail
     go_ret
     exact⟨ret_boolP HF.out.symm,rfl⟩
    ·have HG:=hideK (HST.out (by omega) (by omega))
     go_wp2_with fail
     go_roundw
     case rel=>exact⟨j+1,by go_num,by rw[HNX.out],by omega,HG.out,by trivial⟩
     case measure=>simp[intOf];omega
  ·have HG:=hideK (HYE.out (by have:=HR.out;rwa[show l.length=j by have:=HLN.out;omega]))
   go_wp2_with fail
   go_ret
   exact⟨ret_boolP HG.out.symm,rfl⟩
theorem asked_any (nm:ByteArray) (a:Option Addr) (n cap:Nat) (q g t c:Int) (w:World) :
  Calls Tryz.prog 140 #[.agg #[.string nm,.slice a n cap,.int .i64 q,.int .i64 g,.int .i64 t],.int .i64 c] w fun e w'=>e=.returned (.bool (ask2 q g c))/\Below w.heap.size w w':=by
 have C0:=hideK ((Cx.nil w).new (.cells #[.string nm,.slice a n cap,.int .i64 q,.int .i64 g,.int .i64 t] 86))
 by_cases h0:q<0
 ·have HE:Hid (ask2 q g c=false):=by unfold Hid ask2;exact decide_eq_false (by omega)
  go_enter Tryz.func140,Tryz.ntmps140
  go_wp2_with fail
  go_ret
  exact⟨ret_boolP HE.out.symm,C0.out.low⟩
 ·skip
  by_cases h1:c<q
  ·have HE:Hid (ask2 q g c=false):=by unfold Hid ask2;exact decide_eq_false (by omega)
   go_enter Tryz.func140,Tryz.ntmps140
   go_wp2_with fail
   go_ret
   exact⟨ret_boolP HE.out.symm,C0.out.low⟩
  ·skip
   by_cases h2:g<0
   ·have HE:Hid (ask2 q g c=false):=by unfold Hid ask2;exact decide_eq_false (by omega)
    go_enter Tryz.func140,Tryz.ntmps140
    go_wp2_with fail
    go_ret
    exact⟨ret_boolP HE.out.symm,C0.out.low⟩
   ·skip
    by_cases h3:3<g
    ·have HE:Hid (ask2 q g c=false):=by unfold Hid ask2;exact decide_eq_false (by omega)
     go_enter Tryz.func140,Tryz.ntmps140
     go_wp2_with fail
     go_ret
     exact⟨ret_boolP HE.out.symm,C0.out.low⟩
    ·skip
     by_cases h4:0<q
     ·have HE:Hid (ask2 q g c=true):=by unfold Hid ask2;exact decide_eq_true (by omega)
      go_enter Tryz.func140,Tryz.ntmps140
      go_wp2_with fail
      go_ret
      exact⟨ret_boolP HE.out.symm,C0.out.low⟩
     ·by_cases h5:g=0
      ·subst h5
       have HE:Hid (ask2 q 0 c=true):=by unfold Hid ask2;exact decide_eq_true (by omega)
       go_enter Tryz.func140,Tryz.ntmps140
       go_wp2_with fail
       go_ret
       exact⟨ret_boolP HE.out.symm,C0.out.low⟩
      ·have HE:Hid (ask2 q g c=false):=by unfold Hid ask2;exact decide_eq_false (by omega)
       have h5':(g==0)=false:=beq_eq_false_iff_ne.2 h5
       go_enter Tryz.func140,Tryz.ntmps140
       go_wp2_with fail
       go_ret
       exact⟨ret_boolP HE.out.symm,C0.out.low⟩
theorem oth_eq (x:Oth) (c:Int):othB x c=(nameB x.name && risesB x.has c && ask2 x.asked x.age c && decide (0<=x.strikes/\x.strikes<=3) && (!(x.strikes==3) || (decide (x.has.length=0) && decide (x.asked=0)))):=rfl
theorem other_run (nm:ByteArray) (a:Option Addr) (n cap:Nat) (l:List Int) (q g t c:Int) (w:World) (h:Ints w w.heap.size a l) (hln:l.length=n) (hn:n<=1048576) (hnm:nm.size<=maxLen) (N R K Q:Bool)
  (hN:nameB nm=N) (hR:risesB l c=R) (hK:ask2 q g c=K) (hQ:(N && R && K && decide (0<=t/\t<=3) && (!(t==3) || (decide (l.length=0) && decide (q=0))))=Q) :
  Calls Tryz.prog 111 #[.agg #[.string nm,.slice a n cap,.int .i64 q,.int .i64 g,.int .i64 t],.int .i64 c] w fun e w'=>e=.returned (.bool Q)/\Below w.heap.size w w':=by
 have C0:=hideK ((Cx.nil w).new (.cells #[.string nm,.slice a n cap,.int .i64 q,.int .i64 g,.int .i64 t] 86))
 have HNM:=hideK (fun W=>impl_any nm W hnm)
 have HRI:=hideK (fun W (hW:Below w.heap.size w W)=>rises_impl a n cap l c W ((h.below hW).mono hW.size) hln hn)
 have HAS:=hideK (fun W=>asked_any nm a n cap q g t c W)
 have HBA:=hideK (fun W=>banned_any nm a n cap q g t W)
 rw[hN]at HNM
 rw[hR]at HRI
 rw[hK]at HAS
 rw[hln]at hQ
 clear h hnm hN hR hK
 cases N with
 |false =>
  have HQ:Hid (Q=false):=by unfold Hid;rw[<-hQ];rfl
  clear hQ
  go_enter Tryz.func111,Tryz.ntmps111
  go_wp2_with fail
  refine(HNM.out _).mono ?_
  rintro e w1 ⟨rfl,hw⟩
  subst hw
  go_wp2_with fail
  go_ret
  exact⟨ret_boolP HQ.out.symm,C0.out.low⟩
 |true =>
 cases R with
 |false =>
  have HQ:Hid (Q=false):=by unfold Hid;rw[<-hQ];rfl
  clear hQ
  go_enter Tryz.func111,Tryz.ntmps111
  go_wp2_with fail
  refine(HNM.out _).mono ?_
  rintro e w1 ⟨rfl,hw⟩
  subst hw
  go_wp2_with fail
  refine(HRI.out _ C0.out.low).mono ?_
  rintro e w1 ⟨rfl,hw⟩
  subst hw
  go_wp2_with fail
  go_ret
  exact⟨ret_boolP HQ.out.symm,C0.out.low⟩
 |true =>
 cases K with
 |false =>
  have HQ:Hid (Q=false):=by unfold Hid;rw[<-hQ];rfl
  clear hQ
  go_enter Tryz.func111,Tryz.ntmps111
  go_wp2_with fail
  refine(HNM.out _).mono ?_
  rintro e w1 ⟨rfl,hw⟩
  subst hw
  go_wp2_with fail
  refine(HRI.out _ C0.out.low).mono ?_
  rintro e w1 ⟨rfl,hw⟩
  subst hw
  go_wp2_with fail
  refine(HAS.out _).mono ?_
  rintro e w2 ⟨rfl,hb⟩
  have C1:=hideK (C0.out.call hb)
  clear hb
  go_wp2_with fail
  go_ret
  exact⟨ret_boolP HQ.out.symm,C1.out.low⟩
 |true =>
  have hQ2:(decide (0<=t/\t<=3) && (!(t==3) || (decide (n=0) && decide (q=0))))=Q:=by rw[<-hQ];rfl
  clear hQ
  have HQQ:=hideK hQ2
  clear hQ2
  go_enter Tryz.func111,Tryz.ntmps111
  go_wp2_with fail
  refine(HNM.out _).mono ?_
  rintro e w1 ⟨rfl,hw⟩
  subst hw
  go_wp2_with fail
  refine(HRI.out _ C0.out.low).mono ?_
  rintro e w1 ⟨rfl,hw⟩
  subst hw
  go_wp2_with fail
  refine(HAS.out _).mono ?_
  rintro e w2 ⟨rfl,hb⟩
  have C1:=hideK (C0.out.call hb)
  clear hb C0
  obtain⟨k0,k1,k2,k3,k4⟩:=cells5 (C1.out.get 0 rfl)
  by_cases h1:t<0
  ·have HQ:Hid (Q=false):=by unfold Hid;rw[<-HQQ.out,decide_eq_false (by omega)];rfl
   go_wp2_with fail
   go_ret
   exact⟨ret_boolP HQ.out.symm,C1.out.low⟩
  ·by_cases h2:3<t
   ·have HQ:Hid (Q=false):=by unfold Hid;rw[<-HQQ.out,decide_eq_false (by omega)];rfl
    go_wp2_with fail
    go_ret
    exact⟨ret_boolP HQ.out.symm,C1.out.low⟩
   ·go_wp2_with fail
    refine(HBA.out _).mono ?_
    rintro e w3 ⟨rfl,hb⟩
    have C2:=hideK (C1.out.call hb)
    clear hb C1 k0 k1 k2 k3 k4
    obtain⟨k0,k1,k2,k3,k4⟩:=cells5 (C2.out.get 0 rfl)
    by_cases h3:t=3
    ·have h3':(t==3)=true:=beq_iff_eq.2 h3
     by_cases h4:n=0
     ·have h4':((n:Int)==0)=true:=beq_iff_eq.2 (by omega)
      have HQ:Hid (Q=(q==0)):=by
       unfold Hid
       rw[<-HQQ.out,h3',decide_eq_true (by omega),decide_eq_true h4]
       by_cases hq:q=0
       ·simp[hq]
       ·simp[hq]
      rw[h3']
      clear h3' h3
      go_wp2_with fail
      go_ret
      exact⟨ret_boolP HQ.out.symm,C2.out.low⟩
     ·have h4':((n:Int)==0)=false:=beq_eq_false_iff_ne.2 (by omega)
      have HQ:Hid (Q=false):=by unfold Hid;rw[<-HQQ.out,h3',decide_eq_false h4];simp
      rw[h3']
      clear h3' h3
      go_wp2_with fail
      go_ret
      exact⟨ret_boolP HQ.out.symm,C2.out.low⟩
    ·have h3':(t==3)=false:=beq_eq_false_iff_ne.2 h3
     have HQ:Hid (Q=true):=by unfold Hid;rw[<-HQQ.out,h3',decide_eq_true (by omega)];rfl
     rw[h3']
     clear h3'
     go_wp2_with fail
     go_ret
     exact⟨ret_boolP HQ.out.symm,C2.out.low⟩
theorem other_any (x:MO) (c:Int) (w:World) (h:HasAt w w.heap.size x) (hn:x.1.has.length<=1048576) (hnm:x.1.name.size<=maxLen) :
  Calls Tryz.prog 111 #[othV x,.int .i64 c] w fun e w'=>e=.returned (.bool (othB x.1 c))/\Below w.heap.size w w':=by
 obtain⟨a,cap,hv,_,_,hi⟩:=h
 unfold othV
 rw[hv]
 exact other_run x.1.name a _ cap x.1.has _ _ _ c w hi rfl hn hnm _ _ _ _ rfl rfl rfl (oth_eq x.1 c).symm
end Go.Proofs.YtpddanmnlkcdpaaGreatDoor.Pe


namespace Go.Proofs.YtpddanmnlkcdpaaGreatDoor.Kp
open Go.RowKit
open Gn (rd rt)
open Ls (HH hh_keep num_all text_all cells3 set3_all set_j3)
theorem rec_no {s:ByteArray} {e:Nat} (h:¬((rt s e).2.2=0/\usC (rt s e).1=0)):recR s e=none:=if_neg h
theorem rec_yes {s:ByteArray} {e:Nat} (h:(rt s e).2.2=0/\usC (rt s e).1=0):recR s e=(innerR (usT (rt s e).1)).map (fun r=>(r,(rt s e).2.1)):=if_pos h
theorem usT_size (s:ByteArray) (h:s.size<=8000):(usT s).size<=8000:=by
 unfold usT
 split
 ·exact Nat.zero_le _
 ·split
  ·exact Nat.zero_le _
  ·split
   ·rw[ByteArray.size_extract];omega
   ·exact Nat.zero_le _
theorem rt_size8 (s:ByteArray) (a:Int):(rt s a).1.size<=8000:=by
 by_cases h:(rt s a).2.2=0
 ·exact(rt_more s a h).2.2.2
 ·rw[(Gn.rt_codes s a h).1]
  exact Nat.zero_le _
theorem pathIn_drew {W:World} {v:Value} {p:List ByteArray} (h:PathIn W v p):PathIn W.drew v p:=h.keeps (fun _ _ e=>e)
def RecOut (R:Option (Rec × Nat)) (r:Ending) (w':World):Prop :=
 (∃ x v,R=some x/\r=.returned (.tuple #[.agg #[.int .i64 x.1.1,.string x.1.2.1,v],.int .i64 x.2,.bool true])/\PathIn w' v x.1.2.2) ∨
 (R=none/\∃ n:Int,r=.returned (.tuple #[.agg #[.int .i64 0,.string ⟨#[]⟩,.slice none 0 0],.int .i64 n,.bool false]))
theorem readRecord_any (s:ByteArray) (e:Nat) (w:World) (hs:s.size<=1048576) (hh:HH w) :
  Calls Tryz.prog 106 #[.string s,.int .i64 e] w fun r w' =>
   RecOut (recR s e) r w'/\Below w.heap.size w w':=by
 have HHW:Hid (∀ W,Below w.heap.size w W->HH W):=fun W h=>hh_keep hh h
 have hs2:s.size<=maxLen:=by unfold maxLen;omega
 have H1:=hideK (fun W h=>Gn.text_impl s e W hs2 h)
 have H2:=hideK (fun W=>Se.unseal_impl (rt s e).1 W (by have:=rt_size8 s e;unfold maxLen;omega))
 have H3:=hideK (fun W h=>readInner_any (usT (rt s e).1) W (by have:=usT_size _ (rt_size8 s e);omega) h)
 rw[text_all]at H1
 simp only[unseal_all]at H2
 have HNO:=hideK (rec_no (s:=s) (e:=e))
 have HYE:=hideK (rec_yes (s:=s) (e:=e))
 change Hid (∀ W,HH W->_) at H1 H3
 generalize recR s e=R at HNO HYE ⊢
 generalize rt s e=x1 at H1 H2 H3 HNO HYE
 obtain⟨t,p1,c1⟩:=x1
 dsimp only at H1 H2 H3 HNO HYE
 generalize usC t=c2 at H2 HNO HYE
 generalize usT t=u at H2 H3 HYE
 generalize innerR u=I at H3 HYE
 clear hh
 go_enter Tryz.func106,Tryz.ntmps106
 go_wp2_with fail
 have C0:=hideK ((Cx.nil w).new (.cells #[.int .i64 0,.string ⟨#[]⟩,.slice none 0 0] 129))
 generalize w.alloc (.cells #[.int .i64 0,.string ⟨#[]⟩,.slice none 0 0] 129)=W0 at C0 ⊢
 refine(H1.out _ (HHW.out _ C0.out.low)).mono ?_
 rintro e v1 ⟨rfl,hb⟩
 have C1:=hideK ((C0.out.call hb).new (.cells #[.string t,.int .i64 p1,.int .i64 c1] 179))
 clear hb C0
 go_wp2_with fail
 generalize v1.alloc (.cells #[.string t,.int .i64 p1,.int .i64 c1] 179)=W1 at C1 ⊢
 refine(H2.out _).mono ?_
 rintro e v2 ⟨rfl,hb⟩
 have C2:=hideK ((C1.out.call hb).new (.cells #[.string u,.int .i64 0,.int .i64 c2] 179))
 clear hb C1
 go_upto_region 3 with fail
 generalize v2.alloc (.cells #[.string u,.int .i64 0,.int .i64 c2] 179)=W2 at C2 ⊢
 obtain⟨a0,a1,a2⟩:=cells3 (C2.out.get 1 rfl)
 obtain⟨b0,b1,b2⟩:=cells3 (C2.out.get 0 rfl)
 obtain⟨q0,q1,q2⟩:=cells3 (C2.out.get 2 rfl)
 have ff:=fun o=>frozen_of_row W2 w.heap.size o _ _ (C2.out.get 2 rfl)
 have s3:=set3_all (C2.out.get 2 rfl) (.int .i64 0) (.string ⟨#[]⟩) (.slice none 0 0)
 have E3:=hideK (set3_low C2.out.low (Nat.le_refl _) (.int .i64 0) (.string ⟨#[]⟩) (.slice none 0 0))
 generalize v1.heap.size=g1 at C2 a0 a1 a2 ⊢
 generalize v2.heap.size=g2 at C2 b0 b1 b2 ⊢
 by_cases h1:c1=0
 ·have h1':(c1 != 0)=false:=by simp;exact h1
  by_cases h2:c2=0
  ·have h2':(c2 != 0)=false:=by simp;exact h2
   have HY:=hideK (HYE.out ⟨h1,h2⟩)
   clear h1 h2 HNO HYE E3 s3
   go_wp2_with fail
   refine(H3.out _ (HHW.out _ C2.out.low)).mono ?_
   rintro e v3 ⟨⟨x,v,hx,rfl,ho⟩|⟨hx,rfl⟩,hb⟩
   ·obtain⟨ap,cp,rfl,_,_⟩:=ho.strs
    have C3:=hideK ((C2.out.call hb).new (.cells #[.int .i64 x.1,.string x.2.1,.slice ap x.2.2.length cp] 129))
    have O3:=hideK (ho.keeps (KeepsS.below ((Below.refl _ v3).alloc (Nat.le_refl _) (.cells #[.int .i64 x.1,.string x.2.1,.slice ap x.2.2.length cp] 129))))
    rw[hx]at HY
    clear hb C2 ho hx
    obtain⟨i,t2,p⟩:=x
    dsimp only at C3 O3 HY ⊢
    go_upto_region 6 with fail
    generalize v3.alloc (.cells #[.int .i64 i,.string t2,.slice ap p.length cp] 129)=W3 at C3 O3 ⊢
    obtain⟨d0,d1,d2⟩:=cells3 (C3.out.get 0 rfl)
    obtain⟨a0,a1,a2⟩:=cells3 (C3.out.get 2 rfl)
    obtain⟨q0,q1,q2⟩:=cells3 (C3.out.get 3 rfl)
    have ff:=fun o=>frozen_of_row W3 w.heap.size o _ _ (C3.out.get 3 rfl)
    have n1:=ty_ne (C3.out.get 3 rfl) (C3.out.get 2 rfl) (by decide)
    have n2:¬g1=w.heap.size:=fun h=>n1 h.symm
    have s3:=set3_all (C3.out.get 3 rfl) (.int .i64 i) (.string t2) (.slice ap p.length cp)
    have E3:=hideK (set3_low C3.out.low (Nat.le_refl _) (.int .i64 i) (.string t2) (.slice ap p.length cp)).drew
    have O4:Hid (PathIn (((W3.setCell ⟨w.heap.size,0,none⟩ (.int .i64 i)).setCell ⟨w.heap.size,1,none⟩ (.string t2)).setCell ⟨w.heap.size,2,none⟩ (.slice ap p.length cp)).drew (.slice ap p.length cp) p):=pathIn_drew (PathIn.keeps O3.out (KeepsS.set3 (C3.out.get 3 rfl) (by decide) _ _ _))
    go_region
    all_goals (
     go_wp2_with fail
     exact bodyPost_ret (v:=.tuple #[.agg #[.int .i64 i,.string t2,.slice ap p.length cp],.int .i64 p1,.bool true]) (by simp[results,Tryz.results106,go_sem,s3.1,s3.2.1,s3.2.2]) rfl ⟨.inl ⟨((i,t2,p),p1),_,HY.out,rfl,O4.out⟩,E3.out⟩)
   ·have C3:=hideK ((C2.out.call hb).new (.cells #[.int .i64 0,.string ⟨#[]⟩,.slice none 0 0] 129))
    rw[hx]at HY
    clear hb C2 hx
    go_upto_region 6 with fail
    generalize v3.alloc (.cells #[.int .i64 0,.string ⟨#[]⟩,.slice none 0 0] 129)=W3 at C3 ⊢
    obtain⟨d0,d1,d2⟩:=cells3 (C3.out.get 0 rfl)
    obtain⟨a0,a1,a2⟩:=cells3 (C3.out.get 2 rfl)
    obtain⟨q0,q1,q2⟩:=cells3 (C3.out.get 3 rfl)
    have ff:=fun o=>frozen_of_row W3 w.heap.size o _ _ (C3.out.get 3 rfl)
    have n1:=ty_ne (C3.out.get 3 rfl) (C3.out.get 2 rfl) (by decide)
    have n2:¬g1=w.heap.size:=fun h=>n1 h.symm
    have s3:=set3_all (C3.out.get 3 rfl) (.int .i64 0) (.string ⟨#[]⟩) (.slice none 0 0)
    have E3:=hideK (set3_low C3.out.low (Nat.le_refl _) (.int .i64 0) (.string ⟨#[]⟩) (.slice none 0 0)).drew
    go_region
    all_goals (
     go_wp2_with fail
     exact bodyPost_ret (v:=.tuple #[.agg #[.int .i64 0,.string ⟨#[]⟩,.slice none 0 0],.int .i64 p1,.bool false]) (by simp[results,Tryz.results106,go_sem,s3.1,s3.2.1,s3.2.2]) rfl ⟨.inr ⟨HY.out,p1,rfl⟩,E3.out⟩)
  ·have h2':(c2 != 0)=true:=by simp;exact h2
   have HX:=hideK (HNO.out (fun h=>h2 h.2))
   go_wp2_with fail
   exact bodyPost_ret (v:=.tuple #[.agg #[.int .i64 0,.string ⟨#[]⟩,.slice none 0 0],.int .i64 0,.bool false]) (by simp[results,Tryz.results106,go_sem,s3.1,s3.2.1,s3.2.2]) rfl ⟨.inr ⟨HX.out,0,rfl⟩,E3.out⟩
 ·have h1':(c1 != 0)=true:=by simp;exact h1
  have HX:=hideK (HNO.out (fun h=>h1 h.1))
  go_wp2_with fail
  exact bodyPost_ret (v:=.tuple #[.agg #[.int .i64 0,.string ⟨#[]⟩,.slice none 0 0],.int .i64 0,.bool false]) (by simp[results,Tryz.results106,go_sem,s3.1,s3.2.1,s3.2.2]) rfl ⟨.inr ⟨HX.out,0,rfl⟩,E3.out⟩
end Go.Proofs.YtpddanmnlkcdpaaGreatDoor.Kp


namespace Go.Proofs.YtpddanmnlkcdpaaGreatDoor.St
open Go.RowKit
/-- two rows of the same texts are alike -/
theorem eq_any (a b:Option Addr) (cap cap':Nat) (l:List ByteArray) (w:World) (B:Nat) (ha:Strs w B a l) (hb:Strs w B b l) (hn:l.length<=1048576) :
  Calls Tryz.prog 51 #[.slice a l.length cap,.slice b l.length cap'] w fun e w'=>e=.returned (.bool true)/\Below w.heap.size w w':=by
 have HA:=hideT ha
 have HB:=hideT hb
 clear ha hb
 obtain⟨n,hln⟩:∃ n,n=l.length:=⟨_,rfl⟩
 have HLN:=hideT hln
 rw[<-hln]at hn ⊢
 clear hln
 go_enter Tryz.func51,Tryz.ntmps51
 go_wp2_with fail
 go_loopw [5] (fun i wr=>∃ k:Nat,i=.int .i64 k/\k<=n/\(∀ p:Addr,wr.cell? p=w.cell? p)/\Below w.heap.size w wr) (fun i _=>n-(intOf i).toNat)
 case atStart=>exact⟨0,rfl,by omega,fun _=>rfl,Below.refl _ _⟩
 case round =>
  obtain⟨k,rfl,hk,hcell,hbel⟩:=hrel
  have HC:=hideT hcell
  have GB:=hideT hbel
  by_cases hlt:k<n
  ·have hkl:k<l.length:=by rw[<-HLN.out];exact hlt
   obtain⟨b1,off1,rfl,_,hc1⟩:=HA.out.some (by omega)
   obtain⟨b2,off2,rfl,_,hc2⟩:=HB.out.some (by omega)
   have c1:=(hcell _).trans (hc1 k hkl)
   have c2:=(hcell _).trans (hc2 k hkl)
   obtain⟨s,hs⟩:∃ s,s=l[k]:=⟨_,rfl⟩
   rw[<-hs]at c1 c2
   clear hc1 hc2 hcell hbel hs
   go_wp2_with fail
   go_region
   all_goals (try go_wp2_with fail)
   all_goals go_roundw
   case rel=>exact⟨k+1,by go_num,by omega,fun p=>HC.out p,GB.out.drew⟩
   case measure=>simp[intOf];omega
  ·clear hcell hbel
   go_wp2_with fail
   go_ret
   exact⟨rfl,GB.out⟩
end Go.Proofs.YtpddanmnlkcdpaaGreatDoor.St

