/- Texts put together: IntHeld, IntIn, PeRow. -/
import Derived.Test.YtikiihjabbmkcaaGreatDoorBz25
import Derived.Test.YtikiihjabbmkcaaGreatDoorBz29
set_option maxRecDepth 100000
set_option maxHeartbeats 8000000
namespace Go.Proofs.YtikiihjabbmkcaaGreatDoor.In
open Go.RowKit
theorem mark_none (a:Option Addr) (c:Nat) (w:World) :
  Calls Tryz.prog 14 #[.slice a 0 c,.int .i64 1] w fun e w'=>e=.returned (.int .i64 1)/\w'=w:=by
 go_enter Tryz.func14,Tryz.ntmps14
 go_wp2_with fail
 go_loopw [5,1] (fun i kv wr=>i=.int .i64 0/\kv=.int .i64 1/\wr=w) (fun _ _ _=>0)
 case atStart=>exact⟨rfl,rfl,rfl⟩
 case round =>
  obtain⟨rfl,rfl,hw⟩:=hrel
  subst hw
  go_wp2_with fail
  go_ret
  exact⟨rfl,rfl⟩
theorem held_none (a:Option Addr) (c:Nat) (w:World) :
  Calls Tryz.prog 15 #[.slice a 0 c,.int .i64 1] w fun e w'=>e=.returned (.int .i64 1)/\w'=w:=by
 go_enter Tryz.func15,Tryz.ntmps15
 go_wp2_with fail
 go_loopw [5,1] (fun i kv wr=>i=.int .i64 0/\kv=.int .i64 1/\wr=w) (fun _ _ _=>0)
 case atStart=>exact⟨rfl,rfl,rfl⟩
 case round =>
  obtain⟨rfl,rfl,hw⟩:=hrel
  subst hw
  go_wp2_with fail
  go_ret
  exact⟨rfl,rfl⟩
theorem held_any (g t c n:Nat) (w:World) (h:IsO w g t (marks 1 n)) (hn:n<=1048576) :
  Calls Tryz.prog 15 #[.slice (some ⟨g,0,none⟩) n c,.int .i64 1] w fun e w'=>e=.returned (.int .i64 (1+n))/\Below w.heap.size w w':=by
 have HS:=hideI h
 clear h
 go_enter Tryz.func15,Tryz.ntmps15
 go_wp2_with fail
 go_loopw [5,1] (fun i kv wr=>∃ k:Nat,i=.int .i64 k/\kv=.int .i64 (1+k)/\k<=n/\wr=w) (fun i _ _=>n-(intOf i).toNat)
 case atStart=>exact⟨0,rfl,rfl,by omega,rfl⟩
 case round =>
  obtain⟨k,rfl,rfl,hk,hw⟩:=hrel
  subst hw
  by_cases hlt:k<n
  ·have hkl:k<(marks 1 n).length:=by rw[marks_length];exact hlt
   have ce:=HS.out.cell hkl
   rw[marks_get,show ((1+k:Nat):Int)=1+(k:Int) by omega]at ce
   go_wp2_with fail
   go_roundw
   case rel=>exact⟨k+1,by go_num,by go_num,by omega,trivial⟩
   case measure=>simp[intOf];omega
  ·have HKN:Hid ((1:Int)+k=1+n):=by
    unfold Hid
    omega
   go_wp2_with fail
   go_ret
   exact⟨by rw[<-HKN.out];rfl,Below.refl _ _⟩
end Go.Proofs.YtikiihjabbmkcaaGreatDoor.In


/- Rows of numbers between two marks of memory: what the laws' helpers do with them. -/
namespace Go.Proofs.YtikiihjabbmkcaaGreatDoor.In
open Go.RowKit
open St (Aft)
def OwnIn (w:World) (lo hi:Nat) (v:Value) (l:List Int):Prop :=
 (v=.slice none 0 0/\l=[])∨∃ g cap,v=.slice (some ⟨g,0,none⟩) l.length cap/\lo<=g/\g<hi/\IsO w g 2 l
theorem OwnI.inn {w:World} {base:Nat} {v:Value} {l:List Int} (h:OwnI w base v l):OwnIn w base w.heap.size v l:=by
 rcases h.split with h|⟨g,cap,hv,hg,_,ho⟩
 ·exact .inl h
 ·exact .inr ⟨g,cap,hv,hg,ho.lt,ho⟩
theorem IsI.inn {w:World} {g:Nat} {l:List Int} (h:IsI w g 2 l) (cap:Nat):OwnIn w g (g+1) (.slice (some ⟨g,0,none⟩) l.length cap) l :=
 .inr ⟨g,cap,rfl,Nat.le_refl _,Nat.lt_succ_self _,h.own⟩
theorem OwnIn.below {w w':World} {lo hi B:Nat} {v:Value} {l:List Int} (h:OwnIn w lo hi v l) (b:Below B w w') (hB:hi<=B):OwnIn w' lo hi v l:=by
 rcases h with h|⟨g,cap,hv,hg,hh,ho⟩
 ·exact .inl h
 ·exact .inr ⟨g,cap,hv,hg,hh,ho.below b (by omega)⟩
theorem OwnIn.aft {w w':World} {lo hi g:Nat} {v:Value} {l:List Int} (h:OwnIn w lo hi v l) (ha:Aft g w w') (hg:g<lo∨hi<=g) (hh:hi<=w.heap.size):OwnIn w' lo hi v l:=by
 rcases h with h|⟨g',cap,hv,hg',hh',ho⟩
 ·exact .inl h
 ·exact .inr ⟨g',cap,hv,hg',hh',ho.of_heap (ha.2.2.2.2 g' (by omega) (by omega))⟩
theorem OwnIn.ints {w:World} {lo hi:Nat} {v:Value} {l:List Int} (h:OwnIn w lo hi v l):∃ a cap,v=.slice a l.length cap/\Ints w hi a l:=by
 rcases h with⟨rfl,rfl⟩|⟨g,cap,rfl,_,hh,ho⟩
 ·exact⟨none,0,rfl,.inl rfl⟩
 ·exact⟨_,cap,rfl,ho.ints hh⟩
theorem eq_in {w:World} {lo hi lo' hi':Nat} {u v:Value} {l:List Int} (hu:OwnIn w lo hi u l) (hv:OwnIn w lo' hi' v l) (hn:l.length<=1048576) :
  Calls Tryz.prog 13 #[u,v] w fun e w'=>e=.returned (.bool true)/\Below w.heap.size w w':=by
 obtain⟨a,cap,rfl,ha⟩:=hu.ints
 obtain⟨b,cap',rfl,hb⟩:=hv.ints
 exact eq_any a b cap cap' l w (max hi hi') (ha.mono (Nat.le_max_left _ _)) (hb.mono (Nat.le_max_right _ _)) hn
def IntMarked (w:World) (lo hi:Nat) (v:Value) (n:Nat):Prop:=OwnIn w lo hi v (marks 1 n)
theorem mark_in {w:World} {lo hi:Nat} {v:Value} {l:List Int} (h:OwnIn w lo hi v l) (hn:l.length<=1048576) :
  Calls Tryz.prog 14 #[v,.int .i64 1] w fun e w'=>e=.returned (.int .i64 (1+l.length))/\OwnIn w' lo hi v (marks 1 l.length)/\∃ g,(g=lo∨(lo<=g/\g<hi))/\Aft g w w':=by
 rcases h with⟨rfl,rfl⟩|⟨g,cap,rfl,hg,hh,ho⟩
 ·refine(mark_none none 0 w).mono ?_
  rintro e w' ⟨rfl,rfl⟩
  exact⟨rfl,.inl ⟨rfl,rfl⟩,lo,.inl rfl,Aft.refl _ _⟩
 ·refine(mark_any g 2 cap l w ho hn).mono ?_
  rintro e w' ⟨rfl,hi',ha⟩
  exact⟨rfl,.inr ⟨g,cap,by rw[marks_length],hg,hh,hi'⟩,g,.inr ⟨hg,hh⟩,ha⟩
theorem held_in {w:World} {lo hi n:Nat} {v:Value} (h:OwnIn w lo hi v (marks 1 n)) (hn:n<=1048576) :
  Calls Tryz.prog 15 #[v,.int .i64 1] w fun e w'=>e=.returned (.int .i64 (1+n))/\Below w.heap.size w w':=by
 rcases h with⟨rfl,h0⟩|⟨g,cap,rfl,hg,hh,ho⟩
 ·have:n=0:=by rw[<-marks_length 1 n,h0];rfl
  subst this
  refine(held_none none 0 w).mono ?_
  rintro e w' ⟨rfl,rfl⟩
  exact⟨rfl,Below.refl _ _⟩
 ·rw[marks_length]
  exact held_any g 2 cap n w ho hn
end Go.Proofs.YtikiihjabbmkcaaGreatDoor.In


/- Others in memory: as a slice sees them, and as a row that a call owns. -/
namespace Go.Proofs.YtikiihjabbmkcaaGreatDoor.Pe
open Go.RowKit
open Kp
open In (Ints OwnI)
abbrev MO:=Oth × Value
def othV (x:MO):Value:=.agg #[.string x.1.name,x.2,.int .i64 x.1.asked,.int .i64 x.1.age,.int .i64 x.1.strikes]
def othO (x:MO) (T:TypeId):Obj:=.cells #[.string x.1.name,x.2,.int .i64 x.1.asked,.int .i64 x.1.age,.int .i64 x.1.strikes] T
def five (x:MO):List Value:=[.string x.1.name,x.2,.int .i64 x.1.asked,.int .i64 x.1.age,.int .i64 x.1.strikes]
def cellsO:List MO->List Value
 |[]=>[]
 |x :: m=>.string x.1.name :: x.2 :: .int .i64 x.1.asked :: .int .i64 x.1.age :: .int .i64 x.1.strikes :: cellsO m
theorem cellsO_length:∀ m:List MO,(cellsO m).length=m.length*5
 |[]=>rfl
 |x :: m=>by
  rw[cellsO,List.length_cons,List.length_cons,List.length_cons,List.length_cons,List.length_cons,cellsO_length m,List.length_cons]
  omega
theorem cellsO_append:∀ m k:List MO,cellsO (m++k)=cellsO m++cellsO k
 |[],k=>rfl
 |x :: m,k=>by
  rw[List.cons_append,cellsO,cellsO,cellsO_append m k]
  rfl
theorem cellsO_at:∀ (m:List MO) (i:Nat) (h:i<m.length),(cellsO m)[i*5]? = some (.string m[i].1.name)/\(cellsO m)[i*5+1]? = some m[i].2/\(cellsO m)[i*5+2]? = some (.int .i64 m[i].1.asked)/\(cellsO m)[i*5+3]? = some (.int .i64 m[i].1.age)/\(cellsO m)[i*5+4]? = some (.int .i64 m[i].1.strikes)
 |x :: m,0,_=>⟨rfl,rfl,rfl,rfl,rfl⟩
 |x :: m,i+1,h=>by
  have:=cellsO_at m i (Nat.lt_of_succ_lt_succ h)
  rw[cellsO,show (i+1)*5=i*5+5 by omega,show i*5+5+1=(i*5+1)+5 by omega,show i*5+5+2=(i*5+2)+5 by omega,show i*5+5+3=(i*5+3)+5 by omega,show i*5+5+4=(i*5+4)+5 by omega]
  exact this
def HasAt (W:World) (B:Nat) (x:MO):Prop:=∃ a cap,x.2=.slice a x.1.has.length cap/\x.1.has.length<=cap/\(a=none->cap=0)/\Ints W B a x.1.has
theorem HasAt.below {W W':World} {B:Nat} {x:MO} (h:HasAt W B x) (hb:Below B W W'):HasAt W' B x:=by
 obtain⟨a,cap,hv,hc,hn,hi⟩:=h
 exact⟨a,cap,hv,hc,hn,hi.below hb⟩
theorem HasAt.mono {W:World} {B C:Nat} {x:MO} (h:HasAt W B x) (hB:B<=C):HasAt W C x:=by
 obtain⟨a,cap,hv,hc,hn,hi⟩:=h
 exact⟨a,cap,hv,hc,hn,hi.mono hB⟩
def FiveAt (W:World) (b o:Nat) (x:MO):Prop:=W.cell? ⟨b,o,none⟩=some (.string x.1.name)/\W.cell? ⟨b,o+1,none⟩=some x.2/\W.cell? ⟨b,o+2,none⟩=some (.int .i64 x.1.asked)/\W.cell? ⟨b,o+3,none⟩=some (.int .i64 x.1.age)/\W.cell? ⟨b,o+4,none⟩=some (.int .i64 x.1.strikes)
theorem FiveAt.below {W W':World} {B b o:Nat} {x:MO} (h:FiveAt W b o x) (hb:Below B W W') (hlt:b<B):FiveAt W' b o x:=by
 obtain⟨h0,h1,h2,h3,h4⟩:=h
 exact⟨(hb.cell (p:=⟨b,o,none⟩) hlt).trans h0,(hb.cell (p:=⟨b,o+1,none⟩) hlt).trans h1,(hb.cell (p:=⟨b,o+2,none⟩) hlt).trans h2,(hb.cell (p:=⟨b,o+3,none⟩) hlt).trans h3,(hb.cell (p:=⟨b,o+4,none⟩) hlt).trans h4⟩
def Oths (W:World) (B:Nat) (a:Option Addr) (m:List MO):Prop :=
 (m=[]∨∃ b off,a=some ⟨b,off,none⟩/\b<B/\∀ j (h:j<m.length),FiveAt W b (off+j*5) m[j])/\∀ x∈m,HasAt W B x
theorem Oths.below {W W':World} {B:Nat} {a:Option Addr} {m:List MO} (h:Oths W B a m) (hb:Below B W W'):Oths W' B a m:=by
 refine⟨?_,fun x hx=>(h.2 x hx).below hb⟩
 rcases h.1 with h0|⟨b,off,rfl,hlt,hc⟩
 ·exact .inl h0
 ·exact .inr ⟨b,off,rfl,hlt,fun j hj=>(hc j hj).below hb hlt⟩
theorem Oths.mono {W:World} {B C:Nat} {a:Option Addr} {m:List MO} (h:Oths W B a m) (hB:B<=C):Oths W C a m:=by
 refine⟨?_,fun x hx=>(h.2 x hx).mono hB⟩
 rcases h.1 with h0|⟨b,off,rfl,hlt,hc⟩
 ·exact .inl h0
 ·exact .inr ⟨b,off,rfl,Nat.lt_of_lt_of_le hlt hB,hc⟩
theorem Oths.later {W W':World} {a:Option Addr} {m:List MO} (h:Oths W W.heap.size a m) (hb:Below W.heap.size W W'):Oths W' W'.heap.size a m:=(h.below hb).mono hb.size
theorem Oths.some {W:World} {B:Nat} {a:Option Addr} {m:List MO} (h:Oths W B a m) (hl:0<m.length):∃ b off,a=.some ⟨b,off,none⟩/\b<B/\∀ j (h:j<m.length),FiveAt W b (off+j*5) m[j]:=by
 rcases h.1 with h0|h
 ·subst h0;simp at hl
 ·exact h
theorem oths_nil (W:World) (B:Nat) (a:Option Addr):Oths W B a []:=⟨.inl rfl,fun _ hx=>absurd hx List.not_mem_nil⟩
def oths (m:List MO):List Oth:=m.map (·.1)
theorem oths_length (m:List MO):(oths m).length=m.length:=List.length_map ..
theorem oths_get (m:List MO) (j:Nat) (h:j<m.length):(oths m)[j]'(by rw[oths_length];exact h)=m[j].1:=by simp[oths]
def OwnO (W:World) (base:Nat) (v:Value) (m:List MO):Prop:=W.ownsRow base 89 5 v m.length (cellsO m)
theorem OwnO.nil (w:World) (base:Nat):OwnO w base (.slice none 0 0) []:=World.ownsRow_nil w base _ _
theorem OwnO.alloc {W:World} {base:Nat} {v:Value} {m:List MO} (h:OwnO W base v m) (o:Obj):OwnO (W.alloc o) base v m:=World.ownsRow.alloc h o
theorem OwnO.below {w w':World} {base:Nat} {v:Value} {m:List MO} (h:OwnO w base v m) (b:Below w.heap.size w w'):OwnO w' base v m:=by
 obtain⟨hl,h⟩:=h
 refine⟨hl,?_⟩
 rcases h with h|⟨g,cap,cur,hv,hg,hb,rest⟩
 ·exact .inl h
 ·exact .inr ⟨g,cap,cur,hv,hg,by rw[b.block g (lt_rowK hb)];exact hb,rest⟩
theorem OwnO.mono {w:World} {base base':Nat} {v:Value} {m:List MO} (h:OwnO w base v m) (hb:base'<=base):OwnO w base' v m:=by
 obtain⟨hl,h⟩:=h
 refine⟨hl,?_⟩
 rcases h with h|⟨g,cap,cur,hv,hg,rest⟩
 ·exact .inl h
 ·exact .inr ⟨g,cap,cur,hv,Nat.le_trans hb hg,rest⟩
theorem OwnO.one {W:World} {base:Nat} {v:Value} {m:List MO} (h:OwnO W base v m):∃ a cap,v=.slice a m.length cap/\m.length<=cap/\(a=none->cap=0):=by
 obtain⟨_,h⟩:=h
 rcases h with⟨h,h0⟩|⟨g,cap,cur,hv,_,_,hn,_⟩
 ·exact⟨none,0,by rw[h,h0],by omega,fun _=>rfl⟩
 ·exact⟨_,cap,hv,hn,fun h=>by cases h⟩
theorem OwnO.cells {W:World} {base:Nat} {v:Value} {m:List MO} (h:OwnO W base v m) (h0:0<m.length):∃ g cap,v=.slice (some ⟨g,0,none⟩) m.length cap/\base<=g/\g<W.heap.size/\m.length<=cap/\∀ i (hi:i<m.length),FiveAt W g (i*5) m[i]:=by
 obtain⟨_,h⟩:=h
 rcases h with⟨_,h⟩|⟨g,cap,cur,hv,hg,hb,hn,_,hs,ht⟩
 ·omega
 ·refine⟨g,cap,hv,hg,lt_rowK hb,hn,fun i hi=>?_⟩
  have hc:=cellsO_at m i hi
  rw[<-ht]at hc
  rw[List.getElem?_take_of_lt (by omega),List.getElem?_take_of_lt (by omega),List.getElem?_take_of_lt (by omega),List.getElem?_take_of_lt (by omega),List.getElem?_take_of_lt (by omega),Array.getElem?_toList,Array.getElem?_toList,Array.getElem?_toList,Array.getElem?_toList,Array.getElem?_toList]at hc
  exact⟨(cell_of_row W g _ _ _ _ hb).trans hc.1,(cell_of_row W g _ _ _ _ hb).trans hc.2.1,(cell_of_row W g _ _ _ _ hb).trans hc.2.2.1,(cell_of_row W g _ _ _ _ hb).trans hc.2.2.2.1,(cell_of_row W g _ _ _ _ hb).trans hc.2.2.2.2⟩
theorem OwnO.snoc {W:World} {base:Nat} {v:Value} {m:List MO} {x:MO} (h:W.ownsRow base 89 5 v (m.length+1) (cellsO m++[.string x.1.name,x.2,.int .i64 x.1.asked,.int .i64 x.1.age,.int .i64 x.1.strikes])):OwnO W base v (m++[x]):=by
 unfold OwnO
 rw[List.length_append,cellsO_append]
 exact h
theorem five_new (W:World) (x0 x1 x2 x3 x4:Value) (t:TypeId):∀ (j:Nat) (u:Value),[x0,x1,x2,x3,x4][j]? = .some u->(W.alloc (.cells #[x0,x1,x2,x3,x4] t)).cell? ((⟨W.heap.size,0,none⟩:Addr).add j)=.some u:=by
 intro j u hj
 match j,hj with
 |0,hj=>simp at hj;subst hj;simp[Addr.add]
 |1,hj=>simp at hj;subst hj;simp[Addr.add]
 |2,hj=>simp at hj;subst hj;simp[Addr.add]
 |3,hj=>simp at hj;subst hj;simp[Addr.add]
 |4,hj=>simp at hj;subst hj;simp[Addr.add]
theorem five_one {x0 x1 x2 x3 x4:Value} (h0:x0.oneCell'=true) (h1:x1.oneCell'=true) (h2:x2.oneCell'=true) (h3:x3.oneCell'=true) (h4:x4.oneCell'=true):∀ u∈[x0,x1,x2,x3,x4],u.oneCell'=true:=by
 intro u hu
 simp at hu
 rcases hu with rfl|rfl|rfl|rfl|rfl
 ·exact h0
 ·exact h1
 ·exact h2
 ·exact h3
 ·exact h4
end Go.Proofs.YtikiihjabbmkcaaGreatDoor.Pe

