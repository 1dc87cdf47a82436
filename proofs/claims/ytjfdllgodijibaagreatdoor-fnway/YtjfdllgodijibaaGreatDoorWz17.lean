/- Texts put together: IntMark, IntOwn. -/
import Derived.Test.YtjfdllgodijibaaGreatDoorWz15
import Derived.Test.YtjfdllgodijibaaGreatDoorWz16
import Derived.Laws.AppendOwn
/- The laws' marks in rows of numbers: written, and found again. -/
namespace Go.Proofs.YtjfdllgodijibaaGreatDoor.In
open Go.RowKit
open St (Aft)
def IsO (w:World) (g t:Nat) (l:List Int):Prop:=∃ cur:Array Value,w.heap[g]? = some (.cells cur t (0,0))/\∀ j (h:j<l.length),cur[j]? = some (.int .i64 l[j])
theorem IsO.cell {w:World} {g t:Nat} {l:List Int} (h:IsO w g t l) {j:Nat} (hj:j<l.length):w.cell? ⟨g,j,none⟩=some (.int .i64 l[j]):=by
 obtain⟨cur,hb,hc⟩:=h
 rw[cell_of_row w g j _ t (0,0) hb,hc j hj]
theorem IsO.frozen {w:World} {g t:Nat} {l:List Int} (h:IsO w g t l) (j:Nat):w.frozen? ⟨g,j,none⟩=false:=by
 obtain⟨cur,hb,_⟩:=h
 exact frozen_of_row w g j _ t hb
theorem IsO.set {w:World} {g t:Nat} {l:List Int} (h:IsO w g t l) (i:Nat) (s:Int):IsO (w.setCell ⟨g,i,none⟩ (.int .i64 s)) g t (l.set i s):=by
 obtain⟨cur,hb,hc⟩:=h
 refine⟨_,heap_setCell_same w g i _ t _ hb,fun j hj=>?_⟩
 rw[List.length_set]at hj
 rw[Array.getElem?_setIfInBounds,List.getElem_set]
 have hlt:j<cur.size:=(Array.getElem?_eq_some_iff.1 (hc j hj)).1
 by_cases e:i=j
 ·subst e
  simp[hlt]
 ·simp[e,hc j hj]
theorem IsO.lt {w:World} {g t:Nat} {l:List Int} (h:IsO w g t l):g<w.heap.size:=by
 obtain⟨cur,hb,_⟩:=h
 exact(Array.getElem?_eq_some_iff.1 hb).1
theorem IsO.of_heap {w w':World} {g t:Nat} {l:List Int} (h:IsO w g t l) (e:w'.heap[g]? = w.heap[g]?):IsO w' g t l:=by
 obtain⟨cur,hb,hc⟩:=h
 exact⟨cur,by rw[e];exact hb,hc⟩
theorem IsO.below {w w':World} {g t B:Nat} {l:List Int} (h:IsO w g t l) (b:Below B w w') (hg:g<B):IsO w' g t l:=h.of_heap (b.block g hg)
theorem IsO.ints {w:World} {g t B:Nat} {l:List Int} (h:IsO w g t l) (hB:g<B):Ints w B (some ⟨g,0,none⟩) l :=
 .inr ⟨g,0,rfl,hB,fun j hj=>by rw[Nat.zero_add];exact h.cell hj⟩
theorem IsI.own {w:World} {g t:Nat} {l:List Int} (h:IsI w g t l):IsO w g t l:=⟨irow l,h,fun j hj=>irow_get l j hj⟩
def marks (k n:Nat):List Int:=(List.range n).map fun j=>((k+j:Nat):Int)
def mmid (l:List Int) (k i:Nat):List Int:=marks k i++l.drop i
end Go.Proofs.YtjfdllgodijibaaGreatDoor.In


/- Rows of numbers that a call has made and owns: nil, or a block of its own whose head they are. -/
namespace Go.Proofs.YtjfdllgodijibaaGreatDoor.In
open Go.RowKit
open St (Aft)
def OwnI (w:World) (base:Nat) (v:Value) (l:List Int):Prop:=w.ownsRow base 2 1 v l.length (l.map (Value.int .i64))
theorem OwnI.nil (w:World) (base:Nat):OwnI w base (.slice none 0 0) []:=World.ownsRow_nil w base _ _
theorem OwnI.split {w:World} {base:Nat} {v:Value} {l:List Int} (h:OwnI w base v l) :
  (v=.slice none 0 0/\l=[])∨∃ g cap,v=.slice (some ⟨g,0,none⟩) l.length cap/\base<=g/\l.length<=cap/\IsO w g 2 l:=by
 obtain⟨_,h⟩:=h
 rcases h with⟨h,h0⟩|⟨g,cap,cur,hv,hg,hb,hnc,_,hsz,htk⟩
 ·exact .inl ⟨h,List.eq_nil_of_length_eq_zero h0⟩
 ·refine .inr ⟨g,cap,hv,hg,hnc,cur,hb,fun j hj=>?_⟩
  rw[<-Array.getElem?_toList]
  have h1:cur.toList[j]? = (cur.toList.take (l.length*1))[j]?:=by rw[List.getElem?_take_of_lt (by omega)]
  rw[h1,htk]
  simp[hj]
theorem OwnI.below {w w':World} {base:Nat} {v:Value} {l:List Int} (h:OwnI w base v l) (b:Below w.heap.size w w'):OwnI w' base v l:=by
 obtain⟨hl,h⟩:=h
 refine⟨hl,?_⟩
 rcases h with h|⟨g,cap,cur,hv,hg,hb,rest⟩
 ·exact .inl h
 ·exact .inr ⟨g,cap,cur,hv,hg,by rw[b.block g (Array.getElem?_eq_some_iff.1 hb).1];exact hb,rest⟩
theorem OwnI.mono {w:World} {base base':Nat} {v:Value} {l:List Int} (h:OwnI w base v l) (hb:base'<=base):OwnI w base' v l:=by
 obtain⟨hl,h⟩:=h
 refine⟨hl,?_⟩
 rcases h with h|⟨g,cap,cur,hv,hg,rest⟩
 ·exact .inl h
 ·exact .inr ⟨g,cap,cur,hv,Nat.le_trans hb hg,rest⟩
theorem OwnI.ints {w:World} {base:Nat} {v:Value} {l:List Int} (h:OwnI w base v l):∃ a cap,v=.slice a l.length cap/\l.length<=cap/\Ints w w.heap.size a l:=by
 rcases h.split with⟨rfl,rfl⟩|⟨g,cap,rfl,_,hc,ho⟩
 ·exact⟨none,0,rfl,Nat.le_refl _,.inl rfl⟩
 ·exact⟨_,cap,rfl,hc,ho.ints ho.lt⟩
theorem one_newI (W:World) (s:Int) (t:TypeId):∀ (j:Nat) (u:Value),[(Value.int .i64) s][j]? = some u->(W.alloc (.cells #[.int .i64 s] t)).cell? ((⟨W.heap.size,0,none⟩:Addr).add j)=some u:=by
 intro j u hj
 match j,hj with
 |0,hj=>simp at hj;subst hj;simp[Addr.add]
theorem one_cellI (s:Int):∀ u∈[(Value.int .i64) s],u.oneCell'=true:=by
 intro u hu
 simp at hu
 subst hu
 rfl
theorem OwnI.snoc {w:World} {base:Nat} {v:Value} {l:List Int} {s:Int} (h:w.ownsRow base 2 1 v (l.length+1) (l.map (Value.int .i64)++[.int .i64 s])):OwnI w base v (l++[s]):=by
 unfold OwnI
 rw[List.length_append,List.map_append]
 exact h
theorem app_one {B base:Nat} {e:TypeId} {w0 w w1:World} {v:Value} {n size:Nat} {xs:List Value} {o:Obj} (hbel:Below B w0 w) (hB:B<=w.heap.size) (hBb:B<=base)
  (hown:w.ownsRow base e size v n xs) (hgrow:(w.alloc o).grownBy w1 v.ownBlock):Below B w0 w1:=by
 refine(hbel.alloc hB o).grown hgrow (by simp;omega) ?_
 intro k hk
 exact Nat.le_trans hBb (hown.lt k hk).1
end Go.Proofs.YtjfdllgodijibaaGreatDoor.In

