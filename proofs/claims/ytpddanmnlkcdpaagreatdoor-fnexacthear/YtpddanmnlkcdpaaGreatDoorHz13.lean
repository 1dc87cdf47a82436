/- Texts put together: StrOwn. -/
import Derived.Test.YtpddanmnlkcdpaaGreatDoorHz12
import Derived.Laws.AppendOwn
/- Rows of texts that a call has made and owns: nil, or a block of its own whose head they are. -/
namespace Go.Proofs.YtpddanmnlkcdpaaGreatDoor.St
open Go.RowKit
def OwnS (w:World) (base:Nat) (v:Value) (l:List ByteArray):Prop:=w.ownsRow base 9 1 v l.length (l.map Value.string)
theorem OwnS.nil (w:World) (base:Nat):OwnS w base (.slice none 0 0) []:=World.ownsRow_nil w base _ _
theorem OwnS.split {w:World} {base:Nat} {v:Value} {l:List ByteArray} (h:OwnS w base v l) :
  (v=.slice none 0 0/\l=[])∨∃ g cap,v=.slice (some ⟨g,0,none⟩) l.length cap/\base<=g/\l.length<=cap/\IsO w g 9 l:=by
 obtain⟨_,h⟩:=h
 rcases h with⟨h,h0⟩|⟨g,cap,cur,hv,hg,hb,hnc,_,hsz,htk⟩
 ·exact .inl ⟨h,List.eq_nil_of_length_eq_zero h0⟩
 ·refine .inr ⟨g,cap,hv,hg,hnc,cur,hb,fun j hj=>?_⟩
  rw[<-Array.getElem?_toList]
  have h1:cur.toList[j]? = (cur.toList.take (l.length*1))[j]?:=by rw[List.getElem?_take_of_lt (by omega)]
  rw[h1,htk]
  simp[hj]
theorem OwnS.below {w w':World} {base:Nat} {v:Value} {l:List ByteArray} (h:OwnS w base v l) (b:Below w.heap.size w w'):OwnS w' base v l:=by
 obtain⟨hl,h⟩:=h
 refine⟨hl,?_⟩
 rcases h with h|⟨g,cap,cur,hv,hg,hb,rest⟩
 ·exact .inl h
 ·exact .inr ⟨g,cap,cur,hv,hg,by rw[b.block g (Array.getElem?_eq_some_iff.1 hb).1];exact hb,rest⟩
theorem OwnS.mono {w:World} {base base':Nat} {v:Value} {l:List ByteArray} (h:OwnS w base v l) (hb:base'<=base):OwnS w base' v l:=by
 obtain⟨hl,h⟩:=h
 refine⟨hl,?_⟩
 rcases h with h|⟨g,cap,cur,hv,hg,rest⟩
 ·exact .inl h
 ·exact .inr ⟨g,cap,cur,hv,Nat.le_trans hb hg,rest⟩
theorem OwnS.strs {w:World} {base:Nat} {v:Value} {l:List ByteArray} (h:OwnS w base v l):∃ a cap,v=.slice a l.length cap/\l.length<=cap/\Strs w w.heap.size a l:=by
 rcases h.split with⟨rfl,rfl⟩|⟨g,cap,rfl,_,hc,ho⟩
 ·exact⟨none,0,rfl,Nat.le_refl _,.inl rfl⟩
 ·exact⟨_,cap,rfl,hc,ho.strs ho.lt⟩
theorem one_newS (W:World) (s:ByteArray) (t:TypeId):∀ (j:Nat) (u:Value),[Value.string s][j]? = some u->(W.alloc (.cells #[.string s] t)).cell? ((⟨W.heap.size,0,none⟩:Addr).add j)=some u:=by
 intro j u hj
 match j,hj with
 |0,hj=>simp at hj;subst hj;simp[Addr.add]
theorem one_cellS (s:ByteArray):∀ u∈[Value.string s],u.oneCell'=true:=by
 intro u hu
 simp at hu
 subst hu
 rfl
theorem OwnS.snoc {w:World} {base:Nat} {v:Value} {l:List ByteArray} {s:ByteArray} (h:w.ownsRow base 9 1 v (l.length+1) (l.map Value.string++[.string s])):OwnS w base v (l++[s]):=by
 unfold OwnS
 rw[List.length_append,List.map_append]
 exact h
theorem app_one {B base:Nat} {e:TypeId} {w0 w w1:World} {v:Value} {n size:Nat} {xs:List Value} {o:Obj} (hbel:Below B w0 w) (hB:B<=w.heap.size) (hBb:B<=base)
  (hown:w.ownsRow base e size v n xs) (hgrow:(w.alloc o).grownBy w1 v.ownBlock):Below B w0 w1:=by
 refine(hbel.alloc hB o).grown hgrow (by simp;omega) ?_
 intro k hk
 exact Nat.le_trans hBb (hown.lt k hk).1
end Go.Proofs.YtpddanmnlkcdpaaGreatDoor.St

