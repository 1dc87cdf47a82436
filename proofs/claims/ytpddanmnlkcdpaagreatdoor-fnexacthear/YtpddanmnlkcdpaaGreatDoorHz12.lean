/- Texts put together: StrO. -/
import Derived.Test.YtpddanmnlkcdpaaGreatDoorHz11
/- Blocks whose head is a row of texts; worlds in which one block alone has turned. -/
namespace Go.Proofs.YtpddanmnlkcdpaaGreatDoor.St
open Go.RowKit
def IsO (w:World) (g t:Nat) (l:List ByteArray):Prop:=∃ cur:Array Value,w.heap[g]? = some (.cells cur t (0,0))/\∀ j (h:j<l.length),cur[j]? = some (.string l[j])
theorem IsO.cell {w:World} {g t:Nat} {l:List ByteArray} (h:IsO w g t l) {j:Nat} (hj:j<l.length):w.cell? ⟨g,j,none⟩=some (.string l[j]):=by
 obtain⟨cur,hb,hc⟩:=h
 rw[cell_of_row w g j _ t (0,0) hb,hc j hj]
theorem IsO.frozen {w:World} {g t:Nat} {l:List ByteArray} (h:IsO w g t l) (j:Nat):w.frozen? ⟨g,j,none⟩=false:=by
 obtain⟨cur,hb,_⟩:=h
 exact frozen_of_row w g j _ t hb
theorem IsO.set {w:World} {g t:Nat} {l:List ByteArray} (h:IsO w g t l) (i:Nat) (s:ByteArray):IsO (w.setCell ⟨g,i,none⟩ (.string s)) g t (l.set i s):=by
 obtain⟨cur,hb,hc⟩:=h
 refine⟨_,heap_setCell_same w g i _ t _ hb,fun j hj=>?_⟩
 rw[List.length_set]at hj
 rw[Array.getElem?_setIfInBounds,List.getElem_set]
 have hlt:j<cur.size:=(Array.getElem?_eq_some_iff.1 (hc j hj)).1
 by_cases e:i=j
 ·subst e
  simp[hlt]
 ·simp[e,hc j hj]
theorem IsO.lt {w:World} {g t:Nat} {l:List ByteArray} (h:IsO w g t l):g<w.heap.size:=by
 obtain⟨cur,hb,_⟩:=h
 exact(Array.getElem?_eq_some_iff.1 hb).1
theorem IsO.of_heap {w w':World} {g t:Nat} {l:List ByteArray} (h:IsO w g t l) (e:w'.heap[g]? = w.heap[g]?):IsO w' g t l:=by
 obtain⟨cur,hb,hc⟩:=h
 exact⟨cur,by rw[e];exact hb,hc⟩
theorem IsO.below {w w':World} {g t B:Nat} {l:List ByteArray} (h:IsO w g t l) (b:Below B w w') (hg:g<B):IsO w' g t l:=h.of_heap (b.block g hg)
theorem IsO.strs {w:World} {g t B:Nat} {l:List ByteArray} (h:IsO w g t l) (hB:g<B):Strs w B (some ⟨g,0,none⟩) l :=
 .inr ⟨g,0,rfl,hB,fun j hj=>by rw[Nat.zero_add];exact h.cell hj⟩
theorem IsS.own {w:World} {g t:Nat} {l:List ByteArray} (h:IsS w g t l):IsO w g t l:=⟨srow l,h,fun j hj=>srow_get l j hj⟩
def Aft (g:Nat) (w w':World):Prop:=w'.os=w.os/\w'.tape=w.tape/\w'.output=w.output/\w.heap.size<=w'.heap.size/\∀ k,k<w.heap.size->k≠g->w'.heap[k]? = w.heap[k]?
theorem Aft.refl (g:Nat) (w:World):Aft g w w:=⟨rfl,rfl,rfl,Nat.le_refl _,fun _ _ _=>rfl⟩
theorem Aft.more {g:Nat} {w w1 w2:World} (h:Aft g w w1) (hb:Below w1.heap.size w1 w2):Aft g w w2 :=
 ⟨hb.os.trans h.1,hb.tape.trans h.2.1,hb.output.trans h.2.2.1,Nat.le_trans h.2.2.2.1 hb.size,fun k hk hg=>(hb.block k (Nat.lt_of_lt_of_le hk h.2.2.2.1)).trans (h.2.2.2.2 k hk hg)⟩
theorem Aft.set {g:Nat} {w w1:World} (h:Aft g w w1) (i:Nat) (v:Value):Aft g w (w1.setCell ⟨g,i,none⟩ v) :=
 ⟨h.1,h.2.1,h.2.2.1,by simpa [World.setCell] using h.2.2.2.1,fun k hk hg=>(heap_setCell_other w1 ⟨g,i,none⟩ k v hg).trans (h.2.2.2.2 k hk hg)⟩
end Go.Proofs.YtpddanmnlkcdpaaGreatDoor.St

