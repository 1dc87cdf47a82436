import Derived.Test.YtbdcffjcogglbaaGreatDoorOz10
namespace Go.Proofs.YtbdcffjcogglbaaGreatDoor
open Go.RowKit
namespace St
def IsO (w:World) (g t:Nat) (l:List ByteArray):Prop:=∃ cur:Array Value,w.heap[g]? = some (.cells cur t (0,0))/\∀ j (h:j<l.length),cur[j]? = some (.string l[j])
theorem IsO.cell {w:World} {g t:Nat} {l:List ByteArray} (h:IsO w g t l) {j:Nat} (hj:j<l.length):w.cell? ⟨g,j,none⟩=some (.string l[j]):=by
 obtain⟨cur,hb,hc⟩:=h;rw[cell_of_row w g j _ t (0,0) hb,hc j hj]
theorem IsO.lt {w:World} {g t:Nat} {l:List ByteArray} (h:IsO w g t l):g<w.heap.size:=by
 obtain⟨cur,hb,_⟩:=h;exact(Array.getElem?_eq_some_iff.1 hb).1
theorem IsO.strs {w:World} {g t B:Nat} {l:List ByteArray} (h:IsO w g t l) (hB:g<B):Strs w B (some ⟨g,0,none⟩) l :=
 .inr ⟨g,0,rfl,hB,fun j hj=>by rw[Nat.zero_add];exact h.cell hj⟩
def Aft (g:Nat) (w w':World):Prop:=w'.os=w.os/\w'.tape=w.tape/\w'.output=w.output/\w.heap.size<=w'.heap.size/\∀ k,k<w.heap.size->k≠g->w'.heap[k]? = w.heap[k]?
theorem Aft.refl (g:Nat) (w:World):Aft g w w:=⟨rfl,rfl,rfl,nl,fun _ _ _=>rfl⟩
theorem Aft.below {B g:Nat} {w0 w w':World} (hb:Below B w0 w) (h:Aft g w w') (hg:B<=g) (hB:B<=w.heap.size):Below B w0 w' :=
 ⟨h.1.trans hb.os,h.2.1.trans hb.tape,h.2.2.1.trans hb.output,Nat.le_trans hb.size h.2.2.2.1,fun k hk=>(h.2.2.2.2 k (by omega) (by omega)).trans (hb.block k hk)⟩
theorem Aft.set {g:Nat} {w w1:World} (h:Aft g w w1) (i:Nat) (v:Value):Aft g w (w1.setCell ⟨g,i,none⟩ v) :=
 ⟨h.1,h.2.1,h.2.2.1,by simpa [World.setCell] using h.2.2.2.1,fun k hk hg=>(heap_setCell_other w1 ⟨g,i,none⟩ k v hg).trans (h.2.2.2.2 k hk hg)⟩
end St
end Go.Proofs.YtbdcffjcogglbaaGreatDoor
