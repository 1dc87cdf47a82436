import Derived.Test.YtoojegpaofdbfaaGreatDoorKz10
namespace Go.Proofs.YtoojegpaofdbfaaGreatDoor
open Go.RowKit
namespace St
def IsO(w:zW)(g t:Nat)(l:List zY):Prop:=∃cur:Array Value,w.heap[g]?=some (.cells cur t (0,0))/\∀j (h:j<l.length),cur[j]?=some (.string l[j])
theorem IsO.cell{w:zW}{g t:Nat}{l:List zY}(h:IsO w g t l){j:Nat}(d:j<l.length):w.cell? ⟨g,j,none⟩=some (.string l[j]):=by obtain⟨a,b,c⟩:=h;rw[El w g j _ t (0,0) b,c j d]
theorem IsO.frozen{w:zW}{g t:Nat}{l:List zY}(h:IsO w g t l)(j:Nat):w.frozen? ⟨g,j,none⟩=false:=by obtain⟨a,b,_⟩:=h;exact Ee w g j _ t b
theorem IsO.lt{w:zW}{g t:Nat}{l:List zY}(h:IsO w g t l):g<w.heap.size:=by obtain⟨a,b,_⟩:=h;exact(Ev.1 b).1
theorem IsO.of_heap{w w':zW}{g t:Nat}{l:List zY}(h:IsO w g t l)(e:w'.heap[g]?=w.heap[g]?):IsO w' g t l:=by obtain⟨a,b,c⟩:=h;exact⟨a,by rw[e];exact b,c⟩
theorem IsO.below{w w':zW}{g t B:Nat}{l:List zY}(h:IsO w g t l)(b:Below B w w')(a:g<B):IsO w' g t l:=h.of_heap (b.block g a)
theorem IsO.strs{w:zW}{g t B:Nat}{l:List zY}(h:IsO w g t l)(a:g<B):qV w B (some ⟨g,0,none⟩) l :=
 .inr ⟨g,0,rfl,a,fun j b=>by rw[Ff];exact h.cell b⟩
def Aft(g:Nat)(w w':zW):Prop:=w'.os=w.os/\w'.tape=w.tape/\w'.output=w.output/\w.heap.size<=w'.heap.size/\∀k,k<w.heap.size->k≠g->w'.heap[k]?=w.heap[k]?
theorem Aft.refl(g:Nat)(w:zW):Aft g w w:=⟨rfl,rfl,rfl,Ea _,fun _ _ _=>rfl⟩
theorem Aft.below{B g:Nat}{w0 w w':zW}(a:Below B w0 w)(h:Aft g w w')(d:B<=g)(c:B<=w.heap.size):Below B w0 w' :=
 ⟨h.1.trans a.os,h.2.1.trans a.tape,h.2.2.1.trans a.output,Fe a.size h.2.2.2.1,fun k b=>(h.2.2.2.2 k (by omega) (by omega)).trans (a.block k b)⟩
theorem Aft.set{g:Nat}{w w1:zW}(h:Aft g w w1)(i:Nat)(v:Value):Aft g w (w1.setCell ⟨g,i,none⟩ v) :=
 ⟨h.1,h.2.1,h.2.2.1,by simpa [World.setCell] using h.2.2.2.1,fun k b a=>(Et w1 ⟨g,i,none⟩ k v a).trans (h.2.2.2.2 k b a)⟩
end St
end Go.Proofs.YtoojegpaofdbfaaGreatDoor
