import Derived.Test.YthhacleplhaihaaGreatDoorPv10
set_option linter.defProp false
namespace Go.Proofs.YthhacleplhaihaaGreatDoor
open Go.RowKit
variable{B g t:Nat}{l:List zY}{w w':zW}
def QA(w:zW)(g t:Nat)(l:List zY):Prop:=∃cur:Array Value,w.heap[g]?=some (.cells cur t (0,0))/\∀j (h:j<l.length),cur[j]?=some (.string l[j])
theorem QA.cell(h:QA w g t l){j:Nat}(d:j<l.length):w.cell? (zA g j)=some (.string l[j]):=by obtain⟨a,b,c⟩:=h;rw[Ed w g j _ t (0,0) b,c j d]
theorem QA.frozen(h:QA w g t l)(j:Nat):w.frozen? (zA g j)=false:=by obtain⟨a,b,_⟩:=h;exact Ec w g j _ t b
def QA.lt(h:QA w g t l):g<w.heap.size:=by obtain⟨a,b,_⟩:=h;exact(Fd.1 b).1
def QA.of_heap(h:QA w g t l)(e:w'.heap[g]?=w.heap[g]?):QA w' g t l:=by obtain⟨a,b,c⟩:=h;exact⟨a,by rw[e];exact b,c⟩
def QA.below(h:QA w g t l)(b:Below B w w')(a:g<B):QA w' g t l:=h.of_heap (b.block g a)
def QA.strs(h:QA w g t l)(a:g<B):Strs w B (zx g) l :=
 .inr ⟨g,0,rfl,a,fun j b=>by rw[Kb];exact h.cell b⟩
def zbp(g:Nat)(w w':zW):Prop:=w'.os=w.os/\w'.tape=w.tape/\w'.output=w.output/\w.heap.size<=w'.heap.size/\∀k,k<w.heap.size->k≠g->w'.heap[k]?=w.heap[k]?
def zbp.refl(g:Nat)(w:zW):zbp g w w:=⟨rfl,rfl,rfl,Ea _,fun _ _ _=>rfl⟩
def zbp.below{w0:zW}(a:Below B w0 w)(h:zbp g w w')(d:B<=g)(c:B<=w.heap.size):Below B w0 w' :=
 ⟨h.1.trans a.os,h.2.1.trans a.tape,h.2.2.1.trans a.output,Fb a.size h.2.2.2.1,fun k b=>(h.2.2.2.2 k (by omega) (by omega)).trans (a.block k b)⟩
def zbp.set{w1:zW}(h:zbp g w w1)(i:Nat)(v:Value):zbp g w (zw w1 g i v) :=
 ⟨h.1,h.2.1,h.2.2.1,by simpa [World.setCell] using h.2.2.2.1,fun k b a=>(Ei w1 (zA g i) k v a).trans (h.2.2.2.2 k b a)⟩
