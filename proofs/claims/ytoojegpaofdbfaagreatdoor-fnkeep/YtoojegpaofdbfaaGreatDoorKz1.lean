import Derived.Test.YtoojegpaofdbfaaGreatDoorKz0
import Derived.Deep.WholeRow
set_option linter.unusedSimpArgs false
namespace Go.Proofs.YtoojegpaofdbfaaGreatDoor
open Go.RowKit
namespace Sh
def qN(k:IntKind)(n:Nat)(f:Nat->Int):Array Value:=((List.range n).map fun j=>Value.int k (f j)).toArray
def upd(f:Nat->Int)(i:Nat)(v:Int):Nat->Int:=fun j=>if j=i then v else f j
def IsB(w:zW)(g:Nat)(t:TypeId)(k:IntKind)(n:Nat)(f:Nat->Int):Prop:=w.heap[g]?=some (.cells (qN k n f) t (0,0))
theorem Zo(k:IntKind)(n:Nat)(f:Nat->Int):(qN k n f).size=n:=by simp[qN]
theorem zbX(k:IntKind)(n:Nat)(f:Nat->Int)(j:Nat)(h:j<n):(qN k n f)[j]?=some (.int k (f j)):=by simp[qN,h]
theorem znf(k:IntKind)(n:Nat)(f:Nat->Int):(qN k n f).all (·.oneCell')=true:=by simp[qN];intro a _;rfl
theorem zcb{k:IntKind}{n:Nat}{f g:Nat->Int}(h:∀j,j<n->f j=g j):qN k n f=qN k n g:=by unfold qN;congr 1;apply Mw;intro j a;rw[h j (Kr.1 a)]
theorem zt8(k:IntKind)(n:Nat)(f:Nat->Int)(i:Nat)(v:Int):(qN k n f).setIfInBounds i (.int k v)=qN k n (upd f i v):=by apply Array.ext;{simp[qN]};{intro j d b;have c:j<n:=by{simpa [qN] using b};rw[Array.getElem_setIfInBounds (by rw[Zo];exact c)];by_cases e:i=j;{subst e;simp[qN,upd]};{have a:¬j=i:=fun x=>e x.symm;simp[e,a,qN,upd]}}
theorem zb9(f:Nat->Int)(i:Nat)(v:Int):upd f i v i=v:=by simp[upd]
theorem zbH(f:Nat->Int)(i j:Nat)(v:Int)(h:j≠i):upd f i v j=f j:=by simp[upd,h]
theorem zxs(f:Nat->Int)(i:Nat)(u v:Int):upd (upd f i u) i v=upd f i v:=by funext j;unfold upd;split<;>rfl
theorem IsB.cell{w:zW}{g:Nat}{t:TypeId}{k:IntKind}{n:Nat}{f:Nat->Int}(h:IsB w g t k n f){j:Nat}(a:j<n):w.cell? ⟨g,j,none⟩=some (.int k (f j)):=by rw[El w g j _ t (0,0) h,zbX k n f j a]
theorem IsB.frozen{w:zW}{g:Nat}{t:TypeId}{k:IntKind}{n:Nat}{f:Nat->Int}(h:IsB w g t k n f)(j:Nat):w.frozen? ⟨g,j,none⟩=false :=
 Ee w g j _ t h
theorem IsB.set{w:zW}{g:Nat}{t:TypeId}{k:IntKind}{n:Nat}{f:Nat->Int}(h:IsB w g t k n f)(i:Nat)(v:Int):IsB (w.setCell ⟨g,i,none⟩ (.int k v)) g t k n (upd f i v):=by unfold IsB;rw[Ep w g i _ t _ h,zt8]
theorem IsB.set_other{w:zW}{g:Nat}{t:TypeId}{k:IntKind}{n:Nat}{f:Nat->Int}(h:IsB w g t k n f)(a:Addr)(v:Value)(b:g≠a.block):IsB (w.setCell a v) g t k n f:=by unfold IsB;rw[Et w a g v b];exact h
theorem IsB.congr{w:zW}{g:Nat}{t:TypeId}{k:IntKind}{n:Nat}{f f':Nat->Int}(h:IsB w g t k n f)(e:∀j,j<n->f j=f' j):IsB w g t k n f':=by unfold IsB;rw[<-zcb e];exact h
theorem IsB.lt{w:zW}{g:Nat}{t:TypeId}{k:IntKind}{n:Nat}{f:Nat->Int}(h:IsB w g t k n f):g<w.heap.size:=by unfold IsB at h;exact(Ev.1 h).1
theorem IsB.below{w w':zW}{g B:Nat}{t:TypeId}{k:IntKind}{n:Nat}{f:Nat->Int}(h:IsB w g t k n f)(b:Below B w w')(a:g<B):IsB w' g t k n f:=by unfold IsB;rw[b.block g a];exact h
theorem IsB.of_heap{w w':zW}{g:Nat}{t:TypeId}{k:IntKind}{n:Nat}{f:Nat->Int}(h:IsB w g t k n f)(e:w'.heap[g]?=w.heap[g]?):IsB w' g t k n f:=by unfold IsB;rw[e];exact h
theorem IsB.alloc{w:zW}{g:Nat}{t:TypeId}{k:IntKind}{n:Nat}{f:Nat->Int}(h:IsB w g t k n f)(o:Obj):IsB (w.alloc o) g t k n f:=by unfold IsB;rw[Nt w o g h.lt];exact h
theorem IsB.new(w:zW)(t:TypeId)(k:IntKind)(n:Nat)(f:Nat->Int):IsB (w.alloc (.cells (qN k n f) t)) w.heap.size t k n f:=by unfold IsB;exact heap_alloc_last w _
theorem IsB.of_list(w:zW)(t:TypeId)(k:IntKind)(n:Nat)(f:Nat->Int)(c:Array Value)(h:c=qN k n f):IsB (w.alloc (.cells c t)) w.heap.size t k n f:=by subst h;exact IsB.new w t k n f
theorem IsB.loadVar{P:Program}{w:zW}{g:Nat}{t:TypeId}{k:IntKind}{n:Nat}{f:Nat->Int}(h:IsB w g t k n f)(ty e:TypeId)(b:P.underlying ty=some (.array n e))(a:(P.info? ty).map (·.size)=some n):
  (Go.loadVar ty ⟨g,0,none⟩).run P w=.ok (.agg (qN k n f)) w :=
 run_loadVar_row w g t ty _ (0,0) _ h b rfl (by rw[Zo];exact a)
theorem IsB.loadAt{P:Program}{w:zW}{g:Nat}{t:TypeId}{k:IntKind}{n:Nat}{f:Nat->Int}(h:IsB w g t k n f)(ty e:TypeId)(b:P.underlying ty=some (.array n e))(a:(P.info? ty).map (·.size)=some n): (Instr.loadAt ty (.pointer (some ⟨g,0,none⟩))).run P w=.ok (.agg (qN k n f)) w:=by simp only[Instr.loadAt,Instr.sureAddr,Nf,Oh,Result.andThen];exact h.loadVar ty e b a
theorem IsB.row{w:zW}{g:Nat}{t:TypeId}{k:IntKind}{n:Nat}{f:Nat->Int}(h:IsB w g t k n f)(f':Nat->Int):IsB (w.setRow g (qN k n f')) g t k n f' :=
 Vd w g _ _ t _ h
theorem za8{B:Nat}{w w':zW}(h:Below B w w'){g:Nat}(a:B<=g)(c:Array Value):Below B w (w'.setRow g c) :=
 h.trans ⟨rfl,rfl,rfl,by simp[World.setRow],fun j b=>Ro w' g j _ (by omega)⟩
theorem zmk(w:zW)(g:Nat)(c:Array Value):(w.setRow g c).heap.size=w.heap.size:=by simp[World.setRow]
end Sh
end Go.Proofs.YtoojegpaofdbfaaGreatDoor
