import Derived.Test.YthhacleplhaihaaGreatDoorPv0
import Derived.Deep.WholeRow
set_option linter.unusedSimpArgs false
set_option linter.defProp false
namespace Go.Proofs.YthhacleplhaihaaGreatDoor
open Go.RowKit
variable{B g n:Nat}{P:Program}{f:Nat->Int}{k:IntKind}{t:TypeId}{w w':zW}
def Zl(k:IntKind)(n:Nat)(f:Nat->Int):Array Value:=((List.range n).map fun j=>Value.int k (f j)).toArray
def upd(f:Nat->Int)(i:Nat)(v:Int):Nat->Int:=fun j=>if j=i then v else f j
def IsB(w:zW)(g:Nat)(t:TypeId)(k:IntKind)(n:Nat)(f:Nat->Int):Prop:=w.heap[g]?=some (.cells (Zl k n f) t (0,0))
def QI(k:IntKind)(n:Nat)(f:Nat->Int):(Zl k n f).size=n:=by simp[Zl]
def zc6(k:IntKind)(n:Nat)(f:Nat->Int)(j:Nat)(h:j<n):(Zl k n f)[j]?=some (.int k (f j)):=by simp[Zl,h]
def zwi(k:IntKind)(n:Nat)(f:Nat->Int):(Zl k n f).all (·.oneCell')=true:=by simp[Zl];intro a _;rfl
def zd7{g:Nat->Int}(h:∀j,j<n->f j=g j):Zl k n f=Zl k n g:=by unfold Zl;congr 1;apply Pv;intro j a;rw[h j (Nz.1 a)]
def zt2(k:IntKind)(n:Nat)(f:Nat->Int)(i:Nat)(v:Int):(Zl k n f).setIfInBounds i (.int k v)=Zl k n (upd f i v):=by apply Array.ext;{simp[Zl]};{intro j d b;have c:j<n:=by{simpa [Zl] using b};rw[Array.getElem_setIfInBounds (by rw[QI];exact c)];by_cases e:i=j;{subst e;simp[Zl,upd]};{have a:¬j=i:=fun x=>e x.symm;simp[e,a,Zl,upd]}}
def znl(f:Nat->Int)(i:Nat)(v:Int):upd f i v i=v:=by simp[upd]
def zqT(f:Nat->Int)(i j:Nat)(v:Int)(h:j≠i):upd f i v j=f j:=by simp[upd,h]
def zyp(f:Nat->Int)(i:Nat)(u v:Int):upd (upd f i u) i v=upd f i v:=by funext j;unfold upd;split<;>rfl
theorem IsB.cell(h:IsB w g t k n f){j:Nat}(a:j<n):w.cell? (zA g j)=some (.int k (f j)):=by rw[Ed w g j _ t (0,0) h,zc6 k n f j a]
theorem IsB.frozen(h:IsB w g t k n f)(j:Nat):w.frozen? (zA g j)=false :=
 Ec w g j _ t h
def IsB.set(h:IsB w g t k n f)(i:Nat)(v:Int):IsB (zw w g i (.int k v)) g t k n (upd f i v):=by unfold IsB;rw[En w g i _ t _ h,zt2]
def IsB.set_other(h:IsB w g t k n f)(a:Addr)(v:Value)(b:g≠a.block):IsB (w.setCell a v) g t k n f:=by unfold IsB;rw[Ei w a g v b];exact h
def IsB.congr{f':Nat->Int}(h:IsB w g t k n f)(e:∀j,j<n->f j=f' j):IsB w g t k n f':=by unfold IsB;rw[<-zd7 e];exact h
def IsB.lt(h:IsB w g t k n f):g<w.heap.size:=by unfold IsB at h;exact(Fd.1 h).1
def IsB.below(h:IsB w g t k n f)(b:Below B w w')(a:g<B):IsB w' g t k n f:=by unfold IsB;rw[b.block g a];exact h
def IsB.of_heap(h:IsB w g t k n f)(e:w'.heap[g]?=w.heap[g]?):IsB w' g t k n f:=by unfold IsB;rw[e];exact h
theorem IsB.alloc(h:IsB w g t k n f)(o:Obj):IsB (w.alloc o) g t k n f:=by unfold IsB;rw[Un w o g h.lt];exact h
def IsB.new(w:zW)(t:TypeId)(k:IntKind)(n:Nat)(f:Nat->Int):IsB (w.alloc (.cells (Zl k n f) t)) w.heap.size t k n f:=by unfold IsB;exact heap_alloc_last w _
def IsB.of_list(w:zW)(t:TypeId)(k:IntKind)(n:Nat)(f:Nat->Int)(c:Array Value)(h:c=Zl k n f):IsB (w.alloc (.cells c t)) w.heap.size t k n f:=by subst h;exact IsB.new w t k n f
def IsB.loadVar(h:IsB w g t k n f)(ty e:TypeId)(b:P.underlying ty=some (.array n e))(a:(P.info? ty).map (·.size)=some n):
  (Go.loadVar ty (zA g 0)).run P w=.ok (.agg (Zl k n f)) w :=
 run_loadVar_row w g t ty _ (0,0) _ h b rfl (by rw[QI];exact a)
theorem IsB.loadAt(h:IsB w g t k n f)(ty e:TypeId)(b:P.underlying ty=some (.array n e))(a:(P.info? ty).map (·.size)=some n): (Instr.loadAt ty (.pointer (zx g))).run P w=.ok (.agg (Zl k n f)) w:=by simp only[Instr.loadAt,Instr.sureAddr,Mu,Nu,Result.andThen];exact h.loadVar ty e b a
def IsB.row(h:IsB w g t k n f)(f':Nat->Int):IsB (w.setRow g (Zl k n f')) g t k n f' :=
 Mw w g _ _ t _ h
def zfM(h:Below B w w')(a:B<=g)(c:Array Value):Below B w (w'.setRow g c) :=
 h.trans ⟨rfl,rfl,rfl,by simp[World.setRow],fun j b=>Ma w' g j _ (by omega)⟩
def zvn(w:zW)(g:Nat)(c:Array Value):(w.setRow g c).heap.size=w.heap.size:=by simp[World.setRow]
