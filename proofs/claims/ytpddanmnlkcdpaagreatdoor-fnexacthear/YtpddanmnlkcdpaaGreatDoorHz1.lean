/- Texts put together: ShaRow. -/
import Derived.WalkKit
import Derived.Below
import Derived.Deep.WholeRow
/- A row of numbers in a block of memory, told by a plain function from places to numbers: reading, writing, loading and storing it whole. -/
namespace Go.Proofs.YtpddanmnlkcdpaaGreatDoor.Sh
open Go.RowKit
def rowF (k:IntKind) (n:Nat) (f:Nat->Int):Array Value:=((List.range n).map fun j=>Value.int k (f j)).toArray
def upd (f:Nat->Int) (i:Nat) (v:Int):Nat->Int:=fun j=>if j=i then v else f j
def IsB (w:World) (g:Nat) (t:TypeId) (k:IntKind) (n:Nat) (f:Nat->Int):Prop:=w.heap[g]? = some (.cells (rowF k n f) t (0,0))
theorem rowF_size (k:IntKind) (n:Nat) (f:Nat->Int):(rowF k n f).size=n:=by simp[rowF]
theorem rowF_get (k:IntKind) (n:Nat) (f:Nat->Int) (j:Nat) (h:j<n):(rowF k n f)[j]? = some (.int k (f j)):=by
 simp[rowF,h]
theorem rowF_one (k:IntKind) (n:Nat) (f:Nat->Int):(rowF k n f).all (·.oneCell')=true:=by
 simp[rowF]
 intro a _
 rfl
theorem rowF_congr {k:IntKind} {n:Nat} {f g:Nat->Int} (h:∀ j,j<n->f j=g j):rowF k n f=rowF k n g:=by
 unfold rowF
 congr 1
 apply List.map_congr_left
 intro j hj
 rw[h j (List.mem_range.1 hj)]
theorem rowF_set (k:IntKind) (n:Nat) (f:Nat->Int) (i:Nat) (v:Int):(rowF k n f).setIfInBounds i (.int k v)=rowF k n (upd f i v):=by
 apply Array.ext
 ·simp[rowF]
 ·intro j h1 h2
  have hn:j<n:=by simpa [rowF] using h2
  rw[Array.getElem_setIfInBounds (by rw[rowF_size];exact hn)]
  by_cases e:i=j
  ·subst e;simp[rowF,upd]
  ·have e':¬j=i:=fun x=>e x.symm
   simp[e,e',rowF,upd]
theorem upd_same (f:Nat->Int) (i:Nat) (v:Int):upd f i v i=v:=by simp[upd]
theorem upd_other (f:Nat->Int) (i j:Nat) (v:Int) (h:j≠i):upd f i v j=f j:=by simp[upd,h]
theorem upd_upd (f:Nat->Int) (i:Nat) (u v:Int):upd (upd f i u) i v=upd f i v:=by
 funext j;unfold upd;split<;>rfl
theorem IsB.cell {w:World} {g:Nat} {t:TypeId} {k:IntKind} {n:Nat} {f:Nat->Int} (h:IsB w g t k n f) {j:Nat} (hj:j<n):w.cell? ⟨g,j,none⟩=some (.int k (f j)):=by
 rw[cell_of_row w g j _ t (0,0) h,rowF_get k n f j hj]
theorem IsB.frozen {w:World} {g:Nat} {t:TypeId} {k:IntKind} {n:Nat} {f:Nat->Int} (h:IsB w g t k n f) (j:Nat):w.frozen? ⟨g,j,none⟩=false :=
 frozen_of_row w g j _ t h
theorem IsB.set {w:World} {g:Nat} {t:TypeId} {k:IntKind} {n:Nat} {f:Nat->Int} (h:IsB w g t k n f) (i:Nat) (v:Int):IsB (w.setCell ⟨g,i,none⟩ (.int k v)) g t k n (upd f i v):=by
 unfold IsB
 rw[heap_setCell_same w g i _ t _ h,rowF_set]
theorem IsB.set_other {w:World} {g:Nat} {t:TypeId} {k:IntKind} {n:Nat} {f:Nat->Int} (h:IsB w g t k n f) (a:Addr) (v:Value) (ha:g≠a.block):IsB (w.setCell a v) g t k n f:=by
 unfold IsB
 rw[heap_setCell_other w a g v ha]
 exact h
theorem IsB.congr {w:World} {g:Nat} {t:TypeId} {k:IntKind} {n:Nat} {f f':Nat->Int} (h:IsB w g t k n f) (e:∀ j,j<n->f j=f' j):IsB w g t k n f':=by
 unfold IsB
 rw[<-rowF_congr e]
 exact h
theorem IsB.lt {w:World} {g:Nat} {t:TypeId} {k:IntKind} {n:Nat} {f:Nat->Int} (h:IsB w g t k n f):g<w.heap.size:=by
 unfold IsB at h
 exact(Array.getElem?_eq_some_iff.1 h).1
theorem IsB.below {w w':World} {g B:Nat} {t:TypeId} {k:IntKind} {n:Nat} {f:Nat->Int} (h:IsB w g t k n f) (b:Below B w w') (hg:g<B):IsB w' g t k n f:=by
 unfold IsB
 rw[b.block g hg]
 exact h
theorem IsB.of_heap {w w':World} {g:Nat} {t:TypeId} {k:IntKind} {n:Nat} {f:Nat->Int} (h:IsB w g t k n f) (e:w'.heap[g]? = w.heap[g]?):IsB w' g t k n f:=by
 unfold IsB
 rw[e]
 exact h
theorem IsB.alloc {w:World} {g:Nat} {t:TypeId} {k:IntKind} {n:Nat} {f:Nat->Int} (h:IsB w g t k n f) (o:Obj):IsB (w.alloc o) g t k n f:=by
 unfold IsB
 rw[Below.heap_alloc w o g h.lt]
 exact h
theorem IsB.new (w:World) (t:TypeId) (k:IntKind) (n:Nat) (f:Nat->Int):IsB (w.alloc (.cells (rowF k n f) t)) w.heap.size t k n f:=by
 unfold IsB
 exact heap_alloc_last w _
theorem IsB.of_list (w:World) (t:TypeId) (k:IntKind) (n:Nat) (f:Nat->Int) (c:Array Value) (h:c=rowF k n f):IsB (w.alloc (.cells c t)) w.heap.size t k n f:=by
 subst h
 exact IsB.new w t k n f
/-! a whole row by value -/
theorem IsB.loadVar {P:Program} {w:World} {g:Nat} {t:TypeId} {k:IntKind} {n:Nat} {f:Nat->Int} (h:IsB w g t k n f) (ty e:TypeId) (hu:P.underlying ty=some (.array n e)) (hi:(P.info? ty).map (·.size)=some n) :
  (Go.loadVar ty ⟨g,0,none⟩).run P w=.ok (.agg (rowF k n f)) w :=
 run_loadVar_row w g t ty _ (0,0) _ h hu rfl (by rw[rowF_size];exact hi)
theorem IsB.loadAt {P:Program} {w:World} {g:Nat} {t:TypeId} {k:IntKind} {n:Nat} {f:Nat->Int} (h:IsB w g t k n f) (ty e:TypeId) (hu:P.underlying ty=some (.array n e)) (hi:(P.info? ty).map (·.size)=some n) :
  (Instr.loadAt ty (.pointer (some ⟨g,0,none⟩))).run P w=.ok (.agg (rowF k n f)) w:=by
 simp only[Instr.loadAt,Instr.sureAddr,Sem.run_bind,Sem.run_pure,Result.andThen]
 exact h.loadVar ty e hu hi
theorem IsB.row {w:World} {g:Nat} {t:TypeId} {k:IntKind} {n:Nat} {f:Nat->Int} (h:IsB w g t k n f) (f':Nat->Int):IsB (w.setRow g (rowF k n f')) g t k n f' :=
 setRow_heap w g _ _ t _ h
theorem below_row {B:Nat} {w w':World} (h:Below B w w') {g:Nat} (hB:B<=g) (c:Array Value):Below B w (w'.setRow g c) :=
 h.trans ⟨rfl,rfl,rfl,by simp[World.setRow],fun j hj=>setRow_other w' g j _ (by omega)⟩
theorem row_size (w:World) (g:Nat) (c:Array Value):(w.setRow g c).heap.size=w.heap.size:=by simp[World.setRow]
end Go.Proofs.YtpddanmnlkcdpaaGreatDoor.Sh

