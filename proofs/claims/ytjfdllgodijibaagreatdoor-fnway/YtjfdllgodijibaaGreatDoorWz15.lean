/- Texts put together: IntRow, IntLaws. -/
import Derived.Test.YtjfdllgodijibaaGreatDoorWz6
import Derived.Test.YtjfdllgodijibaaGreatDoorWz1
import Derived.BigRegion
import Derived.BigQuiet
import Derived.Deep.QuietTactic
/- Rows of numbers in memory: as a slice that came in sees them, and as a block of the call's own. -/
namespace Go.Proofs.YtjfdllgodijibaaGreatDoor.In
open Go.RowKit
def Ints (w:World) (B:Nat) (a:Option Addr) (l:List Int):Prop :=
 l=[]∨∃ b off,a=some ⟨b,off,none⟩/\b<B/\∀ j (h:j<l.length),w.cell? ⟨b,off+j,none⟩=some (.int .i64 l[j])
theorem Ints.below {w w':World} {B:Nat} {a:Option Addr} {l:List Int} (h:Ints w B a l) (hb:Below B w w'):Ints w' B a l:=by
 rcases h with h0|⟨b,off,rfl,hlt,hc⟩
 ·exact .inl h0
 ·exact .inr ⟨b,off,rfl,hlt,fun j hj=>(hb.cell (p:=⟨b,off+j,none⟩) hlt).trans (hc j hj)⟩
theorem Ints.mono {w:World} {B C:Nat} {a:Option Addr} {l:List Int} (h:Ints w B a l) (hBC:B<=C):Ints w C a l:=by
 rcases h with h0|⟨b,off,rfl,hlt,hc⟩
 ·exact .inl h0
 ·exact .inr ⟨b,off,rfl,Nat.lt_of_lt_of_le hlt hBC,hc⟩
theorem Ints.after {w w':World} {B C:Nat} {a:Option Addr} {l:List Int} (h:Ints w B a l) (hb:Below C w w') (hBC:B<=C):Ints w' B a l:=by
 rcases h with h0|⟨b,off,rfl,hlt,hc⟩
 ·exact .inl h0
 ·exact .inr ⟨b,off,rfl,hlt,fun j hj=>(hb.cell (p:=⟨b,off+j,none⟩) (Nat.lt_of_lt_of_le hlt hBC)).trans (hc j hj)⟩
theorem Ints.some {w:World} {B:Nat} {a:Option Addr} {l:List Int} (h:Ints w B a l) (hl:0<l.length) :
  ∃ b off,a=.some ⟨b,off,none⟩/\b<B/\∀ j (h:j<l.length),w.cell? ⟨b,off+j,none⟩=.some (.int .i64 l[j]):=by
 rcases h with h0|h
 ·subst h0;simp at hl
 ·exact h
theorem Ints.take {w:World} {B b off k:Nat} {l:List Int} (hB:b<B) (hc:∀ j (h:j<l.length),w.cell? ⟨b,off+j,none⟩=.some (.int .i64 l[j])):Ints w B (.some ⟨b,off,none⟩) (l.take k) :=
 .inr ⟨b,off,rfl,hB,fun j hj=>by
  have h1:j<l.length:=Nat.lt_of_lt_of_le hj (List.length_take_le' k l)
  rw[hc j h1,List.getElem_take]⟩
theorem Ints.drop {w:World} {B b off k:Nat} {l:List Int} (hB:b<B) (hc:∀ j (h:j<l.length),w.cell? ⟨b,off+j,none⟩=.some (.int .i64 l[j])):Ints w B (.some ⟨b,off+k,none⟩) (l.drop k) :=
 .inr ⟨b,off+k,rfl,hB,fun j hj=>by
  rw[List.length_drop]at hj
  rw[List.getElem_drop,<-hc (k+j) (by omega)]
  congr 2
  omega⟩
def irow (l:List Int):Array Value:=(l.map (Value.int .i64)).toArray
def IsI (w:World) (g:Nat) (t:TypeId) (l:List Int):Prop:=w.heap[g]? = some (.cells (irow l) t (0,0))
theorem irow_size (l:List Int):(irow l).size=l.length:=by simp[irow]
theorem irow_get (l:List Int) (j:Nat) (h:j<l.length):(irow l)[j]? = some (.int .i64 l[j]):=by simp[irow,h]
theorem irow_set (l:List Int) (i:Nat) (s:Int):(irow l).setIfInBounds i (.int .i64 s)=irow (l.set i s):=by
 simp[irow,List.map_set]
theorem IsI.cell {w:World} {g t:Nat} {l:List Int} (h:IsI w g t l) {j:Nat} (hj:j<l.length):w.cell? ⟨g,j,none⟩=some (.int .i64 l[j]):=by
 rw[cell_of_row w g j _ t (0,0) h,irow_get l j hj]
theorem IsI.frozen {w:World} {g t:Nat} {l:List Int} (h:IsI w g t l) (j:Nat):w.frozen? ⟨g,j,none⟩=false:=frozen_of_row w g j _ t h
theorem IsI.set {w:World} {g t:Nat} {l:List Int} (h:IsI w g t l) (i:Nat) (s:Int):IsI (w.setCell ⟨g,i,none⟩ (.int .i64 s)) g t (l.set i s):=by
 unfold IsI
 rw[heap_setCell_same w g i _ t _ h,irow_set]
theorem IsI.lt {w:World} {g t:Nat} {l:List Int} (h:IsI w g t l):g<w.heap.size:=(Array.getElem?_eq_some_iff.1 h).1
theorem IsI.below {w w':World} {g t B:Nat} {l:List Int} (h:IsI w g t l) (b:Below B w w') (hg:g<B):IsI w' g t l:=by
 unfold IsI
 rw[b.block g hg]
 exact h
theorem IsI.ints {w:World} {g t B:Nat} {l:List Int} (h:IsI w g t l) (hB:g<B):Ints w B (some ⟨g,0,none⟩) l :=
 .inr ⟨g,0,rfl,hB,fun j hj=>by rw[Nat.zero_add];exact h.cell hj⟩
def mid (l:List Int) (k:Nat):List Int:=l.take k++List.replicate (l.length-k) 0
theorem made_ints {w:World} {base e g n:Nat} (h:w.ownsRow base e 1 (.slice (some ⟨g,0,none⟩) n n) n (madeCells (Value.int .i64 0).cells (n*1)).toList):IsI w g e (List.replicate n 0):=by
 obtain⟨_,h⟩:=h
 rcases h with⟨h,_⟩|⟨g',cap,cur,hv,_,hb,_,_,hsz,htk⟩
 ·simp at h
 ·simp at hv
  obtain⟨rfl,rfl⟩:=hv
  have hm:(madeCells (Value.int .i64 0).cells (n*1)).toList=(irow (List.replicate n 0)).toList:=by
   rw[Nat.mul_one]
   have:=toList_madeCells_one (.int .i64 0) n
   simp only[irow,List.map_replicate]
   exact this
  rw[hm,List.take_of_length_le (by simp[hsz])]at htk
  have:cur=irow (List.replicate n 0):=by simpa using htk
  rw[this]at hb
  exact hb
theorem Tryz.infoI2:(Tryz.prog.info? 2).map (fun i=>(i.zero,i.size,i.bytes))=some (some (.int .i64 0),1,8):=by kernel_rfl
end Go.Proofs.YtjfdllgodijibaaGreatDoor.In


/- The laws' own helpers on rows of numbers: the budget of their sizes, and whether two are alike. -/
namespace Go.Proofs.YtjfdllgodijibaaGreatDoor.In
open Go.RowKit
end Go.Proofs.YtjfdllgodijibaaGreatDoor.In

