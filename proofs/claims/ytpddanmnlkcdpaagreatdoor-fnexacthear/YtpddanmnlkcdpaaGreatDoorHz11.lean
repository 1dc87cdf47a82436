/- Texts put together: StrBase. -/
import Derived.Test.YtpddanmnlkcdpaaGreatDoorHz7
import Derived.Test.YtpddanmnlkcdpaaGreatDoorHz1
/- Rows of texts in memory: as a slice that came in sees them, and as a block of the call's own. -/
namespace Go.Proofs.YtpddanmnlkcdpaaGreatDoor.St
open Go.RowKit
theorem hideT {p:Prop} (h:p):Hid p:=h
def Strs (w:World) (B:Nat) (a:Option Addr) (l:List ByteArray):Prop :=
 l=[]∨∃ b off,a=some ⟨b,off,none⟩/\b<B/\∀ j (h:j<l.length),w.cell? ⟨b,off+j,none⟩=some (.string l[j])
theorem Strs.below {w w':World} {B:Nat} {a:Option Addr} {l:List ByteArray} (h:Strs w B a l) (hb:Below B w w'):Strs w' B a l:=by
 rcases h with h0|⟨b,off,rfl,hlt,hc⟩
 ·exact .inl h0
 ·exact .inr ⟨b,off,rfl,hlt,fun j hj=>(hb.cell (p:=⟨b,off+j,none⟩) hlt).trans (hc j hj)⟩
theorem Strs.mono {w:World} {B C:Nat} {a:Option Addr} {l:List ByteArray} (h:Strs w B a l) (hBC:B<=C):Strs w C a l:=by
 rcases h with h0|⟨b,off,rfl,hlt,hc⟩
 ·exact .inl h0
 ·exact .inr ⟨b,off,rfl,Nat.lt_of_lt_of_le hlt hBC,hc⟩
theorem Strs.after {w w':World} {B C:Nat} {a:Option Addr} {l:List ByteArray} (h:Strs w B a l) (hb:Below C w w') (hBC:B<=C):Strs w' B a l:=by
 rcases h with h0|⟨b,off,rfl,hlt,hc⟩
 ·exact .inl h0
 ·exact .inr ⟨b,off,rfl,hlt,fun j hj=>(hb.cell (p:=⟨b,off+j,none⟩) (Nat.lt_of_lt_of_le hlt hBC)).trans (hc j hj)⟩
theorem Strs.some {w:World} {B:Nat} {a:Option Addr} {l:List ByteArray} (h:Strs w B a l) (hl:0<l.length) :
  ∃ b off,a=.some ⟨b,off,none⟩/\b<B/\∀ j (h:j<l.length),w.cell? ⟨b,off+j,none⟩=.some (.string l[j]):=by
 rcases h with h0|h
 ·subst h0;simp at hl
 ·exact h
def srow (l:List ByteArray):Array Value:=(l.map Value.string).toArray
def IsS (w:World) (g:Nat) (t:TypeId) (l:List ByteArray):Prop:=w.heap[g]? = some (.cells (srow l) t (0,0))
theorem srow_get (l:List ByteArray) (j:Nat) (h:j<l.length):(srow l)[j]? = some (.string l[j]):=by simp[srow,h]
theorem srow_set (l:List ByteArray) (i:Nat) (s:ByteArray):(srow l).setIfInBounds i (.string s)=srow (l.set i s):=by
 simp[srow,List.map_set]
theorem IsS.cell {w:World} {g t:Nat} {l:List ByteArray} (h:IsS w g t l) {j:Nat} (hj:j<l.length):w.cell? ⟨g,j,none⟩=some (.string l[j]):=by
 rw[cell_of_row w g j _ t (0,0) h,srow_get l j hj]
theorem IsS.frozen {w:World} {g t:Nat} {l:List ByteArray} (h:IsS w g t l) (j:Nat):w.frozen? ⟨g,j,none⟩=false:=frozen_of_row w g j _ t h
theorem IsS.set {w:World} {g t:Nat} {l:List ByteArray} (h:IsS w g t l) (i:Nat) (s:ByteArray):IsS (w.setCell ⟨g,i,none⟩ (.string s)) g t (l.set i s):=by
 unfold IsS
 rw[heap_setCell_same w g i _ t _ h,srow_set]
def mid (l:List ByteArray) (k:Nat):List ByteArray:=l.take k++List.replicate (l.length-k) ⟨#[]⟩
theorem mid_length (l:List ByteArray) (k:Nat) (h:k<=l.length):(mid l k).length=l.length:=by simp[mid];omega
theorem mid_zero (l:List ByteArray):mid l 0=List.replicate l.length ⟨#[]⟩:=by simp[mid]
theorem mid_all (l:List ByteArray):mid l l.length=l:=by simp[mid]
theorem mid_next (l:List ByteArray) (k:Nat) (h:k<l.length):(mid l k).set k l[k]=mid l (k+1):=by
 apply List.ext_getElem?
 intro i
 unfold mid
 rw[List.getElem?_set]
 have hl:(l.take k).length=k:=by simp;omega
 have hl':(l.take (k+1)).length=k+1:=by simp;omega
 by_cases e:k=i
 ·subst e
  rw[if_pos rfl,if_pos (by simp;omega),List.getElem?_append_left (by omega),List.getElem?_take_of_lt (by omega),List.getElem?_eq_getElem h]
 ·rw[if_neg e]
  by_cases hi:i<k
  ·rw[List.getElem?_append_left (by omega),List.getElem?_append_left (by omega),List.getElem?_take_of_lt hi,List.getElem?_take_of_lt (by omega)]
  ·rw[List.getElem?_append_right (by omega),List.getElem?_append_right (by omega),hl,hl',List.getElem?_replicate,List.getElem?_replicate]
   have:(i-k<l.length-k)=(i-(k+1)<l.length-(k+1)):=propext ⟨fun h=>by omega,fun h=>by omega⟩
   simp only[this]
theorem made_strs {w:World} {base e g n:Nat} (h:w.ownsRow base e 1 (.slice (some ⟨g,0,none⟩) n n) n (madeCells (Value.string ⟨#[]⟩).cells (n*1)).toList):IsS w g e (List.replicate n ⟨#[]⟩):=by
 obtain⟨_,h⟩:=h
 rcases h with⟨h,_⟩|⟨g',cap,cur,hv,_,hb,_,_,hsz,htk⟩
 ·simp at h
 ·simp at hv
  obtain⟨rfl,rfl⟩:=hv
  have hm:(madeCells (Value.string ⟨#[]⟩).cells (n*1)).toList=(srow (List.replicate n ⟨#[]⟩)).toList:=by
   rw[Nat.mul_one]
   have:=toList_madeCells_one (.string ⟨#[]⟩) n
   simp only[srow,List.map_replicate]
   exact this
  rw[hm,List.take_of_length_le (by simp[hsz])]at htk
  have:cur=srow (List.replicate n ⟨#[]⟩):=by simpa using htk
  rw[this]at hb
  exact hb
theorem Tryz.infoS9:(Tryz.prog.info? 9).map (fun i=>(i.zero,i.size,i.bytes))=some (some (.string ⟨#[]⟩),1,16):=by kernel_rfl
theorem ret_bool {a b:Bool} (h:a=b):Ending.returned (.bool a)=.returned (.bool b):=by rw[h]
end Go.Proofs.YtpddanmnlkcdpaaGreatDoor.St

