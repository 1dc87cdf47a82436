/- Texts put together: StrO. -/
import Derived.Test.YtpddanmnlkcdpaaGreatDoorTz10
/- Blocks whose head is a row of texts; worlds in which one block alone has turned. -/
namespace Go.Proofs.YtpddanmnlkcdpaaGreatDoor.St
open Go.RowKit
def IsO (w:World) (g t:Nat) (l:List ByteArray):Prop:=∃ cur:Array Value,w.heap[g]? = some (.cells cur t (0,0))/\∀ j (h:j<l.length),cur[j]? = some (.string l[j])
theorem IsO.cell {w:World} {g t:Nat} {l:List ByteArray} (h:IsO w g t l) {j:Nat} (hj:j<l.length):w.cell? ⟨g,j,none⟩=some (.string l[j]):=by
 obtain⟨cur,hb,hc⟩:=h
 rw[cell_of_row w g j _ t (0,0) hb,hc j hj]
theorem IsO.lt {w:World} {g t:Nat} {l:List ByteArray} (h:IsO w g t l):g<w.heap.size:=by
 obtain⟨cur,hb,_⟩:=h
 exact(Array.getElem?_eq_some_iff.1 hb).1
theorem IsO.strs {w:World} {g t B:Nat} {l:List ByteArray} (h:IsO w g t l) (hB:g<B):Strs w B (some ⟨g,0,none⟩) l :=
 .inr ⟨g,0,rfl,hB,fun j hj=>by rw[Nat.zero_add];exact h.cell hj⟩
def Aft (g:Nat) (w w':World):Prop:=w'.os=w.os/\w'.tape=w.tape/\w'.output=w.output/\w.heap.size<=w'.heap.size/\∀ k,k<w.heap.size->k≠g->w'.heap[k]? = w.heap[k]?
end Go.Proofs.YtpddanmnlkcdpaaGreatDoor.St

