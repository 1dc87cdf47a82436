/- Texts put together: StrBase. -/
import Derived.Test.YtpddanmnlkcdpaaGreatDoorTz6
import Derived.Test.YtpddanmnlkcdpaaGreatDoorTz1
/- Rows of texts in memory: as a slice that came in sees them, and as a block of the call's own. -/
namespace Go.Proofs.YtpddanmnlkcdpaaGreatDoor.St
open Go.RowKit
theorem hideT {p:Prop} (h:p):Hid p:=h
def Strs (w:World) (B:Nat) (a:Option Addr) (l:List ByteArray):Prop :=
 l=[]∨∃ b off,a=some ⟨b,off,none⟩/\b<B/\∀ j (h:j<l.length),w.cell? ⟨b,off+j,none⟩=some (.string l[j])
theorem Strs.below {w w':World} {B:Nat} {a:Option Addr} {l:List ByteArray} (h:Strs w B a l) (hb:Below B w w'):Strs w' B a l:=by
 rcases h with h0|⟨b,off,rfl,hlt,hc⟩
 ·exact .inl h0
 ·exact .inr ⟨b,off,rfl,hlt,fun j hj=>(hb.cell (p:=⟨b,off+j,none⟩) hlt).trans (hc j hj)⟩
theorem Strs.mono {w:World} {B C:Nat} {a:Option Addr} {l:List ByteArray} (h:Strs w B a l) (hBC:B<=C):Strs w C a l:=by
 rcases h with h0|⟨b,off,rfl,hlt,hc⟩
 ·exact .inl h0
 ·exact .inr ⟨b,off,rfl,Nat.lt_of_lt_of_le hlt hBC,hc⟩
theorem Strs.after {w w':World} {B C:Nat} {a:Option Addr} {l:List ByteArray} (h:Strs w B a l) (hb:Below C w w') (hBC:B<=C):Strs w' B a l:=by
 rcases h with h0|⟨b,off,rfl,hlt,hc⟩
 ·exact .inl h0
 ·exact .inr ⟨b,off,rfl,hlt,fun j hj=>(hb.cell (p:=⟨b,off+j,none⟩) (Nat.lt_of_lt_of_le hlt hBC)).trans (hc j hj)⟩
theorem Strs.some {w:World} {B:Nat} {a:Option Addr} {l:List ByteArray} (h:Strs w B a l) (hl:0<l.length) :
  ∃ b off,a=.some ⟨b,off,none⟩/\b<B/\∀ j (h:j<l.length),w.cell? ⟨b,off+j,none⟩=.some (.string l[j]):=by
 rcases h with h0|h
 ·subst h0;simp at hl
 ·exact h
def srow (l:List ByteArray):Array Value:=(l.map Value.string).toArray
def IsS (w:World) (g:Nat) (t:TypeId) (l:List ByteArray):Prop:=w.heap[g]? = some (.cells (srow l) t (0,0))
def mid (l:List ByteArray) (k:Nat):List ByteArray:=l.take k++List.replicate (l.length-k) ⟨#[]⟩
theorem Tryz.infoS9:(Tryz.prog.info? 9).map (fun i=>(i.zero,i.size,i.bytes))=some (some (.string ⟨#[]⟩),1,16):=by kernel_rfl
theorem ret_bool {a b:Bool} (h:a=b):Ending.returned (.bool a)=.returned (.bool b):=by rw[h]
end Go.Proofs.YtpddanmnlkcdpaaGreatDoor.St

