import Derived.Test.YtoojegpaofdbfaaGreatDoorKz6
import Derived.Test.YtoojegpaofdbfaaGreatDoorKz1
set_option linter.unusedSimpArgs false
namespace Go.Proofs.YtoojegpaofdbfaaGreatDoor
open Go.RowKit
open Go.Proofs.Tryz
namespace St
theorem zq{p:Prop}(h:p):Hid p:=h
def qV(w:zW)(B:Nat)(a:Option Addr)(l:List zY):Prop :=
 l=[]∨∃b off,a=some ⟨b,off,none⟩/\b<B/\∀j (h:j<l.length),w.cell? ⟨b,off+j,none⟩=some (.string l[j])
theorem qV.below{w w':zW}{B:Nat}{a:Option Addr}{l:List zY}(h:qV w B a l)(e:Below B w w'):qV w' B a l:=by rcases h with d|⟨b,off,rfl,c,f⟩;{exact .inl d};{exact .inr ⟨b,off,rfl,c,fun j g=>(e.cell (p:=⟨b,off+j,none⟩) c).trans (f j g)⟩}
theorem qV.mono{w:zW}{B C:Nat}{a:Option Addr}{l:List zY}(h:qV w B a l)(c:B<=C):qV w C a l:=by rcases h with e|⟨b,off,rfl,d,f⟩;{exact .inl e};{exact .inr ⟨b,off,rfl,Ey d c,f⟩}
theorem qV.after{w w':zW}{B C:Nat}{a:Option Addr}{l:List zY}(h:qV w B a l)(f:Below C w w')(d:B<=C):qV w' B a l:=by rcases h with e|⟨b,off,rfl,c,g⟩;{exact .inl e};{exact .inr ⟨b,off,rfl,c,fun j i=>(f.cell (p:=⟨b,off+j,none⟩) (Ey c d)).trans (g j i)⟩}
theorem qV.some{w:zW}{B:Nat}{a:Option Addr}{l:List zY}(h:qV w B a l)(d:0<l.length): ∃b off,a=.some ⟨b,off,none⟩/\b<B/\∀j (h:j<l.length),w.cell? ⟨b,off+j,none⟩=.some (.string l[j]):=by rcases h with c|h;{subst c;simp at d};{exact h}
theorem qV.take{w:zW}{B b off k:Nat}{l:List zY}(c:b<B)(d:∀j (h:j<l.length),w.cell? ⟨b,off+j,none⟩=.some (.string l[j])):qV w B (.some ⟨b,off,none⟩) (l.take k) :=
 .inr ⟨b,off,rfl,c,fun j e=>by
  have a:j<l.length:=Ey e (Uy k l)
  rw[d j a,Lk]⟩
theorem qV.drop{w:zW}{B b off k:Nat}{l:List zY}(a:b<B)(c:∀j (h:j<l.length),w.cell? ⟨b,off+j,none⟩=.some (.string l[j])):qV w B (.some ⟨b,off+k,none⟩) (l.drop k) :=
 .inr ⟨b,off+k,rfl,a,fun j d=>by
  rw[Fy]at d;rw[Mq,<-c (k+j) (by omega)]
  congr 2
  omega⟩
def zsN(l:List zY):Array Value:=(l.map Value.string).toArray
def IsS(w:zW)(g:Nat)(t:TypeId)(l:List zY):Prop:=w.heap[g]?=some (.cells (zsN l) t (0,0))
theorem zui(l:List zY)(j:Nat)(h:j<l.length):(zsN l)[j]?=some (.string l[j]):=by simp[zsN,h]
theorem zuW(l:List zY)(i:Nat)(s:zY):(zsN l).setIfInBounds i (.string s)=zsN (l.set i s):=by simp[zsN,Ub]
theorem IsS.cell{w:zW}{g t:Nat}{l:List zY}(h:IsS w g t l){j:Nat}(a:j<l.length):w.cell? ⟨g,j,none⟩=some (.string l[j]):=by rw[El w g j _ t (0,0) h,zui l j a]
theorem IsS.frozen{w:zW}{g t:Nat}{l:List zY}(h:IsS w g t l)(j:Nat):w.frozen? ⟨g,j,none⟩=false:=Ee w g j _ t h
theorem IsS.set{w:zW}{g t:Nat}{l:List zY}(h:IsS w g t l)(i:Nat)(s:zY):IsS (w.setCell ⟨g,i,none⟩ (.string s)) g t (l.set i s):=by unfold IsS;rw[Ep w g i _ t _ h,zuW]
theorem IsS.set_other{w:zW}{g t:Nat}{l:List zY}(h:IsS w g t l)(a:Addr)(v:Value)(b:g≠a.block):IsS (w.setCell a v) g t l:=by unfold IsS;rw[Et w a g v b];exact h
theorem IsS.lt{w:zW}{g t:Nat}{l:List zY}(h:IsS w g t l):g<w.heap.size:=(Ev.1 h).1
theorem IsS.below{w w':zW}{g t B:Nat}{l:List zY}(h:IsS w g t l)(b:Below B w w')(a:g<B):IsS w' g t l:=by unfold IsS;rw[b.block g a];exact h
theorem IsS.strs{w:zW}{g t B:Nat}{l:List zY}(h:IsS w g t l)(a:g<B):qV w B (some ⟨g,0,none⟩) l :=
 .inr ⟨g,0,rfl,a,fun j b=>by rw[Ff];exact h.cell b⟩
def mid(l:List zY)(k:Nat):List zY:=l.take k++List.replicate (l.length-k) ⟨#[]⟩
theorem Qc{w:zW}{base e g n:Nat}(h:w.ownsRow base e 1 (.slice (some ⟨g,0,none⟩) n n) n (madeCells (Value.string ⟨#[]⟩).cells (n*1)).toList):IsS w g e (List.replicate n ⟨#[]⟩):=by obtain⟨_,h⟩:=h;rcases h with⟨h,_⟩|⟨k,i,b,f,_,d,_,_,c,a⟩;{simp at h};{simp at f;obtain⟨rfl,rfl⟩:=f;have j:(madeCells (Value.string ⟨#[]⟩).cells (n*1)).toList=(zsN (List.replicate n ⟨#[]⟩)).toList:=by{rw[K3];have:=Uz (.string ⟨#[]⟩) n;simp only[zsN,Lv];exact this};rw[j,Ez (by simp[c])]at a;have:b=zsN (List.replicate n ⟨#[]⟩):=by{simpa using a};rw[this]at d;exact d}
theorem Tryz.infoS9:(prog.info? 9).map (fun i=>(i.zero,i.size,i.bytes))=some (some (.string ⟨#[]⟩),1,16):=by kernel_rfl
theorem qw{a b:Bool}(h:a=b):Ending.returned (.bool a)=.returned (.bool b):=by rw[h]
end St
end Go.Proofs.YtoojegpaofdbfaaGreatDoor
