import Derived.Test.YthhacleplhaihaaGreatDoorPv6
import Derived.Test.YthhacleplhaihaaGreatDoorPv2
set_option linter.unusedSimpArgs false
set_option linter.defProp false
namespace Go.Proofs.YthhacleplhaihaaGreatDoor
open Go.RowKit
open Go.Proofs.Tryz
variable{B C b g k t:Nat}{a:Option Addr}{l:List zY}{w w':zW}
def zn{p:Prop}(h:p):Hid p:=h
def Strs(w:zW)(B:Nat)(a:Option Addr)(l:List zY):Prop :=
 l=[]∨∃b off,a=some (zA b off)/\b<B/\∀j (h:j<l.length),w.cell? (zA b (off+j))=some (.string l[j])
def Strs.below(h:Strs w B a l)(f:Below B w w'):Strs w' B a l:=by rcases h with e|⟨b,d,rfl,c,g⟩;{exact .inl e};{exact .inr ⟨b,d,rfl,c,fun j i=>(f.cell (p:=zA b (d+j)) c).trans (g j i)⟩}
def Strs.mono(h:Strs w B a l)(c:B<=C):Strs w C a l:=by rcases h with f|⟨b,e,rfl,d,g⟩;{exact .inl f};{exact .inr ⟨b,e,rfl,Fw d c,g⟩}
def Strs.after(h:Strs w B a l)(g:Below C w w')(e:B<=C):Strs w' B a l:=by rcases h with f|⟨b,d,rfl,c,i⟩;{exact .inl f};{exact .inr ⟨b,d,rfl,c,fun j k=>(g.cell (p:=zA b (d+j)) (Fw c e)).trans (i j k)⟩}
theorem Strs.some(h:Strs w B a l)(e:0<l.length): ∃b c,a=.some (zA b c)/\b<B/\∀j (h:j<l.length),w.cell? (zA b (c+j))=.some (.string l[j]):=by rcases h with d|h;{subst d;simp at e};{exact h}
theorem Strs.take{a:Nat}(d:b<B)(e:∀j (h:j<l.length),w.cell? (zA b (a+j))=.some (.string l[j])):Strs w B (.some (zA b a)) (l.take k) :=
 .inr ⟨b,a,rfl,d,fun j f=>by
  have c:j<l.length:=Fw f (Vc k l)
  rw[e j c,Mc]⟩
theorem Strs.drop{a:Nat}(c:b<B)(d:∀j (h:j<l.length),w.cell? (zA b (a+j))=.some (.string l[j])):Strs w B (.some (zA b (a+k))) (l.drop k) :=
 .inr ⟨b,a+k,rfl,c,fun j e=>by
  rw[Fh]at e;rw[Mq,<-d (k+j) (by omega)]
  congr 2
  omega⟩
def srow(l:List zY):Array Value:=(l.map Value.string).toArray
def IsS(w:zW)(g:Nat)(t:TypeId)(l:List zY):Prop:=w.heap[g]?=some (.cells (srow l) t (0,0))
def zux(l:List zY)(j:Nat)(h:j<l.length):(srow l)[j]?=some (.string l[j]):=by simp[srow,h]
def zvC(l:List zY)(i:Nat)(s:zY):(srow l).setIfInBounds i (.string s)=srow (l.set i s):=by simp[srow,Rl]
theorem IsS.cell(h:IsS w g t l){j:Nat}(a:j<l.length):w.cell? (zA g j)=some (.string l[j]):=by rw[Ed w g j _ t (0,0) h,zux l j a]
theorem IsS.frozen(h:IsS w g t l)(j:Nat):w.frozen? (zA g j)=false:=Ec w g j _ t h
theorem IsS.set(h:IsS w g t l)(i:Nat)(s:zY):IsS (w.setCell (zA g i) (.string s)) g t (l.set i s):=by unfold IsS;rw[En w g i _ t _ h,zvC]
def IsS.lt(h:IsS w g t l):g<w.heap.size:=(Fd.1 h).1
def IsS.below(h:IsS w g t l)(b:Below B w w')(a:g<B):IsS w' g t l:=by unfold IsS;rw[b.block g a];exact h
def zBI(l:List zY)(k:Nat):List zY:=l.take k++List.replicate (l.length-k) ⟨#[]⟩
def zrc{a e n:Nat}(h:w.ownsRow a e 1 (.slice (zx g) n n) n (madeCells (Value.string ⟨#[]⟩).cells (n*1)).toList):IsS w g e (List.replicate n ⟨#[]⟩):=by obtain⟨_,h⟩:=h;rcases h with⟨h,_⟩|⟨l,j,c,i,_,f,_,_,d,b⟩;{simp at h};{simp at i;obtain⟨rfl,rfl⟩:=i;have k:(madeCells (Value.string ⟨#[]⟩).cells (n*1)).toList=(srow (List.replicate n ⟨#[]⟩)).toList:=by{rw[Kj];have:=Vd zt0 n;simp only[srow,Rf];exact this};rw[k,E0 (by simp[d])]at b;have:c=srow (List.replicate n ⟨#[]⟩):=by{simpa using b};rw[this]at f;exact f}
def Tryz.infoS9:(prog.info? 9).map (fun i=>(i.zero,i.size,i.bytes))=some (some zt0,1,16):=by kernel_rfl
def zV{a b:Bool}(h:a=b):Ending.returned (.bool a)=.returned (.bool b):=by rw[h]
