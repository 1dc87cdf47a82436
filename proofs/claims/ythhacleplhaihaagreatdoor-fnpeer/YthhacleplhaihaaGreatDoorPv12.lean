import Derived.Test.YthhacleplhaihaaGreatDoorPv11
set_option linter.unusedSimpArgs false
set_option linter.defProp false
namespace Go.Proofs.YthhacleplhaihaaGreatDoor
open Go.RowKit
variable{a b:Nat}{l:List zY}{v:Value}{w:zW}
def qB(w:zW)(base:Nat)(v:Value)(l:List zY):Prop:=w.ownsRow base 9 1 v l.length (l.map Value.string)
def qB.nil(w:zW)(a:Nat):qB w a zs0 []:=Oi w a _ _
def qB.split(h:qB w b v l): (v=zs0/\l=[])∨∃g a,v=.slice (zx g) l.length a/\b<=g/\l.length<=a/\QA w g 9 l:=by obtain⟨_,h⟩:=h;rcases h with⟨h,f⟩|⟨g,a,c,p,m,k,d,_,o,e⟩;{exact .inl ⟨h,Fv f⟩};{refine .inr ⟨g,a,p,m,d,c,k,fun j n=>?_⟩;rw[<-E6];have i:c.toList[j]?=(c.toList.take (l.length*1))[j]?:=by{rw[Fi (by omega)]};rw[i,e];simp[n]}
def qB.below{w':zW}(h:qB w a v l)(b:zU w w'):qB w' a v l:=by obtain⟨i,h⟩:=h;refine⟨i,?_⟩;rcases h with h|⟨g,c,d,j,f,e,rest⟩;{exact .inl h};{exact .inr ⟨g,c,d,j,f,by rw[b.block g (Fd.1 e).1];exact e,rest⟩}
def qB.mono(h:qB w b v l)(e:a<=b):qB w a v l:=by obtain⟨i,h⟩:=h;refine⟨i,?_⟩;rcases h with h|⟨g,c,d,j,f,rest⟩;{exact .inl h};{exact .inr ⟨g,c,d,j,Fb e f,rest⟩}
theorem qB.strs{c:Nat}(h:qB w c v l):∃a b,v=.slice a l.length b/\l.length<=b/\Strs w w.heap.size a l:=by rcases h.split with⟨rfl,rfl⟩|⟨g,b,rfl,_,e,d⟩;{exact⟨none,0,rfl,Ea _,.inl rfl⟩};{exact⟨_,b,rfl,e,d.strs d.lt⟩}
def Q3(W:zW)(s:zY)(t:TypeId):∀(j:Nat) (u:Value),[Value.string s][j]?=some u->(W.alloc (.cells #[.string s] t)).cell? (((zA W.heap.size 0):Addr).add j)=some u:=by intro j u a;match j,a with|0,a=>{simp at a;subst a;simp[Addr.add]}
def Qg(s:zY):∀u∈[Value.string s],u.oneCell'=true:=by intro u a;simp at a;subst a;rfl
def qB.snoc{s:zY}(h:w.ownsRow a 9 1 v (l.length+1) (l.map Value.string++[.string s])):qB w a v (l++[s]):=by unfold qB;rw[Ee,Fe];exact h
def ZU{B:Nat}{e:TypeId}{w0 w1:zW}{n size:Nat}{xs:List Value}{o:Obj}(c:Below B w0 w)(g:B<=w.heap.size)(f:B<=a)(d:w.ownsRow a e size v n xs)(b:(w.alloc o).grownBy w1 v.ownBlock):Below B w0 w1:=by refine(c.alloc g o).grown b (by simp;omega) ?_;intro k h;exact Fb f (d.lt k h).1
