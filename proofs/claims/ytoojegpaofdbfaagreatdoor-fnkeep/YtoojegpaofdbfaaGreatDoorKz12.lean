import Derived.Test.YtoojegpaofdbfaaGreatDoorKz11
set_option linter.unusedSimpArgs false
namespace Go.Proofs.YtoojegpaofdbfaaGreatDoor
open Go.RowKit
namespace St
def qA(w:zW)(base:Nat)(v:Value)(l:List zY):Prop:=w.ownsRow base 9 1 v l.length (l.map Value.string)
theorem qA.nil(w:zW)(base:Nat):qA w base (.slice none 0 0) []:=Ow w base _ _
theorem qA.split{w:zW}{base:Nat}{v:Value}{l:List zY}(h:qA w base v l): (v=.slice none 0 0/\l=[])∨∃g a,v=.slice (some ⟨g,0,none⟩) l.length a/\base<=g/\l.length<=a/\IsO w g 9 l:=by obtain⟨_,h⟩:=h;rcases h with⟨h,e⟩|⟨g,a,b,o,k,i,c,_,n,d⟩;{exact .inl ⟨h,Fu e⟩};{refine .inr ⟨g,a,o,k,c,b,i,fun j m=>?_⟩;rw[<-Fs];have f:b.toList[j]?=(b.toList.take (l.length*1))[j]?:=by{rw[Fd (by omega)]};rw[f,d];simp[m]}
theorem qA.below{w w':zW}{base:Nat}{v:Value}{l:List zY}(h:qA w base v l)(b:zU w w'):qA w' base v l:=by obtain⟨f,h⟩:=h;refine⟨f,?_⟩;rcases h with h|⟨g,a,c,i,e,d,rest⟩;{exact .inl h};{exact .inr ⟨g,a,c,i,e,by rw[b.block g (Ev.1 d).1];exact d,rest⟩}
theorem qA.mono{w:zW}{base a:Nat}{v:Value}{l:List zY}(h:qA w base v l)(d:a<=base):qA w a v l:=by obtain⟨f,h⟩:=h;refine⟨f,?_⟩;rcases h with h|⟨g,b,c,i,e,rest⟩;{exact .inl h};{exact .inr ⟨g,b,c,i,Fe d e,rest⟩}
theorem qA.strs{w:zW}{base:Nat}{v:Value}{l:List zY}(h:qA w base v l):∃a b,v=.slice a l.length b/\l.length<=b/\qV w w.heap.size a l:=by rcases h.split with⟨rfl,rfl⟩|⟨g,b,rfl,_,d,c⟩;{exact⟨none,0,rfl,Ea _,.inl rfl⟩};{exact⟨_,b,rfl,d,c.strs c.lt⟩}
theorem qK(W:zW)(s:zY)(t:TypeId):∀(j:Nat) (u:Value),[Value.string s][j]?=some u->(W.alloc (.cells #[.string s] t)).cell? ((⟨W.heap.size,0,none⟩:Addr).add j)=some u:=by intro j u a;match j,a with|0,a=>{simp at a;subst a;simp[Addr.add]}
theorem qy(s:zY):∀u∈[Value.string s],u.oneCell'=true:=by intro u a;simp at a;subst a;rfl
theorem qA.snoc{w:zW}{base:Nat}{v:Value}{l:List zY}{s:zY}(h:w.ownsRow base 9 1 v (l.length+1) (l.map Value.string++[.string s])):qA w base v (l++[s]):=by unfold qA;rw[Ek,Fg];exact h
theorem z8{B base:Nat}{e:TypeId}{w0 w w1:zW}{v:Value}{n size:Nat}{xs:List Value}{o:Obj}(b:Below B w0 w)(f:B<=w.heap.size)(d:B<=base)(c:w.ownsRow base e size v n xs)(a:(w.alloc o).grownBy w1 v.ownBlock):Below B w0 w1:=by refine(b.alloc f o).grown a (by simp;omega) ?_;intro k g;exact Fe d (c.lt k g).1
end St
end Go.Proofs.YtoojegpaofdbfaaGreatDoor
