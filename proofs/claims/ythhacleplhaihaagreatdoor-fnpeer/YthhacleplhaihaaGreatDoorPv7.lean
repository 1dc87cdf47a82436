import Derived.Test.YthhacleplhaihaaGreatDoorPv3
import Derived.Test.YthhacleplhaihaaGreatDoorPv6
set_option linter.unusedSimpArgs false
set_option linter.defProp false
namespace Go.Proofs.YthhacleplhaihaaGreatDoor
open Go.RowKit
variable{g n:Nat}{w:zW}
def bt(t:zY)(j:Nat):Nat:=(t.data.toList.getD j 0).toNat
def zz3(t:zY)(j:Nat):bt t j<256:=(t.data.toList.getD j 0).toNat_lt
def zgu(n:Nat)(f:Nat->Nat):zY:=⟨((List.range n).map fun j=>UInt8.ofNat (f j)).toArray⟩
def JT(n:Nat)(f:Nat->Nat):(zgu n f).size=n:=by show ((List.range n).map fun j=>UInt8.ofNat (f j)).toArray.size=n;simp
def zxO(n:Nat)(f:Nat->Nat)(j:Nat)(a:j<n)(h:f j<256):bt (zgu n f) j=f j:=by unfold bt zgu;simp[List.getD,a];omega
def zdR(n:Nat)(f g:Nat->Nat)(h:∀j,j<n->f j=g j):zgu n f=zgu n g:=by unfold zgu;congr 2;apply Pv;intro j a;rw[h j (Nz.1 a)]
def znD(t:zY)(j:Nat)(h:j<t.size):(t[j]).toNat=bt t j:=by have a:j<t.data.toList.length:=by{simpa using h};unfold bt;rw[El,Eg a];rfl
def zpI(n:Nat):(madeCells (Value.int .u8 0).cells (n*1)).toList=(Zl .u8 n (fun _=>0)).toList:=by apply Mb;intro i;by_cases a:i<n;{simp[madeCells,Zl,a,Value.cells,Vp]};{simp[madeCells,Zl,a,Value.cells]}
def zdw{a e:Nat}(h:w.ownsRow a e 1 (.slice (zx g) n n) n (madeCells (Value.int .u8 0).cells (n*1)).toList):IsB w g e .u8 n (fun _=>0):=by obtain⟨_,h⟩:=h;rcases h with⟨h,_⟩|⟨k,j,c,i,_,f,_,_,d,b⟩;{simp at h};{simp at i;obtain⟨rfl,rfl⟩:=i;rw[zpI,E0 (by simp[d])]at b;have:c=Zl .u8 n (fun _=>0):=by{simpa using b};rw[this]at f;exact f}
def zoo(n:Nat)(f:Nat->Int)(t:zY)(h:t.size<=n): (splice (Zl .u8 n f).toList 0 (t.data.toList.map bv)).toArray=Zl .u8 n (fun j=>if j<t.size then (bt t j:Nat) else f j):=by apply Array.ext_getElem?;intro i;by_cases b:i<n;{rw[zc6 _ _ _ _ b];simp only[splice,Lt,Lr,Oc,Et,Kb];by_cases a:i<t.size;{have d:i<t.data.toList.length:=by{simpa using a};rw[Od (by simpa using a),Em a];simp[bv,bt,List.getD,a]};{rw[N4 (by simpa using Ps a),Ej a,Ll];simp only[Et,Ft];have e:t.data.size+(i-t.data.size)=i:=by{have:t.data.size=t.size:=rfl;omega};rw[e];simp[Zl,b]}};{have c:(Zl .u8 n (fun j=>if j<t.size then ((bt t j:Nat):Int) else f j))[i]?=none:=by{simp[Zl,b]};rw[c];have g:(splice (Zl .u8 n f).toList 0 (t.data.toList.map bv)).length=n:=by{rw[length_splice _ _ _ (by simp[QI];exact h)];simp[QI]};simp only[Oc];exact Lb (by omega)}
def IsB.str{P:Program}{t src dst e:TypeId}{f:Nat->Nat}(h:IsB w g t .u8 n (fun j=>(f j:Nat)))(m a:Nat)(l:m<=n)(k:∀j,j<m->f j<256)(o:P.underlying src=some (.slice e))(d:P.underlying e=some (.int .u8))(hd:P.underlying dst=some .string): (convert src dst (.slice (zx g) m a)).run P w=.ok (.string (zgu m f)) w:=by have c:((List.range m).map fun j=>UInt8.ofNat (f j)).length=m:=by{simp};have:=zas (P:=P) (src:=src) (dst:=dst) ((List.range m).map fun j=>UInt8.ofNat (f j)) a h (by{rw[c];apply Mb;intro i;by_cases b:i<m;{have p:=k i b;simp[Zl,b,Fw b l,bv];omega};{simp[b,Nf]}}) o d hd;rw[c]at this;exact this
