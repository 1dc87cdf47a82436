import Derived.Test.YtoojegpaofdbfaaGreatDoorKz2
import Derived.Test.YtoojegpaofdbfaaGreatDoorKz6
set_option linter.unusedSimpArgs false
namespace Go.Proofs.YtoojegpaofdbfaaGreatDoor
open Go.RowKit
namespace Sh
open Nu (bv Zu)
def bt(t:zY)(j:Nat):Nat:=(t.data.toList.getD j 0).toNat
theorem zba(t:zY)(j:Nat):bt t j<256:=(t.data.toList.getD j 0).toNat_lt
def ZX(n:Nat)(f:Nat->Nat):zY:=⟨((List.range n).map fun j=>UInt8.ofNat (f j)).toArray⟩
theorem qo(n:Nat)(f:Nat->Nat):(ZX n f).size=n:=by show ((List.range n).map fun j=>UInt8.ofNat (f j)).toArray.size=n;simp
theorem zap(n:Nat)(f:Nat->Nat)(j:Nat)(a:j<n)(h:f j<256):bt (ZX n f) j=f j:=by unfold bt ZX;simp[List.getD,a];omega
theorem qE(n:Nat)(f g:Nat->Nat)(h:∀j,j<n->f j=g j):ZX n f=ZX n g:=by unfold ZX;congr 2;apply Mw;intro j a;rw[h j (Kr.1 a)]
theorem ZB(t:zY)(j:Nat)(h:j<t.size):(t[j]).toNat=bt t j:=by have a:j<t.data.toList.length:=by{simpa using h};unfold bt;rw[Eg,Ef a];rfl
theorem zge(t:zY):ZX t.size (bt t)=t:=by unfold ZX;have:(List.range t.size).map (fun j=>UInt8.ofNat (bt t j))=t.data.toList:=by{apply Mp;intro i;by_cases a:i<t.size;{have b:i<t.data.toList.length:=by{simpa using a};rw[Ef b];simp[a,bt,List.getD]};{have c:t.data.toList.length<=i:=by{simpa using Pe a};rw[Lf c];simp[Pe a]}};rw[this]
theorem zoL(n:Nat):(madeCells (Value.int .u8 0).cells (n*1)).toList=(qN .u8 n (fun _=>0)).toList:=by apply Mp;intro i;by_cases a:i<n;{simp[madeCells,qN,a,Value.cells,Sj]};{simp[madeCells,qN,a,Value.cells]}
theorem qB{w:zW}{base e g n:Nat}(h:w.ownsRow base e 1 (.slice (some ⟨g,0,none⟩) n n) n (madeCells (Value.int .u8 0).cells (n*1)).toList):IsB w g e .u8 n (fun _=>0):=by obtain⟨_,h⟩:=h;rcases h with⟨h,_⟩|⟨j,i,b,f,_,d,_,_,c,a⟩;{simp at h};{simp at f;obtain⟨rfl,rfl⟩:=f;rw[zoL,Ez (by simp[c])]at a;have:b=qN .u8 n (fun _=>0):=by{simpa using a};rw[this]at d;exact d}
theorem zoV(n:Nat)(f:Nat->Int)(t:zY)(h:t.size<=n): (splice (qN .u8 n f).toList 0 (t.data.toList.map bv)).toArray=qN .u8 n (fun j=>if j<t.size then (bt t j:Nat) else f j):=by apply Array.ext_getElem?;intro i;by_cases b:i<n;{rw[zbX _ _ _ _ b];simp only[splice,Lu,Mg,M8,Fc,Ff];by_cases a:i<t.size;{have d:i<t.data.toList.length:=by{simpa using a};rw[Kq (by simpa using a),Ei a];simp[bv,bt,List.getD,a]};{rw[Fx (by simpa using Pe a),Eh a,Mi];simp only[Fc,Fq];have e:t.data.size+(i-t.data.size)=i:=by{have:t.data.size=t.size:=rfl;omega};rw[e];simp[qN,b]}};{have c:(qN .u8 n (fun j=>if j<t.size then ((bt t j:Nat):Int) else f j))[i]?=none:=by{simp[qN,b]};rw[c];have g:(splice (qN .u8 n f).toList 0 (t.data.toList.map bv)).length=n:=by{rw[length_splice _ _ _ (by simp[Zo];exact h)];simp[Zo]};simp only[M8];exact Lf (by omega)}
theorem IsB.str{P:Program}{w:zW}{g:Nat}{t src dst e:TypeId}{n:Nat}{f:Nat->Nat}(h:IsB w g t .u8 n (fun j=>(f j:Nat)))(m a:Nat)(l:m<=n)(k:∀j,j<m->f j<256)(o:P.underlying src=some (.slice e))(d:P.underlying e=some (.int .u8))(hd:P.underlying dst=some .string): (convert src dst (.slice (some ⟨g,0,none⟩) m a)).run P w=.ok (.string (ZX m f)) w:=by have c:((List.range m).map fun j=>UInt8.ofNat (f j)).length=m:=by{simp};have:=Zu (P:=P) (src:=src) (dst:=dst) ((List.range m).map fun j=>UInt8.ofNat (f j)) a h (by{rw[c];apply Mp;intro i;by_cases b:i<m;{have p:=k i b;simp[qN,b,Ey b l,bv];omega};{simp[b,List.getElem?_take]}}) o d hd;rw[c]at this;exact this
end Sh
end Go.Proofs.YtoojegpaofdbfaaGreatDoor
