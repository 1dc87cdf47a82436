import Derived.Test.YtoojegpaofdbfaaGreatDoorKz0
import Derived.Laws.BitsAllLaws
import Derived.Laws.BytesArg
import Derived.Laws.IdiomStrings
import Derived.Laws.AppendOwn
set_option linter.unusedSimpArgs false
namespace Go.Proofs.YtoojegpaofdbfaaGreatDoor
open Go.RowKit
namespace Nu
def zz(n:Int):Nat:=if n<0 then (-(2*n)-1).toNat else (2*n).toNat
theorem zwQ(n:Int)(a:-9223372036854775808<=n)(b:n<=9223372036854775807):zz n<18446744073709551616:=by unfold zz;split<;>omega
theorem zvQ(n:Int)(h:n<0):(zz n:Int)=2 * -(n+1)+1:=by unfold zz;rw[Ei h];omega
theorem zvT(n:Int)(h:¬n<0):(zz n:Int)=2*n:=by unfold zz;rw[Eh h];omega
theorem zwL(n:Int)(h:¬n<0):(zz n:Int)=n*2:=by rw[zvT n h];omega
theorem zzu(x:Nat)(h:x<18446744073709551616):18446744073709551615 ^^^ x=18446744073709551615-x:=by have e:=Mn BitVec.toNat (BitVec.allOnes_xor (x:=BitVec.ofNat 64 x));rw[BitVec.toNat_xor,BitVec.toNat_not,Ux,BitVec.toNat_ofNat,Fw (by omega)]at e;exact e
theorem zvw(n:Int)(a:-9223372036854775808<=n)(h:n<0): bits BinOp.xor IntKind.u64 IntKind.u64.max (IntKind.u64.wrap (IntKind.u64.wrap n*2))=(zz n:Int):=by have e:IntKind.u64.wrap (IntKind.u64.wrap n*2)=((2*n+18446744073709551616).toNat:Int):=by{rw[Nv,Nv];omega};rw[e,show IntKind.u64.max=((18446744073709551615:Nat):Int) from rfl,Ve _ _ (by decide) (by omega),zzu _ (by omega),zvQ n h];omega
def zkY(u k:Nat):List UInt8:=(List.range k).map fun j=>UInt8.ofNat (u/128 ^ j%128+128)
def ziV(u k:Nat):List UInt8:=zkY u k++[UInt8.ofNat (u/128 ^ k)]
def cnt:Nat->Nat->Nat
 |0,_=>0
 |f+1,u=>if u<128 then 0 else cnt f (u/128)+1
def zcU(u:Nat):List UInt8:=ziV u (cnt 9 u)
def jP(n:Int):zY:=⟨(zcU (zz n)).toArray⟩
theorem zkl(u k:Nat):zkY u (k+1)=zkY u k++[UInt8.ofNat (u/128 ^ k%128+128)]:=by simp[zkY,Kx]
theorem zaL(u k:Nat):(zkY u k).length=k:=by simp[zkY]
theorem Qq(u k:Nat):(ziV u k).length=k+1:=by simp[ziV,zaL]
theorem pow_div(u k:Nat):u/128 ^ (k+1)=u/128 ^ k/128:=by rw[Kb,Mo]
theorem div_pow(u k:Nat):u/128 ^ (k+1)=u/128/128 ^ k:=by rw[Kb,Lc,Mo]
theorem zza(f:Nat): ∀u k,k ≤ f → (∀j,j < k → 128 ≤ u / 128 ^ j) → u / 128 ^ k < 128 → cnt f u=k:=by induction f with| zero=>{intro u k c _ _;have:k=0:=by{omega};rw [this];rfl}| succ f d=>{intro u k c b a;match k with| 0=>{simp at a;unfold cnt;rw [Ei a]}| k + 1=>{have e:128 ≤ u:=by{simpa using b 0 (by omega)};unfold cnt;rw [Eh (by omega),d (u / 128) k (by omega) (fun j g=>by have:=b (j + 1) (by omega);rw [div_pow] at this;exact this) (by rw [← div_pow];exact a)]}}
theorem za5(f:Nat):∀u,cnt f u<=f:=by induction f with|zero=>{intro u;exact Ea 0}|succ f a=>{intro u;unfold cnt;split;{omega};{have:=a (u/128);omega}}
theorem few(u k:Nat)(c:u<18446744073709551616)(h:128<=u/128 ^ k):k<9:=by rcases Ky k 9 with a|a;{exact a};{exfalso;have e:128 ^ 9<=128 ^ k:=Kv (by decide) a;have:u/128 ^ k<=u/128 ^ 9:=Nat.div_le_div_left e (by decide);have b:(128:Nat) ^ 9=9223372036854775808:=by{decide};rw[b]at this;omega}
theorem zrz(u k:Nat)(c:k<=9)(b:∀j,j<k->128<=u/128 ^ j)(a:u/128 ^ k<128):zcU u=ziV u k:=by unfold zcU;rw[zza 9 u k c b a]
theorem zcN(u:Nat):(zcU u).length<=10/\1<=(zcU u).length:=by have:=za5 9 u;unfold zcU;rw[Qq];omega
theorem zaI(u k:Nat)(a:∀j,j<k->128<=u/128 ^ j)(h:128<=u/128 ^ k):∀j,j<k+1->128<=u/128 ^ j:=by intro j b;by_cases e:j=k;{rw[e];exact h};{exact a j (by omega)}
def bv(b:UInt8):Value:=.int .u8 (b.toNat:Int)
theorem qI{P:Program}{w:zW}{base e src dst:TypeId}{v:Value}(l:List UInt8)(h:w.ownsRow base e 1 v l.length (l.map bv))(i:P.underlying src=some (.slice e))(d:P.underlying e=some (.int .u8))(hd:P.underlying dst=some .string): (convert src dst v).run P w=.ok (.string ⟨l.toArray⟩) w:=by obtain⟨_,h⟩:=h;rcases h with⟨rfl,p⟩|⟨g,a,b,rfl,_,n,o,_,q,r⟩;{have:l=[]:=Sv.1 p;subst this;exact run_convert_bytes_nil w src e i d 0 0 dst hd};{refine Nr w src dst e ⟨g,0,none⟩ a l i d hd ?_;intro j f;have k:(⟨g,0,none⟩:Addr).add j=⟨g,j,none⟩:=by{unfold Addr.add;split<;>simp_all};rw[k];have m:w.cell? ⟨g,j,none⟩=b[j]?:=by{simp[World.cell?,n]};rw[m];have c:=Mn (fun l:List Value=>l[j]?) r;simp only[K3]at c;rw[Fd f]at c;rw[<-Fs,c];simp[Kl,Ef f,bv]}
theorem zye(q:Nat):bv (UInt8.ofNat (q%128+128))=.int .u8 ((q:Int)%128+128):=by unfold bv;rw[Mh,Fw (by omega)];congr 1
theorem zyX(q:Nat)(h:q<128):bv (UInt8.ofNat q)=.int .u8 (q:Int):=by unfold bv;rw[Mh,Fw (by omega)]
theorem Qi{B:Nat}{e:TypeId}{w wr w1:zW}{v:Value}{n size:Nat}{xs:List Value}{o:Obj}(a:Below B w wr)(d:B<=w.heap.size)(c:wr.ownsRow B e size v n xs)(b:(wr.alloc o).grownBy w1 v.ownBlock):Below B w w1:=by have g:B<=wr.heap.size:=Fe d a.size;refine(a.alloc g o).grown b (by simp;omega) ?_;intro k f;exact(c.lt k f).1
theorem zyy{w1:zW}{B k U q:Nat}{e:TypeId}{v':Value}(a:q=U/128 ^ k)(h:w1.ownsRow B e 1 v' (k+1) ((zkY U k).map bv++[.int .u8 ((q:Int)%128+128)])):w1.ownsRow B e 1 v' (k+1) ((zkY U (k+1)).map bv):=by rw[zkl,Fg,M9,<-a,zye];exact h
theorem zyo{w1:zW}{B k U q:Nat}{e:TypeId}{v':Value}(b:q=U/128 ^ k)(a:q<128)(h:w1.ownsRow B e 1 v' (k+1) ((zkY U k).map bv++[.int .u8 (q:Int)])):w1.ownsRow B e 1 v' (ziV U k).length ((ziV U k).map bv):=by rw[Qq];unfold ziV;rw[Fg,M9,<-b,zyX q a];exact h
theorem zzz(q:Nat)(h:q<=18446744073709551615):bits BinOp.or IntKind.u8 (IntKind.u8.wrap (bits BinOp.and IntKind.u64 (q:Int) 127)) 128=(q:Int)%128+128:=by have b:bits BinOp.and IntKind.u64 (q:Int) 127=((q%128:Nat):Int):=by{have:=Vf q 127 (by omega) (by decide);rw[nat_mask7]at this;exact this};have c:IntKind.u8.wrap ((q%128:Nat):Int)=((q%128:Nat):Int):=by{rw[IntKind.wrap_u8'];omega};rw[b,c];have a:=u8_or_nat (q%128) 128 (by omega) (by decide);rw[Nat.or_comm,Sw 7 128 (q%128) (by decide) (by omega)]at a;refine Rs a ?_;omega
theorem take_set{a:Array Value}{l:List Value}{k:Nat}(b:k<a.size)(h:a.toList.take k=l)(v:Value):(a.setIfInBounds k v).toList.take (k+1)=l++[v]:=by subst h;rw[Oz,Kw (by simpa using b)];congr 1;{rw[U4 (Ea k)]};{simp}
theorem Zu{P:Program}{w:zW}{g e t src dst:TypeId}{b:Array Value}(l:List UInt8)(a:Nat)(i:w.heap[g]?=some (.cells b t (0,0)))(m:b.toList.take l.length=l.map bv)(n:P.underlying src=some (.slice e))(k:P.underlying e=some (.int .u8))(hd:P.underlying dst=some .string): (convert src dst (.slice (some ⟨g,0,none⟩) l.length a)).run P w=.ok (.string ⟨l.toArray⟩) w:=by refine Nr w src dst e ⟨g,0,none⟩ a l n k hd ?_;intro j d;have f:(⟨g,0,none⟩:Addr).add j=⟨g,j,none⟩:=by{unfold Addr.add;split<;>simp_all};rw[f];have h:w.cell? ⟨g,j,none⟩=b[j]?:=by{simp[World.cell?,i]};rw[h];have c:=Mn (fun l:List Value=>l[j]?) m;rw[Fd d]at c;rw[<-Fs,c];simp[Kl,Ef d,bv]
theorem zy7(q:Nat)(h:q<=18446744073709551615):bits BinOp.or IntKind.u8 (bits BinOp.and IntKind.u64 (q:Int) 127%256) 128=(q:Int)%128+128:=by have:=zzz q h;rw[IntKind.wrap_u8']at this;exact this
theorem zxH{wr:zW}{B k U q:Nat}{c:Array Value}{t:TypeId}(g:q=U/128 ^ k)(d:q<=18446744073709551615)(b:wr.heap[B]?=some (.cells c t (0,0)))(e:c.size=10)(h:k<9)(f:c.toList.take k=(zkY U k).map bv): ∃a,(wr.setCell ⟨B,k,none⟩ (.int .u8 (bits BinOp.or IntKind.u8 (bits BinOp.and IntKind.u64 (q:Int) 127%256) 128))).heap[B]?=some (.cells a t (0,0))/\a.size=10/\a.toList.take (k+1)=(zkY U (k+1)).map bv:=by rw[zy7 q d];refine⟨_,Ep wr B k c t _ b,by simpa using e,?_⟩;rw[take_set (by omega) f,zkl,Fg,M9,<-g,zye]
theorem zw5{wr:zW}{B k U q:Nat}{c:Array Value}{t:TypeId}(f:q=U/128 ^ k)(d:q<128)(b:wr.heap[B]?=some (.cells c t (0,0)))(g:c.size=10)(h:k<=9)(e:c.toList.take k=(zkY U k).map bv): ∃a,(wr.setCell ⟨B,k,none⟩ (.int .u8 (q:Int))).heap[B]?=some (.cells a t (0,0))/\a.toList.take (ziV U k).length=(ziV U k).map bv:=by refine⟨_,Ep wr B k c t _ b,?_⟩;rw[Qq,take_set (by omega) e];unfold ziV;rw[Fg,M9,<-f,zyX q d]
end Nu
end Go.Proofs.YtoojegpaofdbfaaGreatDoor
