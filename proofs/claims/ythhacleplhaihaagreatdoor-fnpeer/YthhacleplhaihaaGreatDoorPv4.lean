import Derived.Test.YthhacleplhaihaaGreatDoorPv0
set_option linter.unusedSimpArgs false
set_option linter.defProp false
namespace Go.Proofs.YthhacleplhaihaaGreatDoor
open Go.RowKit
variable{B U k q:Nat}{P:Program}{cs:Array Value}{dst e t:TypeId}{v v':Value}{w w1:zW}
def zz(n:Int):Nat:=if n<0 then (-(2*n)-1).toNat else (2*n).toNat
def zx9(n:Int)(a:-9223372036854775808<=n)(b:n<=9223372036854775807):zz n<18446744073709551616:=by unfold zz;split<;>omega
def zwW(n:Int)(h:n<0):(zz n:Int)=2 * -(n+1)+1:=by unfold zz;rw[Em h];omega
def zwJ(n:Int)(h:¬n<0):(zz n:Int)=2*n:=by unfold zz;rw[Ej h];omega
def zyn(n:Int)(h:¬n<0):(zz n:Int)=n*2:=by rw[zwJ n h];omega
def zAO(x:Nat)(h:x<18446744073709551616):18446744073709551615 ^^^ x=18446744073709551615-x:=by have e:=Kv BitVec.toNat (BitVec.allOnes_xor (x:=BitVec.ofNat 64 x));rw[BitVec.toNat_xor,BitVec.toNat_not,Va,BitVec.toNat_ofNat,Ml (by omega)]at e;exact e
def zvY(n:Int)(a:-9223372036854775808<=n)(h:n<0): bits BinOp.xor IntKind.u64 IntKind.u64.max (IntKind.u64.wrap (IntKind.u64.wrap n*2))=(zz n:Int):=by have e:IntKind.u64.wrap (IntKind.u64.wrap n*2)=((2*n+18446744073709551616).toNat:Int):=by{rw[Mx,Mx];omega};rw[e,show IntKind.u64.max=((18446744073709551615:Nat):Int) from rfl,Vn _ _ (by decide) (by omega),zAO _ (by omega),zwW n h];omega
def zli(u k:Nat):List UInt8:=(List.range k).map fun j=>UInt8.ofNat (u/128 ^ j%128+128)
def ziU(u k:Nat):List UInt8:=zli u k++[UInt8.ofNat (u/128 ^ k)]
def QB:Nat->Nat->Nat
 |0,_=>0
 |f+1,u=>if u<128 then 0 else QB f (u/128)+1
def zeL(u:Nat):List UInt8:=ziU u (QB 9 u)
def ZR(n:Int):zY:=⟨(zeL (zz n)).toArray⟩
def zj2(u k:Nat):zli u (k+1)=zli u k++[UInt8.ofNat (u/128 ^ k%128+128)]:=by simp[zli,Nq]
def zaP(u k:Nat):(zli u k).length=k:=by simp[zli]
def QX(u k:Nat):(ziU u k).length=k+1:=by simp[ziU,zaP]
def pow_div(u k:Nat):u/128 ^ (k+1)=u/128 ^ k/128:=by rw[Kr,Ox]
def div_pow(u k:Nat):u/128 ^ (k+1)=u/128/128 ^ k:=by rw[Kr,Ni,Ox]
def zzx(f:Nat): ∀u k,k ≤ f → (∀j,j < k → 128 ≤ u / 128 ^ j) → u / 128 ^ k < 128 → QB f u=k:=by induction f with| zero=>{intro u k c _ _;have:k=0:=by{omega};rw [this];rfl}| succ f d=>{intro u k c b a;match k with| 0=>{simp at a;unfold QB;rw [Em a]}| k + 1=>{have e:128 ≤ u:=by{simpa using b 0 (by omega)};unfold QB;rw [Ej (by omega),d (u / 128) k (by omega) (fun j g=>by have:=b (j + 1) (by omega);rw [div_pow] at this;exact this) (by rw [← div_pow];exact a)]}}
def zfj(f:Nat):∀u,QB f u<=f:=by induction f with|zero=>{intro u;exact Ea 0}|succ f a=>{intro u;unfold QB;split;{omega};{have:=a (u/128);omega}}
def few(u k:Nat)(c:u<18446744073709551616)(h:128<=u/128 ^ k):k<9:=by rcases Nv k 9 with a|a;{exact a};{exfalso;have e:128 ^ 9<=128 ^ k:=My (by decide) a;have:u/128 ^ k<=u/128 ^ 9:=Nat.div_le_div_left e (by decide);have b:(128:Nat) ^ 9=9223372036854775808:=by{decide};rw[b]at this;omega}
def zrK(u k:Nat)(c:k<=9)(b:∀j,j<k->128<=u/128 ^ j)(a:u/128 ^ k<128):zeL u=ziU u k:=by unfold zeL;rw[zzx 9 u k c b a]
def JH(u:Nat):(zeL u).length<=10/\1<=(zeL u).length:=by have:=zfj 9 u;unfold zeL;rw[QX];omega
def zfJ(u k:Nat)(a:∀j,j<k->128<=u/128 ^ j)(h:128<=u/128 ^ k):∀j,j<k+1->128<=u/128 ^ j:=by intro j b;by_cases e:j=k;{rw[e];exact h};{exact a j (by omega)}
def bv(b:UInt8):Value:=.int .u8 (b.toNat:Int)
def Jx{a src:TypeId}(l:List UInt8)(h:w.ownsRow a e 1 v l.length (l.map bv))(k:P.underlying src=some (.slice e))(f:P.underlying e=some (.int .u8))(hd:P.underlying dst=some .string): (convert src dst v).run P w=.ok (.string ⟨l.toArray⟩) w:=by obtain⟨_,h⟩:=h;rcases h with⟨rfl,q⟩|⟨g,b,c,rfl,_,o,p,_,r,s⟩;{have:l=[]:=List.length_eq_zero_iff.1 q;subst this;exact run_convert_bytes_nil w src e k f 0 0 dst hd};{refine Nw w src dst e (zA g 0) b l k f hd ?_;intro j i;have m:((zA g 0):Addr).add j=(zA g j):=by{unfold Addr.add;split<;>simp_all};rw[m];have n:w.cell? (zA g j)=c[j]?:=by{simp[World.cell?,o]};rw[n];have d:=Kv (fun l:List Value=>l[j]?) s;simp only[Kj]at d;rw[Fi i]at d;rw[<-E6,d];simp[Ke,Eg i,bv]}
def zzJ(q:Nat):bv (UInt8.ofNat (q%128+128))=.int .u8 ((q:Int)%128+128):=by unfold bv;rw[Nc,Ml (by omega)];congr 1
def zz5(q:Nat)(h:q<128):bv (UInt8.ofNat q)=.int .u8 (q:Int):=by unfold bv;rw[Nc,Ml (by omega)]
def zbe{wr:zW}{n size:Nat}{xs:List Value}{o:Obj}(a:Below B w wr)(d:B<=w.heap.size)(c:wr.ownsRow B e size v n xs)(b:(wr.alloc o).grownBy w1 v.ownBlock):Below B w w1:=by have g:B<=wr.heap.size:=Fb d a.size;refine(a.alloc g o).grown b (by simp;omega) ?_;intro k f;exact(c.lt k f).1
def zzP(a:q=U/128 ^ k)(h:w1.ownsRow B e 1 v' (k+1) ((zli U k).map bv++[.int .u8 ((q:Int)%128+128)])):w1.ownsRow B e 1 v' (k+1) ((zli U (k+1)).map bv):=by rw[zj2,Fe,Nd,<-a,zzJ];exact h
def zz0(b:q=U/128 ^ k)(a:q<128)(h:w1.ownsRow B e 1 v' (k+1) ((zli U k).map bv++[.int .u8 (q:Int)])):w1.ownsRow B e 1 v' (ziU U k).length ((ziU U k).map bv):=by rw[QX];unfold ziU;rw[Fe,Nd,<-b,zz5 q a];exact h
def zAU(q:Nat)(h:q<=18446744073709551615):bits BinOp.or IntKind.u8 (IntKind.u8.wrap (bits BinOp.and IntKind.u64 (q:Int) 127)) 128=(q:Int)%128+128:=by have b:bits BinOp.and IntKind.u64 (q:Int) 127=((q%128:Nat):Int):=by{have:=Vo q 127 (by omega) (by decide);rw[nat_mask7]at this;exact this};have c:IntKind.u8.wrap ((q%128:Nat):Int)=((q%128:Nat):Int):=by{rw[IntKind.wrap_u8'];omega};rw[b,c];have a:=u8_or_nat (q%128) 128 (by omega) (by decide);rw[Nat.or_comm,Vb 7 128 (q%128) (by decide) (by omega)]at a;refine Sw a ?_;omega
def take_set{l:List Value}(a:k<cs.size)(h:cs.toList.take k=l)(v:Value):(cs.setIfInBounds k v).toList.take (k+1)=l++[v]:=by subst h;rw[Pk,Kn (by simpa using a)];congr 1;{rw[List.take_set_of_le (Ea k)]};{simp}
def zas{g src:TypeId}(l:List UInt8)(a:Nat)(h:w.heap[g]?=some (.cells cs t (0,0)))(k:cs.toList.take l.length=l.map bv)(m:P.underlying src=some (.slice e))(i:P.underlying e=some (.int .u8))(hd:P.underlying dst=some .string): (convert src dst (.slice (zx g) l.length a)).run P w=.ok (.string ⟨l.toArray⟩) w:=by refine Nw w src dst e (zA g 0) a l m i hd ?_;intro j c;have d:((zA g 0):Addr).add j=(zA g j):=by{unfold Addr.add;split<;>simp_all};rw[d];have f:w.cell? (zA g j)=cs[j]?:=by{simp[World.cell?,h]};rw[f];have b:=Kv (fun l:List Value=>l[j]?) k;rw[Fi c]at b;rw[<-E6,b];simp[Ke,Eg c,bv]
def zzR(q:Nat)(h:q<=18446744073709551615):bits BinOp.or IntKind.u8 (bits BinOp.and IntKind.u64 (q:Int) 127%256) 128=(q:Int)%128+128:=by have:=zAU q h;rw[IntKind.wrap_u8']at this;exact this
def zyf{wr:zW}(e:q=U/128 ^ k)(b:q<=18446744073709551615)(a:wr.heap[B]?=some (.cells cs t (0,0)))(c:cs.size=10)(f:k<9)(d:cs.toList.take k=(zli U k).map bv): ∃cs',(zw wr B k (.int .u8 (bits BinOp.or IntKind.u8 (bits BinOp.and IntKind.u64 (q:Int) 127%256) 128))).heap[B]?=some (.cells cs' t (0,0))/\cs'.size=10/\cs'.toList.take (k+1)=(zli U (k+1)).map bv:=by rw[zzR q b];refine⟨_,En wr B k cs t _ a,by simpa using c,?_⟩;rw[take_set (by omega) d,zj2,Fe,Nd,<-e,zzJ]
def zxn{wr:zW}(d:q=U/128 ^ k)(b:q<128)(a:wr.heap[B]?=some (.cells cs t (0,0)))(e:cs.size=10)(f:k<=9)(c:cs.toList.take k=(zli U k).map bv): ∃cs',(zw wr B k (.int .u8 (q:Int))).heap[B]?=some (.cells cs' t (0,0))/\cs'.toList.take (ziU U k).length=(ziU U k).map bv:=by refine⟨_,En wr B k cs t _ a,?_⟩;rw[QX,take_set (by omega) c];unfold ziU;rw[Fe,Nd,<-d,zz5 q b]
