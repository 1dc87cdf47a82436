import Derived.Test.YthhacleplhaihaaGreatDoorPv7
import Derived.StillTailTactics
import Derived.Test.YthhacleplhaihaaGreatDoorPv11
import Derived.Test.YthhacleplhaihaaGreatDoorProg
import Derived.Stop.Asserts
import Derived.Shelf.SlSortCmp.InsertionK
import Derived.OwnWalkIn
import Derived.RangeFuncNested
import Derived.RangeFuncBound
import Derived.Shelf.RegionOpen
import Derived.LoopNIn
import Derived.LoopIn
set_option maxRecDepth 100000
set_option maxHeartbeats 8000000
set_option linter.unusedSimpArgs false
set_option linter.defProp false
namespace Go.Proofs.YthhacleplhaihaaGreatDoor
open Go.RowKit
open Go.Proofs.Tryz
variable{B C b c g i j k0 n r t x y:Nat}{K:Act->Prop}{L:Array Bool->Act->Prop}{P:Program}{Q Q':Exit->Act->zW->Prop}{W W' w w' w1:zW}{a:Act}{d:Tmp}{e ty:TypeId}{f:Nat->Int}{k:IntKind}{l s:List Int}{p:Prop}{q:Array Oper}{v:Value}{xs:List Value}
def rot(x:Int)(k:Nat):Int:=bits BinOp.or IntKind.u32 (x/2 ^ k) (x*2 ^ (32-k)%4294967296)
def zpQ(x K:Int):Int:=rot x K.toNat
def ztp(a b:Int):bits BinOp.or IntKind.u32 a b=bits BinOp.or IntKind.u32 b a:=by show IntKind.u32.wrap ((BitVec.ofInt 32 a ||| BitVec.ofInt 32 b).toNat:Int)=IntKind.u32.wrap ((BitVec.ofInt 32 b ||| BitVec.ofInt 32 a).toNat:Int);rw[BitVec.or_comm]
def zun(k m:Nat)(a:0<k)(b:0<m)(h:k+m=32):bits BinOp.and IntKind.u64 (IntKind.u64.wrap (-(k:Int))) 31=(m:Int):=by have e:IntKind.u64.wrap (-(k:Int))=((18446744073709551616-k:Nat):Int):=by{simp[IntKind.wrap,IntKind.bits,IntKind.signed];omega};rw[e];have:=Vo (18446744073709551616-k) 31 (by omega) (by decide);rw[nat_mask5]at this;refine Sw this ?_;omega
def zoD{a b:Int}(h:a=b):Ending.returned (.int k a)=.returned (.int k b):=by rw[h]
def zjI(x:Int)(k:Nat)(w:zW)(b:0<k)(a:k<32): Calls prog 199 #[.int .u32 x,.int .u64 k] w fun e w'=>e=.returned (.int .u32 (rot x k))/\w'=w:=by go_enter func199,ntmps199;go_wp2;go_ret;exact⟨rfl,rfl⟩
def zqP(x:Int)(k m:Nat)(w:zW)(b:0<k)(c:0<m)(h:k+m=32): Calls prog 268 #[.int .u32 x,zI (-k)] w fun e w'=>e=.returned (.int .u32 (rot x k))/\w'=w:=by have a:Hid (bits BinOp.or IntKind.u32 (x*2 ^ m%4294967296) (x/2 ^ k)=rot x k):=by{unfold Hid rot;rw[ztp];obtain rfl:m=32-k:=by{omega};rfl};have d:=zun k m b c h;have f:32-(m:Int)=(k:Int):=by{omega};go_enter func268,ntmps268;go_wp2;go_ret;exact⟨zoD a.o,rfl⟩
def zsG(x:Int)(k:Nat)(w:zW)(a:0<k)(h:k<32): Calls prog 262 #[.int .u32 x,zI k] w fun e w'=>e=.returned (.int .u32 (rot x k))/\w'=w:=by go_enter func262,ntmps262;go_wp2_with fail;refine(zqP x k (32-k) _ a (by omega) (by omega)).mono ?_;rintro e w' ⟨rfl,b⟩;subst w';go_wp2;go_ret;exact⟨rfl,rfl⟩
def zea(x K:Int)(w:zW)(a:0<K)(b:K<32): Calls prog 262 #[.int .u32 x,zI K] w fun e w'=>e=.returned (.int .u32 (zpQ x K))/\w'=w:=by obtain⟨k,rfl⟩:=Er (show 0<=K from by omega);exact zsG x k w (by omega) (by omega)
def zce(x K:Int)(w:zW)(a:0<K)(b:K<32): Calls prog 199 #[.int .u32 x,.int .u64 K] w fun e w'=>e=.returned (.int .u32 (zpQ x K))/\w'=w:=by obtain⟨k,rfl⟩:=Er (show 0<=K from by omega);exact zjI x k w (by omega) (by omega)
def Z2(B:Nat->Nat)(i:Nat):Nat->Nat
 |0=>0
 |j+1=>Z2 B i j*256+B (4*i+j)
def word(B:Nat->Nat)(i:Nat):Nat:=Z2 B i 4
def zhu(B:Nat->Nat)(a:∀j,B j<256)(i:Nat):∀j,Z2 B i j<256 ^ j
 |0=>by simp[Z2]
 |j+1=>by
  have h:=zhu B a i j;have b:=a (4*i+j);simp only[Z2,Kr];omega
def zrs(B:Nat->Nat)(a:∀j,B j<256)(i j:Nat)(b:j<4):Z2 B i j<16777216:=by have h:=zhu B a i j;have:(256:Nat) ^ j<=256 ^ 3:=My (by decide) (by omega);omega
def zyo(x b:Nat)(c:x<16777216)(a:b<256):bits BinOp.or IntKind.u32 ((x:Int)*256) (b:Int)=((x*256+b:Nat):Int):=by have:=Vk (x*256) b (by omega) (by omega);rw[Vb 8 (x*256) b (by omega) (by omega)]at this;rw[<-this];simp
def sm0(x:Int):Int:=bits BinOp.xor IntKind.u32 (bits BinOp.xor IntKind.u32 (zpQ x 7) (zpQ x 18)) (x/8)
def sm1(x:Int):Int:=bits BinOp.xor IntKind.u32 (bits BinOp.xor IntKind.u32 (zpQ x 17) (zpQ x 19)) (x/1024)
def wv(B:Nat->Nat)(i:Nat):Int :=
 if i<16 then (word B i:Nat)
 else (wv B (i-16)+sm0 (wv B (i-15))+wv B (i-7)+sm1 (wv B (i-2)))%4294967296
termination_by i
decreasing_by all_goals omega
def zxf(B:Nat->Nat)(i:Nat)(h:i<16):wv B i=(word B i:Nat):=by rw[wv,Em h]
def zv4(B:Nat->Nat)(i:Nat)(h:¬i<16):wv B i=(wv B (i-16)+sm0 (wv B (i-15))+wv B (i-7)+sm1 (wv B (i-2)))%4294967296:=by rw[wv,Ej h]
def znf(B:Nat->Nat)(k:Nat):Nat->Int:=fun j=>if j<k then (word B j:Nat) else 0
def zdX(B:Nat->Nat)(k:Nat):Nat->Int:=fun j=>if j<k then wv B j else 0
def zps(B:Nat->Nat)(k j:Nat):upd (znf B k) k ((Z2 B k 0:Nat):Int) j=znf B k j:=by unfold upd znf Z2;by_cases e:j=k;{subst e;simp};{simp[e]}
def zmU(B:Nat->Nat)(k j:Nat):upd (znf B k) k ((Z2 B k 4:Nat):Int) j=znf B (k+1) j:=by unfold upd znf word;by_cases e:j=k;{subst e;simp};{have:(j<k+1)=(j<k):=propext ⟨fun h=>by omega,fun h=>by omega⟩;simp[e,this]}
def zfV(B:Nat->Nat)(j:Nat):znf B 16 j=zdX B 16 j:=by unfold znf zdX;by_cases e:j<16;{rw[Em e,Em e,zxf B j e]};{rw[Ej e,Ej e]}
def zjb(B:Nat->Nat)(k j:Nat)(v:Int)(a:v=wv B k):upd (zdX B k) k v j=zdX B (k+1) j:=by subst a;unfold upd zdX;by_cases e:j=k;{subst e;simp};{have:(j<k+1)=(j<k):=propext ⟨fun h=>by omega,fun h=>by omega⟩;simp[e,this]}
def Q0(B:Nat->Nat)(k j:Nat)(h:j<k):zdX B k j=wv B j:=by simp[zdX,h]
def Tryz.size309:(prog.info? 309).map (·.size)=some 64:=by kernel_rfl
def qb(h:p):Hid p:=h
def zny:(#[.int .u32 0,.int .u32 0,.int .u32 0,.int .u32 0,.int .u32 0,.int .u32 0,.int .u32 0,.int .u32 0,.int .u32 0,.int .u32 0,.int .u32 0,.int .u32 0,.int .u32 0,.int .u32 0,.int .u32 0,.int .u32 0,
 .int .u32 0,.int .u32 0,.int .u32 0,.int .u32 0,.int .u32 0,.int .u32 0,.int .u32 0,.int .u32 0,.int .u32 0,.int .u32 0,.int .u32 0,.int .u32 0,.int .u32 0,.int .u32 0,.int .u32 0,.int .u32 0,
 .int .u32 0,.int .u32 0,.int .u32 0,.int .u32 0,.int .u32 0,.int .u32 0,.int .u32 0,.int .u32 0,.int .u32 0,.int .u32 0,.int .u32 0,.int .u32 0,.int .u32 0,.int .u32 0,.int .u32 0,.int .u32 0,
 .int .u32 0,.int .u32 0,.int .u32 0,.int .u32 0,.int .u32 0,.int .u32 0,.int .u32 0,.int .u32 0,.int .u32 0,.int .u32 0,.int .u32 0,.int .u32 0,.int .u32 0,.int .u32 0,.int .u32 0,.int .u32 0]:Array Value)=Zl .u32 64 (fun _=>0):=by rfl
def zo3(b q c:Nat)(B:Nat->Nat)(w:zW)(Q:∀j,B j<256)(hb:b<w.heap.size)(R:∀j,j<64->w.cell? (zA b (q+j))=some (.int .u8 (B j:Nat)))(S:64<=c): Calls prog 261 #[.slice (some (zA b q)) 64 c] w (zB w (.agg (Zl .u32 64 (wv B)))):=by have Y:=qb R;have y:=qb Q;clear R Q;go_enter func261,ntmps261;go_wp2;(go_loopw [12] (fun i wr=>∃k:Nat,i=zI k/\k<=16/\IsB wr (w.heap.size+1) 309 .u32 64 (znf B k)/\IsB wr w.heap.size 309 .u32 64 (fun _=>0)/\zU w wr/\wr.heap.size=w.heap.size+2) (fun i _=>16-(intOf i).toNat));(case atStart=>refine⟨0,rfl,by omega,?_,?_,((Eb _ _).alloc (Ea _) _).alloc (by simp) _,by simp⟩;{have:=IsB.of_list (w.alloc (.cells (Zl .u32 64 (fun _=>0)) 309)) 309 .u32 64 (znf B 0) _ (zny.trans (zd7 (fun j _=>by simp[znf])));simpa [zny] using this};{exact(IsB.of_list w 309 .u32 64 (fun _=>0) _ zny).alloc _});(case round=>obtain⟨k,rfl,hk,d,o,r,z⟩:=hrel;have G:=qb d;have P:=qb o;clear d o;by_cases M:k<16;{have ah:(4*(k:Int)).toNat=4*k:=by{omega};have ai:(4*(k:Int)+4).toNat=4*k+4:=by{omega};go_wp2;(go_loopw [23] (fun j F=>∃m:Nat,j=zI m/\m<=4/\IsB F (w.heap.size+1) 309 .u32 64 (upd (znf B k) k (Z2 B k m:Nat))/\IsB F w.heap.size 309 .u32 64 (fun _=>0)/\zU w F/\F.heap.size=w.heap.size+2) (fun i _=>4-(intOf i).toNat));(case atStart=>refine⟨0,rfl,by omega,G.o.congr (fun j _=>?_),P.o,r,z⟩;exact(zps B k j).symm);(case round=>obtain⟨m,rfl,hm,d,o,a,f⟩:=hrel;have E:=qb d;have u:=qb o;by_cases L:m<4;{have I:wr.cell? (zA (w.heap.size+1) k)=some (.int .u32 (Z2 B k m:Nat)):=by{have:=d.cell (j:=k) (by omega);rwa[znl]at this};have K:=d.frozen k;have ae:wr.cell? (zA b (q+4*k+m))=some (.int .u8 (B (4*k+m):Nat)):=by{rw[a.cell (p:=zA b (q+4*k+m)) hb,Pf];exact Y.o _ (by omega)};have hx:=zrs B y.o k m L;have H:=y.o (4*k+m);have HO:=qb (zyo _ _ hx H);clear d o;go_wp2;go_roundw;(case rel=>have:=E.o.set k (Z2 B k (m+1):Nat);rw[zyp]at this;refine⟨m+1,by go_num,by omega,?_,u.o.set_other _ _ (by simp),a.setCell (by simp) _,by simp[f]⟩;rw[HO.o];exact this);(case measure=>simp[intOf];omega)};{obtain rfl:m=4:=by{omega};have W:=qb (d.congr (fun j _=>zmU B k j));clear d o;go_wp2;exact⟨⟨k+1,by go_num,by omega,W.o,u.o,a,f⟩,by simp[intOf];omega⟩})};{have X:Hid (IsB wr (w.heap.size+1) 309 .u32 64 (zdX B 16)):=by{have e:k=16:=by{omega};have h:=G.o;rw[e]at h;exact h.congr (fun j _=>zfV B j)};clear G;go_wp2;(go_loopw [7] (fun i wr=>∃k:Nat,i=zI k/\16<=k/\k<=64/\IsB wr (w.heap.size+1) 309 .u32 64 (zdX B k)/\IsB wr w.heap.size 309 .u32 64 (fun _=>0)/\zU w wr/\wr.heap.size=w.heap.size+2) (fun i _=>64-(intOf i).toNat));(case atStart=>exact⟨16,rfl,by omega,by omega,X.o,P.o,r,z⟩);(case round=>obtain⟨k,rfl,af,ag,d,o,a,f⟩:=hrel;have E:=qb d;have u:=qb o;by_cases M:k<64;{have ac:((k:Int)-15).toNat=k-15:=by{omega};have e2:((k:Int)-2).toNat=k-2:=by{omega};have ad:((k:Int)-16).toNat=k-16:=by{omega};have e7:((k:Int)-7).toNat=k-7:=by{omega};obtain⟨C,l⟩:∃x,x=wv B (k-15):=⟨_,rfl⟩;obtain⟨U,s⟩:∃x,x=wv B (k-2):=⟨_,rfl⟩;obtain⟨D,n⟩:∃x,x=wv B (k-16):=⟨_,rfl⟩;obtain⟨V,t⟩:∃x,x=wv B (k-7):=⟨_,rfl⟩;have Z:Hid ((D+sm0 C+V+sm1 U)%4294967296=wv B k):=zh0 (by{rw[zv4 B k (by omega),l,s,n,t]});have aa:wr.cell? (zA (w.heap.size+1) (k-15))=some (.int .u32 C):=by{rw[d.cell (by omega),Q0 B k _ (by omega),l]};have c2:wr.cell? (zA (w.heap.size+1) (k-2))=some (.int .u32 U):=by{rw[d.cell (by omega),Q0 B k _ (by omega),s]};have ab:wr.cell? (zA (w.heap.size+1) (k-16))=some (.int .u32 D):=by{rw[d.cell (by omega),Q0 B k _ (by omega),n]};have c7:wr.cell? (zA (w.heap.size+1) (k-7))=some (.int .u32 V):=by{rw[d.cell (by omega),Q0 B k _ (by omega),t]};have ck:=d.cell (j:=k) (by omega);have K:=d.frozen k;clear d o l s n t;go_wp2_with fail;(go_region);(go_wp2_with (go_at_call 262;refine(zea _ _ _ (by decide) (by decide)).mono ?_;rintro e w' ⟨rfl,hw⟩;subst w'));(go_region);go_wp2_with fail;go_roundw;(case rel=>have g:=a.setCell (p:=zA (w.heap.size+1) k) (by simp) (.int .u32 (wv B k));have O:(wr.setCell (zA (w.heap.size+1) k) (.int .u32 (wv B k))).heap.size=w.heap.size+2:=by{simp[f]};have e:=Z.o;simp only[sm0,sm1]at e;rw[e];exact⟨k+1,by go_num,by omega,by omega,IsB.congr (E.o.set k _) (fun j _=>zjb B k j _ rfl),u.o.set_other (zA (w.heap.size+1) k) _ (by simp),⟨g.os,g.tape,g.output,g.size,g.block⟩,O⟩);(case measure=>simp[intOf];omega)};{obtain rfl:k=64:=by{omega};clear d o;(go_wp2_with (first|((with_reducible refine wpList_load_row E.o underlying309 Tryz.size309 ?_ ?_);(· rfl))|((with_reducible refine wpList_store_row u.o Tryz.size309 (zdX B 64) ?_ ?_ ?_);(· rfl);(· rfl))));refine Eh (v:=.agg (Zl .u32 64 (zdX B 64))) (zfw rfl _ rfl (u.o.row _) underlying309 Tryz.size309) rfl ⟨?_,zfM a (Ea _) _⟩;rw[zd7 (fun j hj=>Q0 B 64 j hj)]})})
def IsV(w:zW)(g:Nat)(k:IntKind)(n:Nat)(f:Nat->Int):Prop:=∃t fr,w.heap[g]?=some (.cells (Zl k n f) t fr)
theorem IsV.cell(h:IsV w g k n f)(b:j<n):w.cell? (zA g j)=some (.int k (f j)):=by obtain⟨t,a,h⟩:=h;rw[Ed w g j _ t a h,zc6 k n f j b]
def IsV.lt(h:IsV w g k n f):g<w.heap.size:=by obtain⟨t,a,h⟩:=h;exact(Fd.1 h).1
def IsV.of_heap(h:IsV w g k n f)(e:w'.heap[g]?=w.heap[g]?):IsV w' g k n f:=by obtain⟨t,a,h⟩:=h;exact⟨t,a,by rw[e];exact h⟩
def IsV.below(h:IsV w g k n f)(b:Below B w w')(a:g<B):IsV w' g k n f:=h.of_heap (b.block g a)
def zfn{b:Array Oper}{rest:List Oper}{p:Operand}{u:TypeId}{i:String}{j:Array Edge}(c:IsV w g k n f)(s:P.underlying ty=some (.array n e))(o:(P.info? ty).map (·.size)=some n)(r:a.eval p=.pointer (zx g))(h:wpList P b Q rest (a.put (some d) (.agg (Zl k n f))) w): wpList P b Q (⟨some d,.load ty p,u,i,j,none⟩ :: rest) a w:=by refine Ow rfl fun K m=>?_;obtain⟨t,l,c⟩:=c;have q:(Instr.loadAt ty (.pointer (zx g))).run P w=.ok (.agg (Zl k n f)) w:=by{simp only[Instr.loadAt,Instr.sureAddr,Mu,Nu,Result.andThen];exact run_loadVar_row w g t ty _ l _ c s rfl (by rw[QI];exact o)};unfold Oper.wp;simp[execOp,r,q,Result.andThen];exact m _ _ h
def zBp:List Int:=[1116352408,1899447441,3049323471,3921009573,961987163,1508970993,2453635748,2870763221,3624381080,310598401,607225278,1426881987,1925078388,2162078206,2614888103,3248222580,3835390401,4022224774,264347078,604807628,770255983,1249150122,1555081692,1996064986,2554220882,2821834349,2952996808,3210313671,3336571891,3584528711,113926993,338241895,666307205,773529912,1294757372,1396182291,1695183700,1986661051,2177026350,2456956037,2730485921,2820302411,3259730800,3345764771,3516065817,3600352804,4094571909,275423344,430227734,506948616,659060556,883997877,958139571,1322822218,1537002063,1747873779,1955562222,2024104815,2227730452,2361852424,2428436474,2756734187,3204031479,3329325298]
def zxH(j:Nat):Int:=zBp.getD j 0
def zsR:List Int:=[1779033703,3144134277,1013904242,2773480762,1359893119,2600822924,528734635,1541459225]
def zey(j:Nat):Int:=zsR.getD j 0
structure St where
 a:Int
 b:Int
 c:Int
 d:Int
 e:Int
 f:Int
 g:Int
 h:Int
def bx(x y:Int):Int:=bits BinOp.xor IntKind.u32 x y
def ba(x y:Int):Int:=bits BinOp.and IntKind.u32 x y
def zAs(e:Int):Int:=bx (bx (zpQ e 6) (zpQ e 11)) (zpQ e 25)
def zAP(a:Int):Int:=bx (bx (zpQ a 2) (zpQ a 13)) (zpQ a 22)
def pick(e f g:Int):Int:=bx (ba e f) (ba (bx IntKind.u32.max e) g)
def JZ(a b c:Int):Int:=bx (bx (ba a b) (ba a c)) (ba b c)
def t1(s:St)(K W:Int):Int:=s.h+zAs s.e+pick s.e s.f s.g+K+W
def t2(s:St):Int:=zAP s.a+JZ s.a s.b s.c
def zlN(s:St)(K W:Int):St:=⟨(t1 s K W+t2 s)%4294967296,s.a,s.b,s.c,(s.d+t1 s K W)%4294967296,s.e,s.f,s.g⟩
def zvP(s:Nat->Int):St:=⟨s 0,s 1,s 2,s 3,s 4,s 5,s 6,s 7⟩
def zbb(B:Nat->Nat)(s:Nat->Int):Nat->St
 |0=>zvP s
 |k+1=>zlN (zbb B s k) (zxH k) (wv B k)
def St.at(x:St)(j:Nat):Int:=[x.a,x.b,x.c,x.d,x.e,x.f,x.g,x.h].getD j 0
def ZN(B:Nat->Nat)(s:Nat->Int)(j:Nat):Int:=(s j+(zbb B s 64).at j)%4294967296
def zsS(x:St)(s:Nat->Int)(j:Nat):Nat->Int:=fun i=>if i<j then (s i+x.at i)%4294967296 else s i
def zqy(x:St)(s:Nat->Int)(i:Nat):s i=zsS x s 0 i:=by simp[zsS]
def zxq(x:St)(s:Nat->Int)(j:Nat):zsS x s j j=s j:=by simp[zsS]
def zr7(x:St)(s:Nat->Int)(j i:Nat)(a:Nat->Int)(b:a j=(s j+x.at j)%4294967296)(c:∀i,i≠j->a i=zsS x s j i):a i=zsS x s (j+1) i:=by by_cases e:i=j;{subst e;rw[b];simp[zsS]};{rw[c i e];have:(i<j+1)=(i<j):=propext ⟨fun h=>by omega,fun h=>by omega⟩;simp[zsS,this]}
def zva(B:Nat->Nat)(s:Nat->Int)(x:St)(b:x=zbb B s 64)(i:Nat)(a:i<8):zsS x s 8 i=ZN B s i:=by simp[zsS,ZN,a,b]
def zpT(b g h j a c d i e f:Int): (⟨((i+zAs a+pick a c d+e+f)%4294967296+(zAP b+JZ b g h)%4294967296)%4294967296,b,g,h,(j+(i+zAs a+pick a c d+e+f)%4294967296)%4294967296,a,c,d⟩:St)=zlN ⟨b,g,h,j,a,c,d,i⟩ e f:=by simp[zlN,t1,t2]
def zBZ(a b c d e f g h:Int)(j:Nat)(k:j<8)(u:zW): (Instr.index 296 (.agg #[.int .u32 a,.int .u32 b,.int .u32 c,.int .u32 d,.int .u32 e,.int .u32 f,.int .u32 g,.int .u32 h]) (zI (j:Int))).run prog u=.ok (.int .u32 ((⟨a,b,c,d,e,f,g,h⟩:St).at j)) u:=by have i:∀u:zW,(Go.sizeOf 209).run prog u=.ok 1 u:=fun u=>by{kernel_rfl};have:j=0∨j=1∨j=2∨j=3∨j=4∨j=5∨j=6∨j=7:=by{omega};rcases this with rfl|rfl|rfl|rfl|rfl|rfl|rfl|rfl<;>simp[Instr.index,asIntOf,underlying,underlying296,underlying209,Result.andThen,i,St.at,Go.part,isAgg]
def chunks(m:Nat):Nat:=(m+72)/64
def zpN(t:zY)(k j:Nat):Nat :=
 if j<t.size then bt t j else if j=t.size then 128 else if chunks t.size*64<=j+k then t.size*8/2 ^ (8*(chunks t.size*64-1-j))%256 else 0
def pad(t:zY)(j:Nat):Nat:=zpN t 8 j
def zx6(t:zY)(k j:Nat):zpN t k j<256:=by unfold zpN;have:=zz3 t j;split;{exact this};{split;{decide};{split;{exact Nat.mod_lt _ (by decide)};{decide}}}
def zwX(t:zY)(j:Nat):pad t j<256:=zx6 t 8 j
def JJ(m:Nat):m+9<=chunks m*64:=by unfold chunks;omega
def zbA(m:Nat):chunks m*64<=m+72:=by unfold chunks;omega
def zqJ(t:zY)(j:Nat):j<chunks t.size*64->upd (fun j=>if j<t.size then ((bt t j:Nat):Int) else 0) t.size 128 j=((zpN t 0 j:Nat):Int):=by intro a;unfold upd zpN;by_cases e:j=t.size;{subst e;simp};{by_cases h:j<t.size;{simp[e,h]};{have:¬chunks t.size*64<=j:=by{omega};simp[e,h,this]}}
def zvq(t:zY)(k:Nat)(i:k<8)(v:Int)(f:v=((t.size*8/2 ^ (8*k)%256:Nat):Int))(j:Nat)(g:j<chunks t.size*64): upd (fun j=>((zpN t k j:Nat):Int)) (chunks t.size*64-1-k) v j=((zpN t (k+1) j:Nat):Int):=by subst f;have l:=JJ t.size;unfold upd zpN;by_cases e:j=chunks t.size*64-1-k;{have a:¬j<t.size:=by{omega};have b:¬j=t.size:=by{omega};have c:chunks t.size*64<=j+(k+1):=by{omega};have d:chunks t.size*64-1-j=k:=by{omega};rw[Em e,Ej a,Ej b,Em c,d]};{rw[Ej e];have:(chunks t.size*64<=j+(k+1))=(chunks t.size*64<=j+k):=propext ⟨fun h=>by omega,fun h=>by omega⟩;simp only[this]}
def zw1(t:zY)(k j:Nat):Nat:=pad t (64*k+j)
def zq9(t:zY)(k j:Nat):zw1 t k j<256:=zwX t _
def shaS(t:zY):Nat->Nat->Int
 |0=>zey
 |k+1=>ZN (zw1 t k) (shaS t k)
def ziW(s:Nat->Int)(j:Nat):Nat:=(s (j/4)/2 ^ (24-8*(j%4))%256).toNat
def zsn(s:Nat->Int)(j:Nat):ziW s j<256:=by unfold ziW;omega
def sha(t:zY):zY:=zgu 32 (ziW (shaS t (chunks t.size)))
def zie(t:zY):(sha t).size=32:=JT 32 _
def zbM(s:Nat->Int)(m j:Nat):Nat:=if j<m then ziW s j else 0
def ztf(s:Nat->Int)(m j:Nat)(v:Int)(a:v=((ziW s m:Nat):Int)):upd (fun j=>((zbM s m j:Nat):Int)) m v j=((zbM s (m+1) j:Nat):Int):=by subst a;unfold upd zbM;by_cases e:j=m;{subst e;simp};{have:(j<m+1)=(j<m):=propext ⟨fun h=>by omega,fun h=>by omega⟩;simp[e,this]}
def zvB(s:Nat->Int):zgu 32 (zbM s 32)=zgu 32 (ziW s):=zdR 32 _ _ (fun j a=>by simp[zbM,a])
def zxs(s:Nat->Int)(m j:Nat):zbM s m j<256:=by unfold zbM;split;{exact zsn s j};{decide}
def zk7(s:Nat->Int)(m:Nat):s (m/4)/2 ^ (24-8*(m%4))%256=((ziW s m:Nat):Int):=by unfold ziW;rw[Int.toNat_of_nonneg];omega
def zeC{b:Array Oper}{rest:List Oper}{Q:Act->Prop}{p:Operand}{s:TypeId}{c:String}{i:Array Edge}{t:TypeId}(l:IsB w g t k n f)(r:P.underlying ty=some (.array n e))(m:(P.info? ty).map (·.size)=some n)(q:a.eval p=.pointer (zx g))(h:wpStill P b w Q rest (a.put (some d) (.agg (Zl k n f)))): wpStill P b w Q (⟨some d,.load ty p,s,c,i,none⟩ :: rest) a:=by refine wpStill_step fun K j=>?_;have o:=l.loadAt (P:=P) ty e r m;simp[Region.wanted,Oper.still,Oper.stillUpon,execOp,q,o,Result.andThen];exact j _ h
def Ints(w:zW)(B:Nat)(a:Option Addr)(l:List Int):Prop :=
 l=[]∨∃b off,a=some (zA b off)/\b<B/\∀j (h:j<l.length),w.cell? (zA b (off+j))=some (.int .i64 l[j])
def Ints.below{a:Option Addr}(h:Ints w B a l)(f:Below B w w'):Ints w' B a l:=by rcases h with e|⟨b,d,rfl,c,g⟩;{exact .inl e};{exact .inr ⟨b,d,rfl,c,fun j i=>(f.cell (p:=zA b (d+j)) c).trans (g j i)⟩}
def Ints.mono{a:Option Addr}(h:Ints w B a l)(c:B<=C):Ints w C a l:=by rcases h with f|⟨b,e,rfl,d,g⟩;{exact .inl f};{exact .inr ⟨b,e,rfl,Fw d c,g⟩}
theorem Ints.some{a:Option Addr}(h:Ints w B a l)(e:0<l.length): ∃b c,a=.some (zA b c)/\b<B/\∀j (h:j<l.length),w.cell? (zA b (c+j))=.some (zI l[j]):=by rcases h with d|h;{subst d;simp at e};{exact h}
def irow(l:List Int):Array Value:=(l.map (Value.int .i64)).toArray
def IsI(w:zW)(g:Nat)(t:TypeId)(l:List Int):Prop:=w.heap[g]?=some (.cells (irow l) t (0,0))
def ztj(l:List Int):(irow l).size=l.length:=by simp[irow]
def zuw(l:List Int)(j:Nat)(h:j<l.length):(irow l)[j]?=some (zI l[j]):=by simp[irow,h]
def zuO(l:List Int)(i:Nat)(s:Int):(irow l).setIfInBounds i (zI s)=irow (l.set i s):=by simp[irow,Rl]
theorem IsI.cell(h:IsI w g t l)(a:j<l.length):w.cell? (zA g j)=some (zI l[j]):=by rw[Ed w g j _ t (0,0) h,zuw l j a]
theorem IsI.frozen(h:IsI w g t l)(j:Nat):w.frozen? (zA g j)=false:=Ec w g j _ t h
theorem IsI.set(h:IsI w g t l)(i:Nat)(s:Int):IsI (zw w g i (zI s)) g t (l.set i s):=by unfold IsI;rw[En w g i _ t _ h,zuO]
def IsI.lt(h:IsI w g t l):g<w.heap.size:=(Fd.1 h).1
def IsI.below(h:IsI w g t l)(b:Below B w w')(a:g<B):IsI w' g t l:=by unfold IsI;rw[b.block g a];exact h
def IsI.ints(h:IsI w g t l)(a:g<B):Ints w B (zx g) l :=
 .inr ⟨g,0,rfl,a,fun j b=>by rw[Kb];exact h.cell b⟩
def zBr(l:List Int)(k:Nat):List Int:=l.take k++List.replicate (l.length-k) 0
def zfc{a e:Nat}(h:w.ownsRow a e 1 (.slice (zx g) n n) n (madeCells (Value.int .i64 0).cells (n*1)).toList):IsI w g e (List.replicate n 0):=by obtain⟨_,h⟩:=h;rcases h with⟨h,_⟩|⟨l,j,c,i,_,f,_,_,d,b⟩;{simp at h};{simp at i;obtain⟨rfl,rfl⟩:=i;have k:(madeCells (Value.int .i64 0).cells (n*1)).toList=(irow (List.replicate n 0)).toList:=by{rw[Kj];have:=Vd (zI 0) n;simp only[irow,Rf];exact this};rw[k,E0 (by simp[d])]at b;have:c=irow (List.replicate n 0):=by{simpa using b};rw[this]at f;exact f}
def Tryz.infoI2:(prog.info? 2).map (fun i=>(i.zero,i.size,i.bytes))=some (some (zI 0),1,8):=by kernel_rfl
def jL(w:zW)(g t:Nat)(l:List Int):Prop:=∃cur:Array Value,w.heap[g]?=some (.cells cur t (0,0))/\∀j (h:j<l.length),cur[j]?=some (.int .i64 l[j])
theorem jL.cell(h:jL w g t l)(d:j<l.length):w.cell? (zA g j)=some (zI l[j]):=by obtain⟨a,b,c⟩:=h;rw[Ed w g j _ t (0,0) b,c j d]
theorem jL.frozen(h:jL w g t l)(j:Nat):w.frozen? (zA g j)=false:=by obtain⟨a,b,_⟩:=h;exact Ec w g j _ t b
theorem jL.set(h:jL w g t l)(i:Nat)(s:Int):jL (zw w g i (zI s)) g t (l.set i s):=by obtain⟨a,f,d⟩:=h;refine⟨_,En w g i _ t _ f,fun j b=>?_⟩;rw[Fu]at b;rw[Array.getElem?_setIfInBounds,Om];have c:j<a.size:=(Fd.1 (d j b)).1;by_cases e:i=j;{subst e;simp[c]};{simp[e,d j b]}
def jL.lt(h:jL w g t l):g<w.heap.size:=by obtain⟨a,b,_⟩:=h;exact(Fd.1 b).1
def jL.of_heap(h:jL w g t l)(e:w'.heap[g]?=w.heap[g]?):jL w' g t l:=by obtain⟨a,b,c⟩:=h;exact⟨a,by rw[e];exact b,c⟩
def jL.below(h:jL w g t l)(b:Below B w w')(a:g<B):jL w' g t l:=h.of_heap (b.block g a)
def jL.ints(h:jL w g t l)(a:g<B):Ints w B (zx g) l :=
 .inr ⟨g,0,rfl,a,fun j b=>by rw[Kb];exact h.cell b⟩
def zh8(k n:Nat):List Int:=(List.range n).map fun j=>((k+j:Nat):Int)
def zAH(l:List Int)(k i:Nat):List Int:=zh8 k i++l.drop i
def zH(w:zW)(base:Nat)(v:Value)(l:List Int):Prop:=w.ownsRow base 2 1 v l.length (l.map (Value.int .i64))
def zH.nil(w:zW)(a:Nat):zH w a zs0 []:=Oi w a _ _
def zH.split(h:zH w b v l): (v=zs0/\l=[])∨∃g a,v=.slice (zx g) l.length a/\b<=g/\l.length<=a/\jL w g 2 l:=by obtain⟨_,h⟩:=h;rcases h with⟨h,f⟩|⟨g,a,c,p,m,k,d,_,o,e⟩;{exact .inl ⟨h,Fv f⟩};{refine .inr ⟨g,a,p,m,d,c,k,fun j n=>?_⟩;rw[<-E6];have i:c.toList[j]?=(c.toList.take (l.length*1))[j]?:=by{rw[Fi (by omega)]};rw[i,e];simp[n]}
def zH.below{a:Nat}(h:zH w a v l)(b:zU w w'):zH w' a v l:=by obtain⟨i,h⟩:=h;refine⟨i,?_⟩;rcases h with h|⟨g,c,d,j,f,e,rest⟩;{exact .inl h};{exact .inr ⟨g,c,d,j,f,by rw[b.block g (Fd.1 e).1];exact e,rest⟩}
def zH.mono{a:Nat}(h:zH w b v l)(e:a<=b):zH w a v l:=by obtain⟨i,h⟩:=h;refine⟨i,?_⟩;rcases h with h|⟨g,c,d,j,f,rest⟩;{exact .inl h};{exact .inr ⟨g,c,d,j,Fb e f,rest⟩}
theorem zH.ints(h:zH w c v l):∃a b,v=.slice a l.length b/\l.length<=b/\Ints w w.heap.size a l:=by rcases h.split with⟨rfl,rfl⟩|⟨g,b,rfl,_,e,d⟩;{exact⟨none,0,rfl,Ea _,.inl rfl⟩};{exact⟨_,b,rfl,e,d.ints d.lt⟩}
def ZD(W:zW)(s:Int)(t:TypeId):∀(j:Nat) (u:Value),[(Value.int .i64) s][j]?=some u->(W.alloc (.cells #[zI s] t)).cell? (((zA W.heap.size 0):Addr).add j)=some u:=by intro j u a;match j,a with|0,a=>{simp at a;subst a;simp[Addr.add]}
def jW(s:Int):∀u∈[(Value.int .i64) s],u.oneCell'=true:=by intro u a;simp at a;subst a;rfl
def zH.snoc{a:Nat}{s:Int}(h:w.ownsRow a 2 1 v (l.length+1) (l.map (Value.int .i64)++[zI s])):zH w a v (l++[s]):=by unfold zH;rw[Ee,Fe];exact h
def jJ{a:Nat}{w0:zW}{size:Nat}{o:Obj}(c:Below B w0 w)(g:B<=w.heap.size)(f:B<=a)(d:w.ownsRow a e size v n xs)(b:(w.alloc o).grownBy w1 v.ownBlock):Below B w0 w1:=by refine(c.alloc g o).grown b (by simp;omega) ?_;intro k h;exact Fb f (d.lt k h).1
def join_some(a b:zY)(w:zW)(h:a.size+b.size<=1099511627776)(s:¬b=ByteArray.empty): Calls prog 204 #[.string a,.string b] w (zB w (.string (a++b))):=by have⟨o,n,i,j,k⟩:=Fp Tryz.infoJ5;go_enter func204,ntmps204;(go_wp2_with (at_make;refine Lu _ rfl (.tmp 10) (.tmp 10) 22 rfl w.heap.size 5 o (.int .u8 0) 1 underlying22 n i j .i64 .i64 _ _ (a.size+b.size) rfl rfl (by simp) (by simp) (by rw[k];omega) (by unfold maxLen;omega) (Ea _) ?_;intro w1 e c;have⟨l,f,g⟩:=zed e;have d:=(Eb w.heap.size w).grown c (Ea _) (by simp);have⟨t,u,p,q,r,m⟩:=zgQ (P:=prog) (ty:=3) (sT:=9) (a:=a) (b:=b) (dp:=some (zA w.heap.size a.size)) (dLen:=b.size) (dCap:=b.size) underlying22 underlying5 underlying9 Tryz.sizeJ5 f g rfl d (fun _=>rfl) (Ea _);clear e c f g d));go_ret;exact⟨rfl,by assumption⟩
def join_none(a:zY)(w:zW)(h:a.size<=1099511627776): Calls prog 204 #[.string a,.string ByteArray.empty] w (zB w (.string (a++ByteArray.empty))):=by have⟨o,n,i,j,k⟩:=Fp Tryz.infoJ5;go_enter func204,ntmps204;(go_wp2_with (at_make;refine Lu _ rfl (.tmp 10) (.tmp 10) 22 rfl w.heap.size 5 o (.int .u8 0) 1 underlying22 n i j .i64 .i64 _ _ a.size rfl rfl (by simp) (by simp) (by rw[k];omega) (by unfold maxLen;omega) (Ea _) ?_;intro w1 e c;have⟨l,f,g⟩:=zed e;have d:=(Eb w.heap.size w).grown c (Ea _) (by simp);have⟨s,t,p,q,r,m⟩:=zgQ (P:=prog) (ty:=3) (sT:=9) (a:=a) (b:=ByteArray.empty) (dp:=zx w.heap.size) (dLen:=0) (dCap:=0) underlying22 underlying5 underlying9 Tryz.sizeJ5 f g (by simp) d (by simp) (by simp);clear e c f g d));go_ret;exact⟨qR (by simp),by assumption⟩
def JE(a b:zY)(w:zW)(h:a.size+b.size<=1099511627776): Calls prog 204 #[.string a,.string b] w (zB w (.string (a++b))):=by by_cases c:b=ByteArray.empty;{subst c;exact join_none a w (by omega)};{exact join_some a b w h c}
def zcD(s:zY)(p:Nat):Nat:=(s.data.toList.getD p 0).toNat
def zbY(s:zY)(p:Nat)(h:p<s.size):s[p].toNat=zcD s p:=by have a:p<s.data.toList.length:=by{simpa using h};unfold zcD;rw[El,Eg a];rfl
def qL(s:zY):Nat->Nat->Nat->Nat->Nat × Nat × Int
 |0,_,_,_=>(0,0,3)
 |f+1,k,p,u=>
  if s.size<=p then (0,0,4)
  else if k=9/\1<zcD s p then (0,0,3)
  else if zcD s p<128 then (if zcD s p=0/\0<k then (0,0,3) else (u+zcD s p%128*2 ^ (7*k),p+1,0))
  else qL s f (k+1) (p+1) (u+zcD s p%128*2 ^ (7*k))
def zaZ(s:zY)(a:Nat):Nat × Nat × Int:=qL s 10 0 a 0
def zgo(s:zY)(f k p u:Nat)(h:s.size<=p):qL s (f+1) k p u=(0,0,4):=by rw[qL,Em h]
def znC(s:zY)(f k p u:Nat)(h:p<s.size)(b:k=9)(a:1<s[p].toNat):qL s (f+1) k p u=(0,0,3):=by rw[zbY s p h]at a;rw[qL,Ej (by omega),Em ⟨b,a⟩]
def zmJ(s:zY)(f k p u:Nat)(h:p<s.size)(a:s[p].toNat=0)(b:0<k):qL s (f+1) k p u=(0,0,3):=by rw[zbY s p h]at a;rw[qL,Ej (by omega),Ej (by omega),Em (by omega),Em ⟨a,b⟩]
def ze6(s:zY)(f k p u:Nat)(h:p<s.size)(a:¬(k=9/\1<s[p].toNat))(b:s[p].toNat<128)(c:¬(s[p].toNat=0/\0<k)): qL s (f+1) k p u=(u+s[p].toNat%128*2 ^ (7*k),p+1,0):=by rw[zbY s p h]at b c a ⊢;rw[qL,Ej (by omega),Ej a,Em b,Ej c]
def zaL(s:zY)(f k p u:Nat)(h:p<s.size)(b:k≠9)(a:128<=s[p].toNat): qL s (f+1) k p u=qL s f (k+1) (p+1) (u+s[p].toNat%128*2 ^ (7*k)):=by rw[zbY s p h]at a ⊢;rw[qL,Ej (by omega),Ej (by omega),Ej (by omega)]
def zm7(k:Nat)(a:k<=9):2 ^ (7*k)<=9223372036854775808:=by have:2 ^ (7*k)<=2 ^ 63:=My (by decide) (by omega);exact this
def zvp(k:Nat):2 ^ (7*(k+1))=128*2 ^ (7*k):=by rw[show 7*(k+1)=7+7*k by omega,Se]
def zpi(c k:Nat):c%128*2 ^ (7*k)<=127*2 ^ (7*k):=Sf _ (by omega)
def zif(u c k:Nat)(a:u<2 ^ (7*k)):u+c%128*2 ^ (7*k)<2 ^ (7*(k+1)):=by rw[zvp];have:=zpi c k;omega
def zd4(u c k:Nat)(d:u<2 ^ (7*k))(b:k<=9)(f:¬(k=9/\1<c)):c%128*2 ^ (7*k)<=9223372036854775808/\u+c%128*2 ^ (7*k)<=18446744073709551615:=by have h:=zm7 k b;by_cases e:k=9;{have a:c%128<=1:=by{omega};have:=Sf (2 ^ (7*k)) a;omega};{have g:=zif u c k d;have:=zm7 (k+1) (by omega);omega}
def zzu(u c k:Nat)(a:u<2 ^ (7*k)):u ||| (c%128*2 ^ (7*k))=u+c%128*2 ^ (7*k):=by rw[Nat.or_comm,Vb (7*k) (c%128*2 ^ (7*k)) u (Nat.mul_mod_left _ _) a,Vl]
def unz(u:Nat):Int:=if u%2=1 then -((u/2:Nat):Int)-1 else ((u/2:Nat):Int)
def zsc(c k:Nat)(h:c%128*2 ^ (7*k)<=9223372036854775808):IntKind.u64.wrap ((c:Int)%128*2 ^ (7*k))=((c%128*2 ^ (7*k):Nat):Int):=by have e:((c:Int)%128*2 ^ (7*k))=((c%128*2 ^ (7*k):Nat):Int):=by{rw[Int.natCast_mul,Int.natCast_emod,U2];rfl};rw[e,Mx];omega
def zql(v c k:Nat)(a:c%128*2 ^ (7*k)<=9223372036854775808)(b:v+c%128*2 ^ (7*k)<=18446744073709551615): IntKind.u64.wrap ((v:Int)+IntKind.u64.wrap ((c:Int)%128*2 ^ (7*k)))=((v+c%128*2 ^ (7*k):Nat):Int):=by rw[zsc c k a,Mx];omega
def zlZ(x:Nat)(h:x%2=1):unz x=-((x/2:Nat):Int)-1:=by unfold unz;rw[Em h]
def zmP(x:Nat)(h:¬x%2=1):unz x=((x/2:Nat):Int):=by unfold unz;rw[Ej h]
def zqM(c:Nat)(h:c<256):bits BinOp.and IntKind.u8 (c:Int) 127=((c%128:Nat):Int):=by have:=u8_and_nat c 127 h (by decide);rw[nat_mask7]at this;exact this
def zv1(y k:Nat)(h:y*2 ^ (7*k)<=9223372036854775808):IntKind.u64.wrap ((y:Int)*2 ^ (7*k))=((y*2 ^ (7*k):Nat):Int):=by have e:((y:Int)*2 ^ (7*k))=((y*2 ^ (7*k):Nat):Int):=by{rw[Int.natCast_mul,U2];rfl};rw[e,Mx];omega
def zxz(v c k:Nat)(a:v<2 ^ (7*k))(b:c%128*2 ^ (7*k)<=9223372036854775808)(d:v<=9223372036854775807): bits BinOp.or IntKind.u64 (v:Int) ((c%128*2 ^ (7*k):Nat):Int)=((v+c%128*2 ^ (7*k):Nat):Int):=by rw[u64_or_nat v _ (by omega) (by omega),zzu v c k a]
def ziF(x:Nat)(h:x%2=1):-((x:Int)/2)-1=unz x:=by rw[zlZ x h];omega
def zdu(x:Nat)(h:¬x%2=1):(x:Int)/2=unz x:=by rw[zmP x h];omega
def zE(h:p):Hid p:=h
def qe(n at_ code:Int):Value:=.agg #[.int .i64 n,.int .i64 at_,.int .i64 code]
def zuK(r:Nat × Nat × Int):Value:=if r.2.2=0 then qe (unz r.1) r.2.1 0 else qe 0 0 r.2.2
def zoX(s:zY)(a:Int):Value:=if 8000<s.size then qe 0 0 2 else if a<0 then qe 0 0 1 else zuK (zaZ s a.toNat)
open Go.RowKit Go.Extern.Stop Go.Stop Go.Extern
def Tryz.valueOfP(t:Addr)(w:zW):(ReflectliteValue.unpack (.iface 242 (.pointer (some t)))).run prog w
  = .ok (.agg #[.pointer (some (zA (4) (242))),.pointer (zx w.heap.size),.int .u64 150]) (w.alloc (.cells #[.pointer (some t)] 242)):=by kernel_rfl
def Tryz.typeP(a:Addr)(w:zW):(ReflectliteValue.methodAny (ReflectliteValue.valueError "reflectlite.Value.Type" 0) (fun t _ _ _=>ReflectliteType.toType t) #[.agg #[.pointer (some (zA (4) (242))),.pointer (some a),.int .u64 150]]).run prog w
  = .ok (.iface 283 (.agg #[.pointer (some (zA (4) (242)))])) w:=by kernel_rfl
def Tryz.methodKind(h:Value)(w:zW):(Go.method 448 283 (.agg #[h]) "Kind").run prog w=.ok (284,h) w:=by kernel_rfl
def Tryz.kindP(w:zW):((ReflectliteType.abiMethod fun t=>(fun a:Nat=>Value.int IntKind.u8 (a:Int)) <$> Rtype.kind t) #[.pointer (some (zA (4) (242)))]).run prog w=.ok (.int .u8 22) w:=by kernel_rfl
def Tryz.kindD(w:zW):((ReflectliteType.abiMethod fun t=>(fun a:Nat=>Value.int IntKind.u8 (a:Int)) <$> Rtype.kind t) #[.pointer (some (zA (4) (240)))]).run prog w=.ok (.int .u8 25) w:=by kernel_rfl
def Tryz.partsP(a:Addr)(w:zW):(ReflectliteValue.parts (.agg #[.pointer (some (zA (4) (242))),.pointer (some a),.int .u64 150])).run prog w=.ok (some (242,a,150)) w:=by kernel_rfl
def Tryz.isNilP(a p:Addr)(W:zW)(ha:W.cell? a=some (.pointer (some p))): (ReflectliteValue.method (ReflectliteValue.valueError "reflectlite.Value.IsNil" 0) ReflectliteValue.isNil #[.agg #[.pointer (some (zA (4) (242))),.pointer (some a),.int .u64 150]]).run prog W=.ok (.bool false) W:=by refine Sw (b:=(Bind.bind (ReflectliteValue.parts (.agg #[.pointer (some (zA (4) (242))),.pointer (some a),.int .u64 150])) _).run prog W) rfl ?_;simp only[Mu,Tryz.partsP,Result.andThen];simp[ReflectliteValue.isNil,loadVar,isAgg,underlying,underlying242,ha,Result.andThen]
def Tryz.methodElem(h:Value)(w:zW):(Go.method 448 283 (.agg #[h]) "Elem").run prog w=.ok (295,.agg #[h]) w:=by kernel_rfl
def Tryz.methodImplements(h:Value)(w:zW):(Go.method 448 283 (.agg #[h]) "Implements").run prog w=.ok (296,.agg #[h]) w:=by kernel_rfl
def Tryz.methodAssignableTo(h:Value)(w:zW):(Go.method 448 283 (.agg #[h]) "AssignableTo").run prog w=.ok (293,.agg #[h]) w:=by kernel_rfl
def Tryz.elemP(w:zW):(ReflectliteType.method ReflectliteType.elem #[.agg #[.pointer (some (zA (4) (242)))]]).run prog w=.ok (.iface 283 (.agg #[.pointer (some (zA (4) (240)))])) w:=by kernel_rfl
def Tryz.implementsD(w:zW):(ReflectliteType.relation "Implements" ReflectliteType.implements_ #[.agg #[.pointer (some (zA (4) (240)))],.iface 283 (.agg #[.pointer (some (zA (4) (214)))])]).run prog w=.ok (.bool true) w:=by kernel_rfl
def Tryz.typeOfD(v:Value)(w:zW):(ReflectliteType.typeOf #[.iface 240 v]).run prog w=.ok (.iface 283 (.agg #[.pointer (some (zA (4) (240)))])) w:=by kernel_rfl
def Tryz.assignableD(w:zW):(ReflectliteType.relation "AssignableTo" ReflectliteType.assignableTo #[.agg #[.pointer (some (zA (4) (240)))],.iface 283 (.agg #[.pointer (some (zA (4) (240)))])]).run prog w=.ok (.bool true) w:=by kernel_rfl
def Tryz.valueOfD(c:Int)(w:zW):(ReflectliteValue.unpack (.iface 240 (.agg #[zI c]))).run prog w
  = .ok (.agg #[.pointer (some (zA (4) (240))),.pointer (zx w.heap.size),.int .u64 153]) (w.alloc (.cells #[.int .i64 c] 240)):=by kernel_rfl
def Tryz.elemOfP(w:zW):(Rtype.elem? 242).run prog w=.ok (some 240) w:=by kernel_rfl
def Tryz.mkD(p:Addr)(w:zW):(ReflectliteValue.mk 240 p ReflectliteValue.flagAddr).run prog w=.ok (.agg #[.pointer (some (zA (4) (240))),.pointer (some p),.int .u64 409]) w:=by kernel_rfl
def Tryz.elemVP(a p:Addr)(W:zW)(ha:W.cell? a=some (.pointer (some p))): (ReflectliteValue.method (ReflectliteValue.valueError "reflectlite.Value.Elem" 0) ReflectliteValue.elem #[.agg #[.pointer (some (zA (4) (242))),.pointer (some a),.int .u64 150]]).run prog W=.ok (.agg #[.pointer (some (zA (4) (240))),.pointer (some p),.int .u64 409]) W:=by refine Sw (b:=(Bind.bind (ReflectliteValue.parts (.agg #[.pointer (some (zA (4) (242))),.pointer (some a),.int .u64 150])) _).run prog W) rfl ?_;simp only[Mu,Tryz.partsP,Result.andThen];simp[ReflectliteValue.elem,loadVar,isAgg,underlying,underlying242,ha,Result.andThen,Tryz.elemOfP,Tryz.mkD]
def Tryz.partsDa(a:Addr)(w:zW):(ReflectliteValue.parts (.agg #[.pointer (some (zA (4) (240))),.pointer (some a),.int .u64 409])).run prog w=.ok (some (240,a,409)) w:=by kernel_rfl
def Tryz.partsD(a:Addr)(w:zW):(ReflectliteValue.parts (.agg #[.pointer (some (zA (4) (240))),.pointer (some a),.int .u64 153])).run prog w=.ok (some (240,a,153)) w:=by kernel_rfl
def Tryz.directD(w:zW):(Rtype.directlyAssignable 240 240).run prog w=.ok true w:=by kernel_rfl
open Go.RowKit Go.Extern.Stop Go.Stop Go.Extern
def Tryz.setD(ta b:Addr)(c:Int)(old:Value)(W:zW)(hb:W.cell? b=some (zI c))(ht:W.cell? ta=some old)(hf:W.frozen? ta=false): (ReflectliteValue.set #[.agg #[.pointer (some (zA (4) (240))),.pointer (some ta),.int .u64 409],.agg #[.pointer (some (zA (4) (240))),.pointer (some b),.int .u64 153]]).run prog W=.ok (.tuple #[]) (W.setCell ta (zI c)):=by refine Sw (b:=(Bind.bind (ReflectliteValue.parts (.agg #[.pointer (some (zA (4) (240))),.pointer (some ta),.int .u64 409])) _).run prog W) rfl ?_;simp only[Mu,Tryz.partsDa,Result.andThen];erw[Tryz.partsD b W];simp[ReflectliteValue.flagAddr,loadVar,isAgg,underlying,underlying240,Result.andThen,Tryz.directD,storeVar,Value.cells,storeCells,Addr.add];have e:=run_loadCells_list (P:=prog) W b [zI c] (by{intro j v a;match j,a with|0,a=>{simp at a;subst a;simpa [Addr.add] using hb}});have d:(loadCells b 1).run prog W=.ok #[zI c] W:=e;rw[d];simp[storeCells,Addr.add];rw[run_store prog W ta _ _ (by rfl)];simp[ht,hf]
def zAd(c:Int)(t:Addr)(g:Value)(w:zW)(j:w.cell? (zA (1) 0)=some (.iface 283 (.agg #[.pointer (some (zA (4) (214)))])))(e:w.cell? t=some g)(i:w.frozen? t=false): Calls prog 203 #[.iface 240 (.agg #[zI c]),.iface 242 (.pointer (some t))] w fun k w'=>k=.returned (.bool true)/\w'=((((w.alloc (.cells #[.pointer (some t)] 242)).alloc (.cells #[.pointer (some (zA (4) (242))),.pointer (zx w.heap.size),.int .u64 150] 259)).alloc (.cells #[.pointer (some (zA (4) (242))),.pointer (zx w.heap.size),.int .u64 150] 259)).alloc (.cells #[zI c] 240)).setCell t (zI c):=by have B:=@Kz prog 219 _ (fun args=>ReflectliteValue.unpack (args.getD 0 (.tuple #[]))) func219 (by kernel_rfl) (by kernel_rfl) (by kernel_rfl) (by kernel_rfl);have C:=@Kz prog 220 _ (ReflectliteValue.methodAny (ReflectliteValue.valueError "reflectlite.Value.Type" 0) (fun t _ _ _=>ReflectliteType.toType t)) func220 (by kernel_rfl) (by kernel_rfl) (by kernel_rfl) (by kernel_rfl);have D:=@Kz prog 221 _ (ReflectliteValue.method (ReflectliteValue.valueError "reflectlite.Value.IsNil" 0) ReflectliteValue.isNil) func221 (by kernel_rfl) (by kernel_rfl) (by kernel_rfl) (by kernel_rfl);have E:=@Kz prog 284 _ (ReflectliteType.abiMethod fun t=>do pure (.int .u8 (<-Rtype.kind t))) func284 (by kernel_rfl) (by kernel_rfl) (by kernel_rfl) (by kernel_rfl);have F:=@Kz prog 295 _ (ReflectliteType.method ReflectliteType.elem) func295 (by kernel_rfl) (by kernel_rfl) (by kernel_rfl) (by kernel_rfl);have hF:=@Kz prog 296 _ (ReflectliteType.relation "Implements" ReflectliteType.implements_) func296 (by kernel_rfl) (by kernel_rfl) (by kernel_rfl) (by kernel_rfl);have H:=@Kz prog 241 _ ReflectliteType.typeOf func241 (by kernel_rfl) (by kernel_rfl) (by kernel_rfl) (by kernel_rfl);have I:=@Kz prog 293 _ (ReflectliteType.relation "AssignableTo" ReflectliteType.assignableTo) func293 (by kernel_rfl) (by kernel_rfl) (by kernel_rfl) (by kernel_rfl);have K:=@Kz prog 242 _ (ReflectliteValue.method (ReflectliteValue.valueError "reflectlite.Value.Elem" 0) ReflectliteValue.elem) func242 (by kernel_rfl) (by kernel_rfl) (by kernel_rfl) (by kernel_rfl);have L:=@Kz prog 243 _ ReflectliteValue.set func243 (by kernel_rfl) (by kernel_rfl) (by kernel_rfl) (by kernel_rfl);have f1:=Tryz.typeOfD;have f2:=Tryz.methodAssignableTo;have r:=Tryz.assignableD;have s:=Tryz.valueOfD;have u:=Tryz.valueOfP;have v:=Tryz.typeP;have x:=Tryz.methodKind;have y:=Tryz.methodElem;have z:=Tryz.methodImplements;have l:=Tryz.kindP;have m:=Tryz.kindD;have n:=Tryz.elemP;have o:=Tryz.implementsD;obtain⟨a,b⟩:∃a,a=Obj.cells #[.pointer (some (zA (4) (242))),.pointer (zx w.heap.size),.int .u64 150] 259:=⟨_,rfl⟩;have M:=Tryz.isNilP (zA w.heap.size 0) t ((w.alloc (.cells #[.pointer (some t)] 242)).alloc a) (by rw[b];simp);have d:1 < w.heap.size:=by{rcases Nv 1 w.heap.size with h|h;{exact h};{simp[World.cell?,Mm h]at j}};have p:((w.alloc (.cells #[.pointer (some t)] 242)).alloc a).cell? (zA (1) 0)=some (.iface 283 (.agg #[.pointer (some (zA (4) (214)))])):=by{rw[Lf _ _ (zA (1) 0) (Fw d (by simp)),Lf _ _ (zA (1) 0) d];exact j};have f:t.block<w.heap.size:=by{rcases Nv t.block w.heap.size with h|h;{exact h};{simp[World.cell?,Mm h]at e}};have q:=Tryz.elemVP (zA w.heap.size 0) t (((w.alloc (.cells #[.pointer (some t)] 242)).alloc a).alloc a) (by rw[Lf _ _ (zA w.heap.size 0) (by simp;omega),b];simp);have st:=Tryz.setD t (zA (w.heap.size+1+1+1) 0) c g ((((w.alloc (.cells #[.pointer (some t)] 242)).alloc a).alloc a).alloc (.cells #[zI c] 240)) (by rw[World.cell?_alloc_at _ _ _ _ (by simp)];rfl) (by rw[Lf _ _ t (by simp;omega),Lf _ _ t (by simp;omega),Lf _ _ t (by simp;omega),Lf _ _ t f];exact e) (by rw[On _ _ t (by simp;omega),On _ _ t (by simp;omega),On _ _ t (by simp;omega),On _ _ t (Vm f)];exact i);subst b;go_enter func203,ntmps203;go_wp2;refine Ve 1 ?_;rw[Rk];go_wp2;go_ret;exact⟨rfl,rfl⟩
def zAE(c:Int):Bool:=decide (97<=c) && decide (c<=122)
def zA9(c:Int):Bool:=decide (48<=c) && decide (c<=57)
def zko(s:zY)(i:Nat):Int:=((s.data.toList.getD i 0).toNat:Int)
def zn7(s:zY)(i:Nat):Bool:=zAE (zko s i) || (decide (0<i) && (zA9 (zko s i) || decide (zko s i=95)))
def Qj(s:zY):Bool:=decide (1<=s.size) && (decide (s.size<=20) && (List.range s.size).all (zn7 s))
def zjv(s:zY)(i:Nat)(h:i<s.size):zko s i=(s[i].toNat:Int):=by have a:i<s.data.toList.length:=by{simpa using h};unfold zko;rw[El,Eg a];rfl
def zki(s:zY)(a:1<=s.size)(b:s.size<=20)(h:∀j,j<s.size->zn7 s j=true):Qj s=true:=by simp only[Qj,a,b,decide_true,Pg,L6,Nz];exact h
def zg6(s:zY)(a:s.size<1):Qj s=false:=by have:¬1<=s.size:=by{omega};simp[Qj,this]
def zkf(s:zY)(a:20<s.size):Qj s=false:=by have:¬s.size<=20:=by{omega};simp[Qj,this]
def zuW(s:zY)(k:Nat)(a:k<s.size)(h:zn7 s k=false):Qj s=false:=by cases e:Qj s with|false=>{rfl}|true=>{simp only[Qj,Fa,L6,Nz]at e;have:=e.2.2 k a;rw[h]at this;exact absurd this (by decide)}
def zb4(s:zY)(k:Nat)(a:k<s.size)(h:((97:Int)<=s[k].toNat/\(s[k].toNat:Int)<=122)∨(0<k/\(((48:Int)<=s[k].toNat/\(s[k].toNat:Int)<=57)∨(s[k].toNat:Int)=95))):zn7 s k=true:=by unfold zn7 zAE zA9;rw[zjv s k a];simp only[Pb,Fa,Fq];exact h
def zeI(s:zY)(k:Nat)(a:k<s.size)(h:¬(((97:Int)<=s[k].toNat/\(s[k].toNat:Int)<=122)∨(0<k/\(((48:Int)<=s[k].toNat/\(s[k].toNat:Int)<=57)∨(s[k].toNat:Int)=95)))):Qj s=false:=by refine zuW s k a ?_;cases e:zn7 s k with|false=>{rfl}|true=>{exfalso;apply h;unfold zn7 zAE zA9 at e;rw[zjv s k a]at e;simp only[Pb,Fa,Fq]at e;exact e}
def zd5(s:zY)(k:Nat)(a:∀j,j<k->zn7 s j=true)(h:zn7 s k=true):∀j,j<k+1->zn7 s j=true:=by intro j b;by_cases e:j=k;{rw[e];exact h};{exact a j (by omega)}
def qq{a b:Bool}(h:a=b):Ending.returned (.bool a)=.returned (.bool b):=by rw[h]
def zmW(s:zY)(w:zW)(t:s.size<=maxLen): Calls prog 51 #[.string s] w fun e w'=>e=.returned (.bool (Qj s))/\w'=w:=by unfold maxLen at t;by_cases p:s.size<1;{go_enter func51,ntmps51;go_wp2;go_ret;exact⟨qq (zg6 s p).symm,rfl⟩};{by_cases q:20<s.size;{go_enter func51,ntmps51;go_wp2;go_ret;exact⟨qq (zkf s q).symm,rfl⟩};{go_enter func51,ntmps51;go_wp2;(go_loop [3] (fun i=>∃k:Nat,k<=s.size/\i=zI k/\∀j,j<k->zn7 s j=true) (fun i=>s.size-(intOf i).toNat));(case atStart=>exact⟨0,Es _,rfl,fun j n=>absurd n (Ko j)⟩);(case round=>obtain⟨k,u,rfl,b⟩:=hrel;have c:Hid (∀j,j<k->zn7 s j=true):=b;clear b;by_cases a:k<s.size;{rcases (show ((97:Int)<=s[k].toNat/\(s[k].toNat:Int)<=122)∨((122:Int)<(s[k].toNat:Int))∨((57:Int)<s[k].toNat/\(s[k].toNat:Int)<97)∨((48:Int)<=s[k].toNat/\(s[k].toNat:Int)<=57)∨(s[k].toNat:Int)<48 from by omega) with f|f|f|f|f;{go_wp2;(go_round);(case rel=>exact⟨k+1,by omega,by go_num,zd5 s k c.o (zb4 s k a (by omega))⟩);(case measure=>simp[intOf];omega)};{have h:((s[k].toNat:Int) != 95)=true:=by{rw[Pl];omega};have r:decide ((s[k].toNat:Int)<=122)=false:=Eo (by omega);have g:decide ((s[k].toNat:Int)<=57)=false:=Eo (by omega);rcases Kk k with rfl|d;{go_wp2;go_ret;exact⟨qq (zeI s 0 a (by omega)).symm,rfl⟩};{have m:((k:Int)==0)=false:=Ez.2 (by omega);go_wp2;go_ret;exact⟨qq (zeI s k a (by omega)).symm,rfl⟩}};{have g:decide ((s[k].toNat:Int)<=57)=false:=Eo (by omega);rcases Kk k with rfl|d;{go_wp2;go_ret;exact⟨qq (zeI s 0 a (by omega)).symm,rfl⟩};{have m:((k:Int)==0)=false:=Ez.2 (by omega);by_cases l:(s[k].toNat:Int)=95;{have h:((s[k].toNat:Int) != 95)=false:=by{rw[l];rfl};have o:Hid ((s[k].toNat:Int)=95):=l;clear l;go_wp2;(go_round);(case rel=>exact⟨k+1,by omega,by go_num,zd5 s k c.o (zb4 s k a (.inr ⟨d,.inr o.o⟩))⟩);(case measure=>simp[intOf];omega)};{have h:((s[k].toNat:Int) != 95)=true:=by{rw[Pl];omega};go_wp2;go_ret;exact⟨qq (zeI s k a (by omega)).symm,rfl⟩}}};{rcases Kk k with rfl|d;{go_wp2;go_ret;exact⟨qq (zeI s 0 a (by omega)).symm,rfl⟩};{have m:((k:Int)==0)=false:=Ez.2 (by omega);go_wp2;(go_round);(case rel=>exact⟨k+1,by omega,by go_num,zd5 s k c.o (zb4 s k a (by omega))⟩);(case measure=>simp[intOf];omega)}};{have h:((s[k].toNat:Int) != 95)=true:=by{rw[Pl];omega};rcases Kk k with rfl|d;{go_wp2;go_ret;exact⟨qq (zeI s 0 a (by omega)).symm,rfl⟩};{have m:((k:Int)==0)=false:=Ez.2 (by omega);go_wp2;go_ret;exact⟨qq (zeI s k a (by omega)).symm,rfl⟩}}};{go_wp2;go_ret;exact⟨qq (zki s (by omega) (by omega) (fun j n=>c.o j (by omega))).symm,rfl⟩})}}
def zm9(s:zY)(w:zW)(y:s.size<=maxLen): Calls prog 47 #[.string s] w fun e w'=>e=.returned (.bool (Qj s))/\w'=w:=by unfold maxLen at y;by_cases t:s.size<1;{go_enter func47,ntmps47;go_wp2;go_ret;exact⟨qq (zg6 s t).symm,rfl⟩};{by_cases u:20<s.size;{go_enter func47,ntmps47;go_wp2;go_ret;exact⟨qq (zkf s u).symm,rfl⟩};{have q:0<s.size:=by{omega};by_cases f:(97:Int)<=s[0].toNat/\(s[0].toNat:Int)<=122;{have z:Hid ((97:Int)<=s[0].toNat/\(s[0].toNat:Int)<=122):=f;obtain⟨v,x⟩:=f;go_enter func47,ntmps47;go_wp2;(go_loop [3,20] (fun _ i=>∃k:Nat,k<=s.size/\i=zI k/\∀j,j<k->zn7 s j=true) (fun _ i=>s.size-(intOf i).toNat));(case atStart=>exact⟨0,Es _,rfl,fun j p=>absurd p (Ko j)⟩);(case round=>obtain⟨k,B,rfl,b⟩:=hrel;have d:Hid (∀j,j<k->zn7 s j=true):=b;clear b;by_cases a:k<s.size;{rcases (show ((97:Int)<=s[k].toNat/\(s[k].toNat:Int)<=122)∨((122:Int)<(s[k].toNat:Int))∨((57:Int)<s[k].toNat/\(s[k].toNat:Int)<97)∨((48:Int)<=s[k].toNat/\(s[k].toNat:Int)<=57)∨(s[k].toNat:Int)<48 from by omega) with g|g|g|g|g;{go_wp2;(go_round);(case rel=>exact⟨k+1,by omega,by go_num,zd5 s k d.o (zb4 s k a (by omega))⟩);(case measure=>simp[intOf];omega)};{have n:((s[k].toNat:Int) != 95)=true:=by{rw[Pl];omega};have h:decide ((s[k].toNat:Int)<=122)=false:=Eo (by omega);have l:decide ((s[k].toNat:Int)<=57)=false:=Eo (by omega);go_wp2;go_ret;exact⟨qq (zeI s k a (by omega)).symm,rfl⟩};{have l:decide ((s[k].toNat:Int)<=57)=false:=Eo (by omega);by_cases o:(s[k].toNat:Int)=95;{have c:0<k:=by{rcases Kk k with rfl|c;{omega};{exact c}};have n:((s[k].toNat:Int) != 95)=false:=by{rw[o];rfl};have r:Hid ((s[k].toNat:Int)=95):=o;clear o;go_wp2;(go_round);(case rel=>exact⟨k+1,by omega,by go_num,zd5 s k d.o (zb4 s k a (.inr ⟨c,.inr r.o⟩))⟩);(case measure=>simp[intOf];omega)};{have n:((s[k].toNat:Int) != 95)=true:=by{rw[Pl];omega};go_wp2;go_ret;exact⟨qq (zeI s k a (by omega)).symm,rfl⟩}};{have c:0<k:=by{rcases Kk k with rfl|c;{omega};{exact c}};go_wp2;(go_round);(case rel=>exact⟨k+1,by omega,by go_num,zd5 s k d.o (zb4 s k a (by omega))⟩);(case measure=>simp[intOf];omega)};{have n:((s[k].toNat:Int) != 95)=true:=by{rw[Pl];omega};go_wp2;go_ret;exact⟨qq (zeI s k a (by omega)).symm,rfl⟩}};{go_wp2;go_ret;exact⟨qq (zki s (by omega) (by omega) (fun j p=>d.o j (by omega))).symm,rfl⟩})};{rcases (show (s[0].toNat:Int)<97∨((97:Int)<=s[0].toNat/\(122:Int)<(s[0].toNat:Int)) from by omega) with m|m;{clear f;go_enter func47,ntmps47;go_wp2;go_ret;exact⟨qq (zeI s 0 q (by omega)).symm,rfl⟩};{clear f;have h:decide ((s[0].toNat:Int)<=122)=false:=Eo (by omega);go_enter func47,ntmps47;go_wp2;go_ret;exact⟨qq (zeI s 0 q (by omega)).symm,rfl⟩}}}}
def zvK(w:zW)(lo hi:Nat)(v:Value)(l:List Int):Prop :=
 (v=zs0/\l=[])∨∃g cap,v=.slice (zx g) l.length cap/\lo<=g/\g<hi/\jL w g 2 l
def zzX(w:zW)(lo hi:Nat)(v:Value)(n:Nat):Prop:=zvK w lo hi v (zh8 1 n)
def step(x:Nat):Nat:=if x%2=1 then (x/2) ^^^ 3988292384 else x/2
def stepN:Nat->Nat->Nat
 |0,x=>x
 |k+1,x=>step (stepN k x)
def zsk(r c:Nat):Nat:=stepN 8 (r ^^^ c)
def zgD(r:Nat)(l:List UInt8):Nat:=l.foldl (fun r b=>zsk r b.toNat) r
def fin(r:Nat):Nat:=r ^^^ 4294967295
def zg8{a:Nat}(c:a<4294967296)(d:b<4294967296):a ^^^ b<4294967296 :=
 Nat.xor_lt_two_pow (n:=32) c d
def zlO(h:x<4294967296):step x<4294967296:=by unfold step;split;{exact zg8 (by omega) (by decide)};{omega}
def zuC(h:x<4294967296)(k:Nat):stepN k x<4294967296:=by induction k with|zero=>{exact h}|succ k a=>{exact zlO a}
def zmn(h:r<4294967296)(a:c<256):zsk r c<4294967296 :=
 zuC (zg8 h (by omega)) 8
def zyl(l:List UInt8):∀r,r<4294967296->zgD r l<4294967296:=by induction l with|nil=>{intro r h;exact h}|cons b l a=>{intro r h;exact a _ (zmn h b.toNat_lt)}
def ztD(r:Nat)(l:List UInt8)(b:UInt8):zgD r (l++[b])=zsk (zgD r l) b.toNat:=by simp[zgD,Lv]
def zj1(s:zY)(k:Nat)(h:k<s.size):s.data.toList.take (k+1)=s.data.toList.take k++[s[k]]:=by rw[Kn (by simpa using h)];rfl
def zkr(r:Nat)(s:zY)(k:Nat)(h:k<s.size):zgD r (s.data.toList.take (k+1))=zsk (zgD r (s.data.toList.take k)) (s[k]).toNat:=by rw[zj1 s k h,ztD]
def zhb(h:r<4294967296):fin r<4294967296:=zg8 h (by decide)
def zgE(x c k:Nat):Nat:=if (x ^^^ c/2 ^ k)%2=1 then (x/2) ^^^ 3988292384 else x/2
def zn0(x c k:Nat):zgE x c k ^^^ (c/2 ^ (k+1))=step (x ^^^ c/2 ^ k):=by have e:c/2 ^ (k+1)=(c/2 ^ k)/2:=by{rw[Kr,Ox]};unfold zgE step;rw[e,Nat.xor_div_two];split;{rw[Nat.xor_assoc,Nat.xor_assoc,Nat.xor_comm 3988292384]};{rfl}
def zoc(c k:Nat)(h:x<4294967296):zgE x c k<4294967296:=by unfold zgE;split;{exact zg8 (by omega) (by decide)};{omega}
def zjC(c k:Nat):((c:Int)/2 ^ k)=((c/2 ^ k:Nat):Int):=by rw[Uo,U2];rfl
def zsP(x c k:Nat)(b:x<4294967296)(d:c<256): bits BinOp.and IntKind.u32 (bits BinOp.xor IntKind.u32 (x:Int) ((c:Int)/2 ^ k%4294967296)) 1=(((x ^^^ c/2 ^ k)%2:Nat):Int):=by have a:c/2 ^ k<4294967296:=N7 (Rb _ _) (by omega);have e:((c:Int)/2 ^ k%4294967296)=((c/2 ^ k:Nat):Int):=by{rw[zjC];generalize c/2 ^ k=q at a ⊢;omega};rw[e,Ug _ _ b a];have:=u32_and_nat (x ^^^ c/2 ^ k) 1 (zg8 b a) (by decide);rw[nat_mask1]at this;exact this
def zm1(x:Nat)(a:x<4294967296):bits BinOp.xor IntKind.u32 ((x:Int)/2) 3988292384=(((x/2) ^^^ 3988292384:Nat):Int):=by have e:((x:Int)/2)=((x/2:Nat):Int):=by{omega};rw[e];exact Ug (x/2) 3988292384 (by omega) (by decide)
def zzU(x:Nat)(a:x<4294967296):bits BinOp.and IntKind.u32 (x:Int) 1=((x%2:Nat):Int):=by have:=u32_and_nat x 1 a (by decide);rw[nat_mask1]at this;exact this
def not_eq(x:Nat)(a:x<4294967296):bits BinOp.xor IntKind.u32 (x:Int) 4294967295=((fin x:Nat):Int) :=
 Ug x 4294967295 a (by decide)
def zqm(x:Nat)(a:x<4294967296):bits BinOp.xor IntKind.u32 IntKind.u32.max (x:Int)=((fin x:Nat):Int):=by rw[fin,Nat.xor_comm,show IntKind.u32.max=((4294967295:Nat):Int) from rfl];exact Ug 4294967295 x (by decide) a
def Jt{a b:Int}(h:a=b):Ending.returned (.int k a)=.returned (.int k b):=by rw[h]
def zwx(r c:Nat)(w:zW)(s:r<4294967296)(p:c<256): Calls prog 260 #[.int .u32 r,.int .u8 c] w fun e w'=>e=.returned (.int .u32 (zsk r c:Nat))/\w'=w:=by go_enter func260,ntmps260;go_wp2;(go_loop [0,5,6,7] (fun a _ _ i=>∃k x:Nat,k<=8/\i=zI k/\x<4294967296/\a=.int .u32 x/\x ^^^ c/2 ^ k=stepN k (r ^^^ c)) (fun _ _ _ i=>8-(intOf i).toNat));(case atStart=>exact⟨0,r,by omega,rfl,s,rfl,by simp[stepN]⟩);(case round=>obtain⟨k,x,t,rfl,g,rfl,b⟩:=hrel;have j:Hid (x ^^^ c/2 ^ k=stepN k (r ^^^ c)):=b;clear b;by_cases q:k<8;{have f:=zsP x c k g p;by_cases d:(x ^^^ c/2 ^ k)%2=1;{have o:(bits BinOp.and IntKind.u32 (bits BinOp.xor IntKind.u32 (x:Int) ((c:Int)/2 ^ k%4294967296)) 1==1)=true:=by{rw[f,d];rfl};have l:Hid (zgE x c k=(x/2) ^^^ 3988292384):=by{unfold Hid zgE;rw[Em d]};clear f d;go_wp2;(go_round);(case rel=>exact⟨k+1,zgE x c k,by omega,by go_num,zoc c k g,by rw[l.o,zm1 x g],by rw[zn0,j.o];rfl⟩);(case measure=>simp[intOf];omega)};{have o:(bits BinOp.and IntKind.u32 (bits BinOp.xor IntKind.u32 (x:Int) ((c:Int)/2 ^ k%4294967296)) 1==1)=false:=by{rw[f];simp;omega};have l:Hid (zgE x c k=x/2):=by{unfold Hid zgE;rw[Ej d]};clear f d;go_wp2;(go_round);(case rel=>exact⟨k+1,zgE x c k,by omega,by go_num,zoc c k g,by rw[l.o];go_num,by rw[zn0,j.o];rfl⟩);(case measure=>simp[intOf];omega)}};{have m:Hid (x=zsk r c):=by{have h:=j.o;have n:k=8:=by{omega};rw[n,Nat.div_eq_of_lt (by omega),Nat.xor_zero]at h;exact h};go_wp2;go_ret;exact⟨Jt (by rw[m.o]),rfl⟩})
def zwv(n:Nat)(s:zY)(w:zW)(C:s.size<=8000)(l:n<4294967296): Calls prog 244 #[zI n,.string s] w fun e w'=>e=.returned (zI (fin (zgD (fin n) s.data.toList):Nat))/\w'=w:=by have z:¬(4294967295:Int)<n:=by{omega};have r:Hid (bits BinOp.xor IntKind.u32 IntKind.u32.max (n:Int)=((fin n:Nat):Int)):=zqm n l;have o:Hid (fin n<4294967296):=zhb l;go_enter func244,ntmps244;go_wp2;(go_loop [5,6,23] (fun a _ i=>∃k x:Nat,k<=s.size/\i=zI k/\x<4294967296/\a=.int .u32 x/\x=zgD (fin n) (s.data.toList.take k)) (fun _ _ i=>s.size-(intOf i).toNat));(case atStart=>exact⟨0,fin n,Es _,rfl,o.o,by rw[r.o],rfl⟩);(case round=>obtain⟨k,x,B,rfl,c,rfl,b⟩:=hrel;have f:Hid (x=zgD (fin n) (s.data.toList.take k)):=b;clear b;by_cases d:k<s.size;{have j:s[k].toNat<256:=s[k].toNat_lt;have t:Hid (zsk x s[k].toNat=zgD (fin n) (s.data.toList.take (k+1))):=zh0 (by{rw[zkr _ _ _ d,<-f.o]});have q:Hid (zsk x s[k].toNat<4294967296):=zmn c j;(go_wp2_with (go_at_call 260;refine(zwx _ _ _ c j).mono ?_;rintro e w' ⟨rfl,rfl⟩));(go_round);(case rel=>exact⟨k+1,zsk x s[k].toNat,by omega,by go_num,q.o,rfl,t.o⟩);(case measure=>simp[intOf];omega)};{have u:Hid (x=zgD (fin n) s.data.toList):=by{have h:=f.o;rw[E0 (by simp;omega)]at h;exact h};have m:Hid (bits BinOp.xor IntKind.u32 IntKind.u32.max (x:Int)=((fin x:Nat):Int)):=zqm x c;have p:Hid (fin x<4294967296):=zhb c;go_wp2;go_ret;have v:=m.o;have g:=u.o;have y:=p.o;rw[g]at y;exact⟨Jt (by rw[v,g];simp[wrap64];omega),rfl⟩})
def ziH(n:Nat)(s:zY)(w:zW)(Q:s.size<=8000)(u:n<4294967296): Calls prog 191 #[zI n,.string s] w fun e w'=>e=.returned (zI (fin (zgD (fin n) s.data.toList):Nat))/\w'=w:=by have C:Hid (bits BinOp.xor IntKind.u32 (n:Int) 4294967295=((fin n:Nat):Int)):=not_eq n u;have z:Hid (fin n<4294967296):=zhb u;go_enter func191,ntmps191;go_wp2;(go_loop [5,6,7] (fun a i _=>∃k x:Nat,k<=s.size/\i=zI k/\x<4294967296/\a=.int .u32 x/\x=zgD (fin n) (s.data.toList.take k)) (fun _ i _=>s.size-(intOf i).toNat));(case atStart=>exact⟨0,fin n,Es _,rfl,z.o,by rw[C.o],rfl⟩);(case round=>obtain⟨k,x,P,rfl,d,rfl,b⟩:=hrel;have r:Hid (x=zgD (fin n) (s.data.toList.take k)):=b;clear b;by_cases q:k<s.size;{have c:s[k].toNat<256:=s[k].toNat_lt;have D:Hid (zsk x s[k].toNat=zgD (fin n) (s.data.toList.take (k+1))):=zh0 (by{rw[zkr _ _ _ q,<-r.o]});have M:Hid (zsk x s[k].toNat<4294967296):=zmn d c;have p:Hid (x ^^^ s[k].toNat<4294967296):=zg8 d (by omega);have o:Hid (bits BinOp.xor IntKind.u32 (x:Int) (s[k].toNat:Int)=((x ^^^ s[k].toNat:Nat):Int)):=Ug _ _ d (by omega);go_wp2;(go_loop [5,7] (fun a i=>∃j y:Nat,j<=8/\i=zI j/\y<4294967296/\a=.int .u32 y/\y=stepN j (x ^^^ s[k].toNat)) (fun _ i=>8-(intOf i).toNat));(case atStart=>exact⟨0,x ^^^ s[k].toNat,Es _,rfl,p.o,by rw[o.o],rfl⟩);(case round=>obtain⟨j,y,O,rfl,f,rfl,b⟩:=hrel;have l:Hid (y=stepN j (x ^^^ s[k].toNat)):=b;clear b;by_cases L:j<8;{have g:=zzU y f;by_cases c:y%2=1;{have K:(bits BinOp.and IntKind.u32 (y:Int) 1==1)=true:=by{rw[g,c];rfl};have m:Hid (step y=(y/2) ^^^ 3988292384):=by{unfold Hid step;rw[Em c]};clear g c;go_wp2;(go_round);(case rel=>exact⟨j+1,step y,by omega,by go_num,zlO f,by rw[m.o,zm1 y f],by rw[l.o];rfl⟩);(case measure=>simp[intOf];omega)};{have K:(bits BinOp.and IntKind.u32 (y:Int) 1==1)=false:=by{rw[g];simp;omega};have m:Hid (step y=y/2):=by{unfold Hid step;rw[Ej c]};clear g c;go_wp2;(go_round);(case rel=>exact⟨j+1,step y,by omega,by go_num,zlO f,by rw[m.o];go_num,by rw[l.o];rfl⟩);(case measure=>simp[intOf];omega)}};{have F:Hid (y=zgD (fin n) (s.data.toList.take (k+1))):=by{have h:=l.o;have I:j=8:=by{omega};rw[I]at h;exact h.trans D.o};go_wp2;(go_round);(case rel=>exact⟨k+1,y,by omega,by go_num,f,rfl,F.o⟩);(case measure=>simp[intOf];omega)})};{have E:Hid (x=zgD (fin n) s.data.toList):=by{have h:=r.o;rw[E0 (by simp;omega)]at h;exact h};have v:Hid (bits BinOp.xor IntKind.u32 (x:Int) 4294967295=((fin x:Nat):Int)):=not_eq x d;have B:Hid (fin x<4294967296):=zhb d;go_wp2;go_ret;have G:=v.o;have t:=E.o;have H:=B.o;rw[t]at H;exact⟨Jt (by rw[G,t];simp[wrap64];omega),rfl⟩})
def zlW(c:Int)(s:zY):Int:=if s.size<=8000/\0<=c/\c<=4294967295 then (fin (zgD (fin c.toNat) s.data.toList):Nat) else 0
def zi7(n:Nat)(s:zY)(a:s.size<=8000)(b:n<4294967296):zlW n s=(fin (zgD (fin n) s.data.toList):Nat):=by unfold zlW;rw[Em ⟨a,by omega,by omega⟩,Lw]
def ziO(c:Int)(s:zY)(h:¬(s.size<=8000/\0<=c/\c<=4294967295)):zlW c s=0:=by unfold zlW;rw[Ej h]
def zs9(c:Int)(s:zY)(w:zW)(a:s.size<=maxLen): Calls prog 244 #[zI c,.string s] w fun e w'=>e=.returned (zI (zlW c s))/\w'=w:=by unfold maxLen at a;by_cases b:8000<s.size;{go_enter func244,ntmps244;go_wp2;go_ret;exact⟨Jt (ziO c s (by omega)).symm,rfl⟩};{by_cases d:c<0;{go_enter func244,ntmps244;go_wp2;go_ret;exact⟨Jt (ziO c s (by omega)).symm,rfl⟩};{by_cases f:4294967295<c;{go_enter func244,ntmps244;go_wp2;go_ret;exact⟨Jt (ziO c s (by omega)).symm,rfl⟩};{obtain⟨n,rfl⟩:=Er (show 0<=c from by omega);rw[zi7 n s (by omega) (by omega)];exact zwv n s w (by omega) (by omega)}}}
def zsC(s:zY)(w:zW)(a:s.size<=maxLen): Calls prog 223 #[.string s] w fun e w'=>e=.returned (zI (zlW 0 s))/\w'=w:=by go_enter func223,ntmps223;go_wp2_with fail;refine(zs9 0 s _ a).mono ?_;rintro e w' ⟨rfl,rfl⟩;go_wp2;go_ret;exact⟨rfl,rfl⟩
def zar(s:zY):Nat:=fin (zgD (fin 0) s.data.toList)
def zr3(n:Nat):List UInt8:=[UInt8.ofNat (n%256),UInt8.ofNat (n/256%256),UInt8.ofNat (n/65536%256),UInt8.ofNat (n/16777216)]
def zcF(n:Nat):zY:=⟨(zr3 n).toArray⟩
def jO(t:zY):zY:=if t.size<=7996 then t++zcF (zar t) else ⟨#[]⟩
def ze4(s:zY):zar s<4294967296:=zhb (zyl _ _ (zhb (by decide)))
def zav(n:Nat):(zcF n).size=4:=rfl
def zrG(s:zY)(h:s.size<=8000):zlW 0 s=(zar s:Nat):=zi7 0 s h (by decide)
def zuI(q:Nat)(x:Int)(a:(q:Int)=x)(h:q<256):bv (UInt8.ofNat q)=.int .u8 x:=by unfold bv;rw[Nc,Ml (by omega),a]
def zo0(n:Nat)(h:n<4294967296): (#[.int .u8 ((n:Int)%256),.int .u8 ((n:Int)/256%256),.int .u8 ((n:Int)/65536%256),.int .u8 ((n:Int)/16777216)]:Array Value).toList=(zr3 n).map bv:=by simp only[zr3,Fz,Mn];rw[zuI (n%256) ((n:Int)%256) (by omega) (by omega),zuI (n/256%256) ((n:Int)/256%256) (by omega) (by omega),zuI (n/65536%256) ((n:Int)/65536%256) (by omega) (by omega),zuI (n/16777216) ((n:Int)/16777216) (by omega) (by omega)]
def zkJ{src dst:TypeId}(t:TypeId)(u:zW)(n:Nat)(h:n<4294967296)(b:P.underlying src=some (.slice e))(a:P.underlying e=some (.int .u8))(hd:P.underlying dst=some .string):
  (convert src dst (.slice (zx u.heap.size) 4 4)).run P (u.alloc (.cells #[.int .u8 ((n:Int)%256),.int .u8 ((n:Int)/256%256),.int .u8 ((n:Int)/65536%256),.int .u8 ((n:Int)/16777216)] t)) =
   .ok (.string (zcF n)) (u.alloc (.cells #[.int .u8 ((n:Int)%256),.int .u8 ((n:Int)/256%256),.int .u8 ((n:Int)/65536%256),.int .u8 ((n:Int)/16777216)] t)) :=
 zas (P:=P) (zr3 n) 4 (Ep u _) (by rw[zo0 n h];rfl) b a hd
def ziK(n:Nat)(w:zW)(b:n<4294967296): Calls prog 190 #[zI n] w (zB w (.string (zcF n))):=by have a:=zkJ (P:=prog) 5 w n b underlying22 underlying5 underlying9;go_enter func190,ntmps190;go_wp2;go_ret;exact⟨rfl,(Eb _ _).alloc (Ea _) _⟩
def zyH(s:zY)(w:zW)(d:s.size<=8000): Calls prog 205 #[.string s] w (zB w (.string (zcF (zar s)))):=by have a:=JV (zrG s d);have b:=ze4 s;generalize zar s=n at a b ⊢;have c:=zkJ (P:=prog) 269 w n b underlying22 underlying5 underlying9;go_enter func205,ntmps205;go_wp2_with fail;refine(zsC s _ (by unfold maxLen;omega)).mono ?_;rw[a.o];rintro e w' ⟨rfl,f⟩;subst w';go_wp2;refine Ve 5 ?_;rw[Rk];go_wp2;rw[Rk];go_wp2;rw[Rk];go_wp2;rw[Rk];go_wp2;rw[Rk];go_wp2;go_ret;exact⟨rfl,(Eb _ _).alloc (Ea _) _⟩
def zj6(t:zY)(w:zW)(i:t.size<=maxLen): Calls prog 171 #[.string t] w (zB w (.string (jO t))):=by unfold maxLen at i;by_cases h:7996<t.size;{have a:=JV (show jO t=⟨#[]⟩ by unfold jO;rw[Ej (by omega)]);go_enter func171,ntmps171;go_wp2;go_ret;exact⟨qR a.o.symm,Eb _ _⟩};{have a:=JV (show jO t=t++zcF (zar t) by unfold jO;rw[Em (by omega)]);have f:=ze4 t;have c:=zav (zar t);have d:=JV c;clear c;have g:(zcF (zar t)).size<=4:=by{rw[d.o];omega};go_enter func171,ntmps171;go_wp2_with fail;refine(ziH 0 t _ (by omega) (by omega)).mono ?_;rintro e w' ⟨rfl,j⟩;subst w';go_wp2_with fail;refine(ziK (zar t) _ f).mono ?_;rintro e w1 ⟨rfl,b⟩;go_wp2;go_ret;exact⟨qR a.o.symm,b⟩}
def zgq(t:zY)(w:zW)(f:t.size<=maxLen): Calls prog 175 #[.string t] w (zB w (.string (jO t))):=by unfold maxLen at f;by_cases h:7996<t.size;{have b:=JV (show jO t=⟨#[]⟩ by unfold jO;rw[Ej (by omega)]);go_enter func175,ntmps175;go_wp2;go_ret;exact⟨qR b.o.symm,Eb _ _⟩};{have b:=JV (show jO t=t++zcF (zar t) by unfold jO;rw[Em (by omega)]);have d:=JV (zav (zar t));go_enter func175,ntmps175;go_wp2_with fail;refine(zyH t _ (by omega)).mono ?_;rintro e w1 ⟨rfl,a⟩;go_wp2_with fail;refine(JE _ _ _ (by rw[d.o];omega)).mono ?_;rintro e g ⟨rfl,c⟩;go_wp2;go_ret;exact⟨qR b.o.symm,a.trans (c.mono a.size)⟩}
def zl0(k:IntKind)(n:Nat):(madeCells (Value.int k 0).cells (n*1)).toList=(Zl k n (fun _=>0)).toList:=by apply Mb;intro i;by_cases a:i<n;{simp[madeCells,Zl,a,Value.cells,Vp]};{simp[madeCells,Zl,a,Value.cells]}
def zrJ{a e:Nat}(h:w.ownsRow a e 1 (.slice (zx g) n n) n (madeCells (Value.int k 0).cells (n*1)).toList):IsB w g e k n (fun _=>0):=by obtain⟨_,h⟩:=h;rcases h with⟨h,_⟩|⟨l,j,c,i,_,f,_,_,d,b⟩;{simp at h};{simp at i;obtain⟨rfl,rfl⟩:=i;rw[zl0,E0 (by simp[d])]at b;have:c=Zl k n (fun _=>0):=by{simpa using b};rw[this]at f;exact f}
def zjx{a e:Nat}(t:0<n)(h:w.ownsRow a e 1 v n (Zl k n f).toList): ∃g c,v=.slice (zx g) n c/\a<=g/\g<w.heap.size/\∀j,j<n->w.cell? (zA g j)=some (.int k (f j)):=by obtain⟨_,h⟩:=h;rcases h with⟨_,h⟩|⟨g,d,b,s,o,l,q,_,r,i⟩;{omega};{refine⟨g,d,s,o,(Fd.1 l).1,fun j p=>?_⟩;rw[Ed w g j b e (0,0) l];have m:b.toList[j]?=(b.toList.take (n*1))[j]?:=by{rw[Fi (by omega)]};rw[<-E6,m,i,E6];exact zc6 k n f j p}
def zbD(k:IntKind)(n:Nat)(f:Nat->Int):(Zl k n f).toList++[.int k (f n)]=(Zl k (n+1) f).toList:=by simp[Zl,Nq]
def zcb(t:zY)(j:Nat)(h:j<t.size):∃y:UInt8,t[j]=y/\y.toNat=bt t j:=⟨t[j],rfl,znD t j h⟩
def ztF(B:Nat->Nat)(k:Nat)(a b c e:Nat)(f:a=B (4*k))(g:b=B (4*k+1))(h:c=B (4*k+2))(i:e=B (4*k+3))(d:∀j,B j<256): bits BinOp.or IntKind.u32 (bits BinOp.or IntKind.u32 (bits BinOp.or IntKind.u32 ((a:Int)*16777216) ((b:Int)*65536)) ((c:Int)*256)) (e:Int)=((word B k:Nat):Int):=by have l:=d (4*k);have m:=d (4*k+1);have n:=d (4*k+2);have o:=d (4*k+3);rw[<-f]at l;rw[<-g]at m;rw[<-h]at n;rw[<-i]at o;rw[show (a:Int)*16777216=((a*16777216:Nat):Int) by simp,show (b:Int)*65536=((b*65536:Nat):Int) by simp,show (c:Int)*256=((c*256:Nat):Int) by simp];rw[Vk _ _ (by omega) (by omega),Vb 24 (a*16777216) (b*65536) (by omega) (by omega),Vk _ _ (by omega) (by omega),Vb 16 (a*16777216+b*65536) (c*256) (by omega) (by omega),Vk _ _ (by omega) (by omega),Vb 8 (a*16777216+b*65536+c*256) e (by omega) (by omega)];simp only[word,Z2,Pt,<-f,<-g,<-h,<-i];omega
def qY{o:Oper}{K:Act->zW->Prop}{E:Prop}(I:o.guard=none)(s x:Operand)(t:TypeId)(O:o.op=.call { callee:=.builtin .append,args:=#[s,x],argTypes:=#[t,t] })(d:Nat)(e:TypeId)(i:TypeInfo)(z:Value)(size b:Nat)(S:P.underlying t=some (.slice e))(L:P.info? e=some i)(W:i.zero=some z)(l:i.size=size)(B:i.bytes=b)(D:z.cells.size=size)(C:0<size)(v:Value)(n:Nat)(xs:List Value)(R:a.eval s=v)(p:w.ownsRow d e size v n xs)(r:Addr)(m c:Nat)(news:List Value)(V:a.eval x=.slice (some r) m c)(M:news.length=m*size)(k:∀j u,news[j]?=some u->w.cell? (r.add j)=some u)(F:∀u∈news,u.oneCell'=true)(y:n+m<=maxLen)(f:(n+m)*b<=140737488355328)(g:d<=w.heap.size)(h:∀v' w',w'.ownsRow d e size v' (n+m) (xs++news)->w.grownBy w' v.ownBlock->K (a.put o.dst v') w'): if Region.wanted o (yielded q a.tmps)=true then Oper.wp P o a w K Q else E:=by have U:Region.wanted o (yielded q a.tmps)=true:=by{simp[Region.wanted,I]};rw[Em U];exact wp_append_own w s x t O d e i z size b S L W l B D C v n xs R p r m c news V M k F y f g fun v' w' G H _=>h v' w' G H
def zrR(W:zW)(x:Value)(t:TypeId):∀(j:Nat) (u:Value),[x][j]?=some u->(W.alloc (.cells #[x] t)).cell? (((zA W.heap.size 0):Addr).add j)=some u:=by intro j u a;match j,a with|0,a=>{simp at a;subst a;simp[Addr.add]}
def one_cell(k:IntKind)(x:Int):∀u∈[Value.int k x],u.oneCell'=true:=by intro u a;simp at a;subst a;rfl
def JR(W:zW)(a t:Nat)(h:a<=W.heap.size):(W.alloc (.cells #[] t)).ownsRow a t 1 (.slice (zx W.heap.size) 0 0) 0 [] :=
 ⟨rfl,Or.inr ⟨W.heap.size,0,#[],rfl,h,heap_alloc_last W _,Ea _,by decide,rfl,rfl⟩⟩
def zyt{wr:zW}{size:Nat}{o:Obj}(b:Below B w wr)(d:B<=wr.heap.size)(c:wr.ownsRow B e size v n xs)(a:(wr.drew.alloc o).grownBy w1 v.ownBlock):Below B w w1:=by refine(b.drew.alloc d o).grown a (by simp;omega) ?_;intro k f;exact(c.lt k f).1
def zfh{e:Nat}{l:List Oper}(d:P.follows .mixedOrders=true)(c:Region.lexB .any l.toArray=true)
  (h:wpStill P l.toArray w.drew (fun b=>Q .normal b w.drew) l a):(Code.region e l.toArray true).wp P Q a w :=
 wp_region_still_lit d c h
def ZW{e:Nat}{l:List Oper}(n:Nat)(d:P.follows .mixedOrders=true)(c:Region.lexTailB .any l.toArray n=true)
  (h:wpStill P l.toArray w.drew (fun b=>wpList P l.toArray Q (l.drop n) b w.drew) (l.take n) a):(Code.region e l.toArray true).wp P Q a w :=
 wp_region_still_tail n d c h
def zuZ(w:zW):Calls prog 200 #[] w fun e w'=>e=.returned (.slice (zx w.heap.size) 64 64)/\w'=w.alloc (.cells (Zl .u32 64 zxH) 209):=by go_enter func200,ntmps200;go_wp2;go_ret;exact⟨rfl,rfl⟩
def zth(w:zW):Calls prog 167 #[] w fun e w'=>e=.returned (.slice (zx w.heap.size) 8 8)/\w'=w.alloc (.cells (Zl .i64 8 zey) 2):=by go_enter func167,ntmps167;go_wp2;go_ret;exact⟨rfl,rfl⟩
def ze2(w:zW)(base:Nat)(v:Value)(n:Nat)(f:Nat->Nat):Prop :=
 ∃g cap,v=.slice (zx g) n cap/\base<=g/\g<w.heap.size/\n<=cap/\cap<=maxLen/\(∀j,j<n->w.cell? (zA g j)=some (.int .u8 (f j:Nat))) /\
  ∀j,n<=j->j<cap->(w.cell? (zA g j)).isSome=true/\w.frozen? (zA g j)=false
def ze2.congr{a:Nat}{f f':Nat->Nat}(h:ze2 w a v n f)(e:∀j,j<n->f j=f' j):ze2 w a v n f':=by obtain⟨g,b,d,i,k,l,m,o,p⟩:=h;exact⟨g,b,d,i,k,l,m,fun j c=>by rw[o j c,e j c],p⟩
theorem ze2.alloc{a:Nat}{f:Nat->Nat}(h:ze2 w a v n f)(o:Obj):ze2 (w.alloc o) a v n f:=by obtain⟨g,b,i,k,c,l,m,p,q⟩:=h;refine⟨g,b,i,k,by simp;omega,l,m,fun j r=>?_,fun j d e=>?_⟩;{rw[Uu o g j c];exact p j r};{rw[Uu o g j c,World.frozen?_alloc_past o g j c];exact q j d e}
def ze2.below{a:Nat}{f:Nat->Nat}(h:ze2 w a v n f)(b:Below B w w')(t:w.heap.size<=B):ze2 w' a v n f:=by obtain⟨g,c,i,k,l,m,o,q,r⟩:=h;refine⟨g,c,i,k,Fw l b.size,m,o,fun j s=>?_,fun j d e=>?_⟩;{rw[b.cell (p:=zA g j) (show g<B by omega)];exact q j s};{rw[b.cell (p:=zA g j) (show g<B by omega),b.frozen (p:=zA g j) (show g<B by omega)];exact r j d e}
theorem ze2.slice{f:Nat->Nat}(h:ze2 w b v n f):∃g a,v=.slice (zx g) n a/\n<=a:=by obtain⟨g,a,c,_,_,d,_⟩:=h;exact⟨g,a,c,d⟩
def zid(w:zW)(b:Nat)(s:zY)(e:TypeId)(m:s.size<=maxLen)(i:b<=w.heap.size): ze2 (w.drew.alloc (.cells (bytesRow s (grownCap w s.size 0 e)) e ((bytesRow s (grownCap w s.size 0 e)).size,(bytesRow s (grownCap w s.size 0 e)).size+1))) b (.slice (zx w.heap.size) s.size (grownCap w s.size 0 e)) s.size (bt s):=by have d:=Si w s.size 0 e;have c:=N8 w s.size 0 e m;generalize grownCap w s.size 0 e=a at d c;have f:(bytesRow s a).size=a:=by{have:s.data.size=s.size:=rfl;simp[bytesRow];omega};have g:∀j,(w.drew.alloc (.cells (bytesRow s a) e ((bytesRow s a).size,(bytesRow s a).size+1))).cell? (zA w.heap.size j)=(bytesRow s a)[j]?:=fun j=>Ed _ w.heap.size j _ e _ (heap_alloc_last w.drew _);refine⟨w.heap.size,a,rfl,i,by simp,d,c,fun j h=>?_,fun j k l=>?_⟩;{rw[g,bytesRow_at s a j (show j<s.data.size from h)];have:=znD s j h;simp only[<-this];rfl};{rw[g];refine⟨by rw[Oe (by omega)];rfl,?_⟩;unfold World.frozen?;rw[show (w.drew.alloc (.cells (bytesRow s a) e ((bytesRow s a).size,(bytesRow s a).size+1))).heap[((zA w.heap.size j):Addr).block]?=some (.cells (bytesRow s a) e ((bytesRow s a).size,(bytesRow s a).size+1)) from heap_alloc_last w.drew _];simp[f];omega}
def zjD(w:zW)(l:Nat)(t ty e:TypeId)(i:TypeInfo)(Z:P.underlying t=some (.slice e))(Y:P.info? e=some i)(hz:i.zero=some (.int .u8 0))(a:i.size=1)(L:i.bytes=1)(v:Value)(n:Nat)(f:Nat->Nat)(H:ze2 w l v n f)(s:Addr)(c x:Nat)(hx:w.cell? (s.add 0)=some (.int .u8 (x:Nat)))(hn:n+1<=140737488355328)(r:l<=w.heap.size): ∃v' w',(Builtin.append_ #[t,t] ty #[v,.slice (some s) 1 c]).run P w=.ok v' w'/\ze2 w' l v' (n+1) (fun j=>if j=n then x else f j)/\w.grownBy w' v.ownBlock:=by obtain⟨g,b,rfl,Q,R,aa,M,D,I⟩:=H;have o:∀(j:Nat) (u:Value),[Value.int .u8 (x:Nat)][j]?=some u->w.cell? (s.add j)=some u:=by{intro j u d;match j,d with|0,d=>{simp at d;subst d;exact hx}};have G:∀u∈[Value.int .u8 (x:Nat)],u.oneCell'=true:=by{intro u hu;simp at hu;subst hu;rfl};by_cases h:n+1<=b;{have⟨K,W⟩:=I n (Ea _) h;have V:=run_append_room_cells (P:=P) w t ty e i Z Y g 0 n b s 1 c [.int .u8 (x:Nat)] (by simp[a]) o G h (fun j d=>by simp at d;subst d;simpa [a] using K) (fun j d=>by simp at d;subst d;simpa [a] using W);refine⟨_,_,V,?_,⟨rfl,rfl,rfl,?_,?_⟩⟩;{have⟨y,hy⟩:=Option.isSome_iff_exists.1 K;simp only[a,Kj,Kb,World.setCells];refine⟨g,b,rfl,Q,by simpa using R,h,M,fun j d=>?_,fun j S F=>?_⟩;{by_cases q:j=n;{subst q;rw[Uj w _ _ hy];simp};{rw[Kq w _ _ _ (by simp<;>omega),D j (by omega)];simp[q]}};{rw[Kq w _ _ _ (by simp<;>omega),World.frozen?_setCell];exact I j (by omega) F}};{simp[a,World.setCells]};{intro k _ U;simp only[a,World.setCells];exact Ei w _ k _ (by intro q;exact U (by simp[Value.ownBlock,q]))}};{have X:b=n:=by{omega};have V:=Sl (P:=P) w t ty e i (.int .u8 0) Z Y hz (zA g 0) n b ((List.range n).map fun j=>Value.int .u8 (f j:Nat)) (by simp[a]) (fun j u d=>by{have B:((zA g 0):Addr).add j=(zA g j):=by{unfold Addr.add;split<;>simp_all};rw[B];by_cases m:j<n;{simp[m]at d;rw[D j m,d]};{simp[m]at d}}) s 1 c [.int .u8 (x:Nat)] (by simp[a]) o (by omega) (by omega) (by rw[L];exact Pm (by omega) (by omega));have E:=Si w (n+1) b e;have p:=N8 w (n+1) b e (by unfold maxLen;omega);refine⟨_,_,V,?_,⟨rfl,rfl,rfl,by simp,fun k U _=>Un w.drew _ k U⟩⟩;generalize grownCap w (n+1) b e=z at E p;have C:∀(cs:Array Value) (j:Nat),(w.drew.alloc (.cells cs e)).cell? (zA w.heap.size j)=cs[j]?:=fun cs j=>World.cell?_alloc_new w.drew cs e j;have O:∀(cs:Array Value) (j:Nat),(w.drew.alloc (.cells cs e)).frozen? (zA w.heap.size j)=false:=fun cs j=>World.frozen?_alloc_new w.drew cs e j;refine⟨w.heap.size,z,rfl,r,by simp,E,p,fun j d=>?_,fun j S F=>⟨?_,O _ j⟩⟩;{rw[C];by_cases q:j=n;{subst q;simp[U5]};{have m:j<n:=by{omega};simp[U5,m,d,q]}};{rw[C,Oe];{rfl};{simp[Oo,Value.cells];omega}}}
def JC{l:Array Oper}{rest:List Oper}{o:Oper}(q:o.guard=none)(s y:Operand)(t:TypeId)(D:o.op=.call { callee:=.builtin .append,args:=#[s,y],argTypes:=#[t,t] })(b:Nat)(e:TypeId)(i:TypeInfo)(G:P.underlying t=some (.slice e))(B:P.info? e=some i)(L:i.zero=some (.int .u8 0))(g:i.size=1)(p:i.bytes=1)(v:Value)(n:Nat)(f:Nat->Nat)(F:a.eval s=v)(k:ze2 w b v n f)(m:Addr)(c x:Nat)(I:a.eval y=.slice (some m) 1 c)(H:w.cell? (m.add 0)=some (.int .u8 (x:Nat)))(C:n+1<=140737488355328)(d:b<=w.heap.size)(h:∀v' w',ze2 w' b v' (n+1) (fun j=>if j=n then x else f j)->w.grownBy w' v.ownBlock->wpList P l Q rest (a.put o.dst v') w'):wpList P l Q (o :: rest) a w:=by refine Ow q fun K z=>?_;have⟨v',w',E,r,u⟩:=zjD (P:=P) w b t o.type e i G B L g p v n f k m c x H C d;unfold Oper.wp execOp;simp only[D,resolve,invoke,builtin,Mu,Nu,Np,Ng,Fz,Mn,F,I,E];exact z _ _ (h v' w' r u)
def ztv(t:zY)(j:Nat)(h:j<t.size+1):(if j=t.size then 128 else bt t j)=pad t j:=by by_cases e:j=t.size;{subst e;simp[pad,zpN]};{have:j<t.size:=by{omega};simp[pad,zpN,e,this]}
def zvS(t:zY)(n:Nat)(d:t.size<n)(e:n+8<chunks t.size*64):pad t n=0:=by have a:¬n<t.size:=by{omega};have b:¬n=t.size:=by{omega};have c:¬chunks t.size*64<=n+8:=by{omega};simp[pad,zpN,a,b,c]
def zxy(t:zY)(m:Nat)(f:m<8):pad t (chunks t.size*64-8+m)=t.size*8/2 ^ (56-8*m)%256:=by have g:=JJ t.size;have a:¬chunks t.size*64-8+m<t.size:=by{omega};have b:¬chunks t.size*64-8+m=t.size:=by{omega};have c:chunks t.size*64<=chunks t.size*64-8+m+8:=by{omega};have d:chunks t.size*64-1-(chunks t.size*64-8+m)=7-m:=by{omega};have e:8*(7-m)=56-8*m:=by{omega};simp only[pad,zpN,Ej a,Ej b,Em c,d,e]
def zqF(t:zY)(n x:Nat)(a:x=pad t n)(j:Nat):(if j=n then x else pad t j)=pad t j:=by by_cases e:j=n;{subst e;simp[a]};{simp[e]}
def zhF(B a:Nat->Nat)(h:∀j,j<64->B j=a j)(i:Nat)(b:i<16):∀j,j<=4->Z2 B i j=Z2 a i j
 |0,_=>rfl
 |j+1,hj=>by simp only[Z2];rw[zhF B a h i b j (by omega),h _ (by omega)]
def zwy(B a:Nat->Nat)(h:∀j,j<64->B j=a j)(i:Nat):wv B i=wv a i:=by induction i using Nat.strongRecOn with|_ i c=>{by_cases b:i<16;{rw[zxf B i b,zxf a i b];simp only[word];rw[zhF B a h i b 4 (Ea _)]};{rw[zv4 B i b,zv4 a i b,c (i-16) (by omega),c (i-15) (by omega),c (i-7) (by omega),c (i-2) (by omega)]}}
def zkG(B a:Nat->Nat)(s:Nat->Int)(h:∀j,j<64->B j=a j):∀k,zbb B s k=zbb a s k
 |0=>rfl
 |k+1=>by simp only[zbb];rw[zkG B a s h k,zwy B a h k]
def zr9(B a:Nat->Nat)(s:Nat->Int)(h:∀j,j<64->B j=a j):ZN B s=ZN a s:=by funext j;simp only[ZN];rw[zkG B a s h 64]
def zx2(t:zY)(k:Nat)(s:Nat->Int):ZN (bt (zgu 64 (zw1 t k))) s=ZN (zw1 t k) s :=
 zr9 _ _ s (fun j a=>zxO 64 _ j a (zq9 t k j))
def zkg(j:Nat):0<=zey j/\zey j<4294967296:=by by_cases h:j<8;{have:j=0∨j=1∨j=2∨j=3∨j=4∨j=5∨j=6∨j=7:=by{omega};rcases this with rfl|rfl|rfl|rfl|rfl|rfl|rfl|rfl<;>decide};{simp[zey,zsR,List.getD,Lb (show [1779033703,3144134277,1013904242,2773480762,1359893119,2600822924,528734635,(1541459225:Int)].length<=j by simp;omega)]}
def zoI(t:zY)(k j:Nat):0<=shaS t k j/\shaS t k j<4294967296:=by cases k with|zero=>{exact zkg j}|succ k=>{simp only[shaS,ZN];omega}
def zBy(w:zW)(a:Option Addr)(len cap:Nat)(ss:List zY):Prop :=
 (a=none/\len=0/\cap=0/\ss=[]) ∨
 ∃x,a=some x/\len<=cap/\cap<=maxLen/\ss.length=cap/\(∀i,i<ss.length->w.cell? (x.add i)=some (.string (ss.getD i ByteArray.empty)))/\∀s∈ss,s.size<=maxLen
def zen(w:zW)(base:Nat)(e:TypeId)(size:Nat)(v:Value)(n:Nat)(xs:List Value):Prop :=
 (∃b,v=.slice (some b) 0 0/\n=0/\xs=[])∨w.ownsRow base e size v n xs
def zen.below{a:Nat}{size:Nat}(h:zen w a e size v n xs)(b:zU w w'):zen w' a e size v n xs:=by rcases h with h|⟨j,h⟩;{exact .inl h};{refine .inr ⟨j,?_⟩;rcases h with h|⟨g,c,d,k,i,f,rest⟩;{exact .inl h};{exact .inr ⟨g,c,d,k,i,by rw[b.block g (Fd.1 f).1];exact f,rest⟩}}
theorem zen.alloc{a:Nat}{size:Nat}(h:zen w a e size v n xs)(o:Obj):zen (w.alloc o) a e size v n xs :=
 h.below ((Eb _ _).alloc (Ea _) o)
def zfL(w:zW)(d:Nat)(t ty e:TypeId)(i:TypeInfo)(z:Value)(size f:Nat)(I:P.underlying t=some (.slice e))(H:P.info? e=some i)(K:i.zero=some z)(p:i.size=size)(r:i.bytes=f)(x:z.cells.size=size)(F:0<size)(v:Value)(n:Nat)(xs:List Value)(h:zen w d e size v n xs)(a:Addr)(m c:Nat)(news:List Value)(s:news.length=m*size)(o:∀j u,news[j]?=some u->w.cell? (a.add j)=some u)(L:∀u∈news,u.oneCell'=true)(R:0<m)(q:n+m<=maxLen)(g:(n+m)*f<=140737488355328)(l:d<=w.heap.size): ∃v' w',(Builtin.append_ #[t,t] ty #[v,.slice (some a) m c]).run P w=.ok v' w'/\w'.ownsRow d e size v' (n+m) (xs++news)/\∀B,B<=d->Below B w w':=by rcases h with⟨b,rfl,rfl,rfl⟩|h;{subst p;subst r;have y:m<=9223372036854775807:=by{simp only[maxLen]at q;omega};have E:=Sl (P:=P) w t ty e i z I H K b 0 0 [] (by simp) (by simp) a m c news s o (by omega) (by omega) (Pm (by omega) g);refine⟨_,_,E,?_,fun B G=>?_⟩;{have D:=Si w (0+m) 0 e;have C:grownCap w (0+m) 0 e<=maxLen:=N8 w (0+m) 0 e q;refine⟨by simpa using s,.inr ⟨w.heap.size,_,_,rfl,l,Ep w.drew _,D,C,?_,?_⟩⟩;{simp only[Array.size_append,Kf,Oo,x,s,Lc];rw[Kb,<-Ov];congr 1;omega};{simp only[Nt,Lr];rw[show (0+m)*i.size=news.length by rw[Kb,s]];exact N9}};{exact((Eb B w).drew).alloc (by simp;omega) _}};{have⟨v',w',E,M,O,_⟩:=Sy (P:=P) w d t ty e i z size f I H K p r x F v n xs h a m c news s o L q g l;refine⟨v',w',E,M,fun B G=>(Eb B w).grown O (by omega) ?_⟩;intro k Q;exact Fb G (h.lt k Q).1}
def jU(w:zW){rest:List Oper}{o:Oper}(D:o.guard=none)(s x:Operand)(t:TypeId)
  (R:o.op=.call { callee:=.builtin .append,args:=#[s,x],argTypes:=#[t,t] })
  (b:Nat) (e:TypeId) (i:TypeInfo) (z:Value) (size d:Nat) (V:P.underlying t=some (.slice e)) (L:P.info? e=some i) (X:i.zero=some z)
  (l:i.size=size) (C:i.bytes=d) (F:z.cells.size=size) (E:0<size)
  (v:Value) (n:Nat) (xs:List Value) (U:a.eval s=v) (p:zen w b e size v n xs)
  (r:Addr) (m c:Nat) (news:List Value) (W:a.eval x=.slice (some r) m c) (M:news.length=m*size) (k:∀j u,news[j]?=some u->w.cell? (r.add j)=some u) (G:∀u∈news,u.oneCell'=true) (O:0<m)
  (y:n+m<=maxLen) (f:(n+m)*d<=140737488355328) (g:b<=w.heap.size)
  (h:∀v' w',w'.ownsRow b e size v' (n+m) (xs++news)->(∀B,B<=b->Below B w w')->wpList P q Q rest (a.put o.dst v') w'):wpList P q Q (o :: rest) a w :=
 Ow D fun _ K=>by
  have⟨v',w',S,H,I⟩:=zfL (P:=P) w b t o.type e i z size d V L X l C F E v n xs p r m c news M k G O y f g
  unfold Oper.wp execOp;simp only[R,resolve,invoke,builtin,Mu,Nu,Np,Ng,Fz,Mn,U,W,S];exact K _ _ (h v' w' H I)
def zcE(e:TypeId)(W W':zW):Prop:=∀(g:Nat) (cur:Array Value) (t:TypeId),t≠e->W.heap[g]?=some (.cells cur t (0,0))->W'.heap[g]?=some (.cells cur t (0,0))
def zcE.below(h:zU W W'):zcE e W W':=fun g _ _ _ a=>(h.block g (Fd.1 a).1).trans a
def zfW{a size:Nat}(h:W.grownBy W' v.ownBlock)(d:W.ownsRow a e size v n xs):zcE e W W':=fun g j t m b=>by
 rw[h.block g (Fd.1 b).1 (by
  intro c;obtain⟨_,d⟩:=d
  rcases d with⟨f,_⟩|⟨k,i,cs,f,_,l,_⟩
  ·subst f
   simp[Value.ownBlock]at c
  ·subst f
   simp[Value.ownBlock]at c;subst c;rw[l]at b;simp at b
   exact m b.2.symm)]
 exact b
def za9(w:zW)(d:Nat)(t ty e:TypeId)(i:TypeInfo)(z:Value)(size g:Nat)(K:P.underlying t=some (.slice e))(I:P.info? e=some i)(L:i.zero=some z)(p:i.size=size)(r:i.bytes=g)(x:z.cells.size=size)(F:0<size)(v:Value)(n:Nat)(xs:List Value)(f:zen w d e size v n xs)(a:Addr)(m c:Nat)(news:List Value)(s:news.length=m*size)(o:∀j u,news[j]?=some u->w.cell? (a.add j)=some u)(M:∀u∈news,u.oneCell'=true)(R:0<m)(q:n+m<=maxLen)(h:(n+m)*g<=140737488355328)(l:d<=w.heap.size): ∃v' w',(Builtin.append_ #[t,t] ty #[v,.slice (some a) m c]).run P w=.ok v' w'/\w'.ownsRow d e size v' (n+m) (xs++news)/\(∀B,B<=d->Below B w w')/\zcE e w w':=by rcases f with⟨b,rfl,rfl,rfl⟩|f;{subst p;subst r;have y:m<=9223372036854775807:=by{simp only[maxLen]at q;omega};have E:=Sl (P:=P) w t ty e i z K I L b 0 0 [] (by simp) (by simp) a m c news s o (by omega) (by omega) (Pm (by omega) h);refine⟨_,_,E,?_,fun B H=>?_,zcE.below (((Eb _ w).drew).alloc (Ea _) _)⟩;{have D:=Si w (0+m) 0 e;have C:grownCap w (0+m) 0 e<=maxLen:=N8 w (0+m) 0 e q;refine⟨by simpa using s,.inr ⟨w.heap.size,_,_,rfl,l,Ep w.drew _,D,C,?_,?_⟩⟩;{simp only[Array.size_append,Kf,Oo,x,s,Lc];rw[Kb,<-Ov];congr 1;omega};{simp only[Nt,Lr];rw[show (0+m)*i.size=news.length by rw[Kb,s]];exact N9}};{exact((Eb B w).drew).alloc (by simp;omega) _}};{have⟨v',w',E,O,G,_⟩:=Sy (P:=P) w d t ty e i z size g K I L p r x F v n xs f a m c news s o M q h l;refine⟨v',w',E,O,fun B H=>(Eb B w).grown G (by omega) ?_,zfW G f⟩;intro k Q;exact Fb H (f.lt k Q).1}
def Qp(w:zW){rest:List Oper}{o:Oper}(D:o.guard=none)(s x:Operand)(t:TypeId)
  (S:o.op=.call { callee:=.builtin .append,args:=#[s,x],argTypes:=#[t,t] })
  (b:Nat) (e:TypeId) (i:TypeInfo) (z:Value) (size d:Nat) (W:P.underlying t=some (.slice e)) (M:P.info? e=some i) (Y:i.zero=some z)
  (l:i.size=size) (C:i.bytes=d) (F:z.cells.size=size) (E:0<size)
  (v:Value) (n:Nat) (xs:List Value) (V:a.eval s=v) (p:zen w b e size v n xs)
  (r:Addr) (m c:Nat) (news:List Value) (X:a.eval x=.slice (some r) m c) (O:news.length=m*size) (k:∀j u,news[j]?=some u->w.cell? (r.add j)=some u) (G:∀u∈news,u.oneCell'=true) (R:0<m)
  (y:n+m<=maxLen) (f:(n+m)*d<=140737488355328) (g:b<=w.heap.size)
  (h:∀v' w',w'.ownsRow b e size v' (n+m) (xs++news)->(∀B,B<=b->Below B w w')->zcE e w w'->wpList P q Q rest (a.put o.dst v') w'):wpList P q Q (o :: rest) a w :=
 Ow D fun _ L=>by
  have⟨v',w',U,H,I,K⟩:=za9 (P:=P) w b t o.type e i z size d W M Y l C F E v n xs p r m c news O k G R y f g
  unfold Oper.wp execOp;simp only[S,resolve,invoke,builtin,Mu,Nu,Np,Ng,Fz,Mn,V,X,U];exact L _ _ (h v' w' H I K)
def seg(f:Nat->Nat)(a b:Nat):List Nat:=(List.range' a (b-a)).map f
def zCg(a b:Nat)(f g:Nat->Nat):Prop:=(seg g a b).Perm (seg f a b)/\∀i,i<a∨b<=i->g i=f i
def zCQ(a m b:Nat)(f:Nat->Nat):Nat->Nat:=fun k=>
 if k<a then f k else if k<a+(b-m) then f (k-a+m) else if k<b then f (k-(b-m)) else f k
def zCx(p q n:Nat)(f:Nat->Nat):Nat->Nat:=fun k=>
 if p<=k/\k<p+n then f (k-p+q) else if q<=k/\k<q+n then f (k-q+p) else f k
def swp(f:Nat->Nat)(i j:Nat):Nat->Nat:=fun k=>if k=j then f i else if k=i then f j else f k
structure zAw (cl:Nat->Nat->Bool):Prop where
 irrefl:∀x,cl x x=false
 trans:∀x y z,cl x y=true->cl y z=true->cl x z=true
 ntrans:∀x y z,cl x y=false->cl y z=false->cl x z=false
def lx(cl:Nat->Nat->Bool)(x y:Nat):Prop:=cl x y=true∨cl y x=false/\x<y
def zik{c:Nat->Nat->Bool}(h:zAw c){z:Nat}(b:lx c x y)(a:lx c y z):lx c x z:=by rcases b with b|⟨b,f⟩;{rcases a with a|⟨a,d⟩;{exact .inl (h.trans _ _ _ b a)};{cases e:c x z with|true=>{exact .inl e}|false=>{have:=h.ntrans _ _ _ e a;rw[this]at b;cases b}}};{rcases a with a|⟨a,d⟩;{cases e:c x z with|true=>{exact .inl e}|false=>{have:=h.ntrans _ _ _ b e;rw[this]at a;cases a}};{exact .inr ⟨h.ntrans _ _ _ a b,by omega⟩}}
def zve{a:Nat->Nat->Bool}(h:zAw a)(b:lx a x y)(c:lx a y x):False:=by have:=zik h b c;rcases this with e|⟨_,e⟩;{rw[h.irrefl]at e;cases e};{omega}
def zz7{a:Nat->Nat->Bool}(e:a x y=true):lx a x y:=.inl e
def zAV{a:Nat->Nat->Bool}(e:a x y=false)(h:y<x):lx a y x:=.inr ⟨e,h⟩
def zzp(cl:Nat->Nat->Bool)(a b:Nat)(f:Nat->Nat):Prop:=∀i j,a<=i->i<j->j<b->lx cl (f i) (f j)
def Sep(a m b:Nat)(f:Nat->Nat):Prop:=∀i j,a<=i->i<m->m<=j->j<b->f i<f j
open Go.RowKit Go.Sort Go.Proofs
def qv(h:p):Hid p:=h
def dF(d:Array Nat):Nat->Nat:=fun i=>d[i]!
def mixed:prog.follows .mixedOrders=true:=by kernel_rfl
def zCk(T:Nat->zY)(x:Nat):List Value:=[.int .i64 x,.string (T x)]
def encI(x:Nat):List Value:=[.int .i64 x]
section
variable {enc:Nat → List Value} {k:Nat} {w:zW} {blk off:Nat} {d:Array Nat}
end
section
variable {P:Program} {md:Region.Mode} {ops:Array Oper} {w:zW}
def zhI{o:Oper}{c:Act->zW->Prop}(h:∀a,K a->c a w)(b:o.still P a w K):o.wpIn Fence.wide n P a w c Q':=by refine⟨fun _ _=>trivial,?_⟩;unfold Oper.still at b;have e:(o.semAt Fence.wide.round a.eval)=execOp a.eval o:=rfl;rw[e];generalize (execOp a.eval o).run P w=r at b;cases r with|ok i w'=>{cases i with|value v=>{simp only[Oper.stillUpon]at b;obtain⟨rfl,b⟩:=b;exact h _ b}|skip=>{simp only[Oper.stillUpon]at b;obtain⟨rfl,b⟩:=b;exact h _ b}|enter f args=>{simp only[Oper.stillUpon]at b;obtain⟨rfl,v,d,b⟩:=b;refine⟨fun g=>(by cases g),Lo.2 (d.mono ?_)⟩;rintro e j ⟨rfl,rfl⟩;exact h _ b}|_=>{simp only[Oper.stillUpon]at b}}|_=>{simp only[Oper.stillUpon]at b}
def zgG{e:Act->zW->Prop}(h:∀a,K a->e a w)(b:stOp P ops w i K a):wpOpIn Fence.wide n P ops Q' i e a w:=by unfold stOp at b;unfold wpOpIn;split;{rename_i c;simp only[c]at b;exact h _ b};{rename_i o c;simp only[c]at b;split;{rename_i d;simp only[d,if_true]at b;exact zhI h b};{rename_i d;simp only[d]at b;exact⟨fun _ _=>trivial,h _ b⟩}}
def zbl{k:Nat}(c:∀b a,L b a->wpAnyIn Fence.wide k P md ops Q' g b a w):
  ∀(f:Nat) (b:Array Bool) (a:Act),wpAnyL P md ops w n L f b a->wpAnyIn Fence.wide k P md ops Q' (f+g) b a w
 |0,b,a,h=>by rw[Kb];exact c _ _ h
 |f+1,b,a,h=>by
  rw[show f+1+g=(f+g)+1 by omega];exact⟨fun j=>absurd j h.1,fun i l=>zgG (fun d e=>zbl c f _ d e) (h.2 i l).2⟩
def zcp:∀(l:List Oper) (k:Nat) (listed:Array Bool) (a:Act) (w:zW),(∀j,l[j]?=ops[k+j]?) ->
  Region.seqB md ops l.length k listed=true->wpListIn Fence.wide k0 P ops Q' l a w->wpAnyIn Fence.wide k0 P md ops Q' l.length listed a w
 |[],_,_,_,_,_,hB,h=>⟨by simpa [Region.seqB] using hB,h⟩
 |o :: l,k,listed,a,w,hl,hB,h=>by
  have g:ops[k]?=some o:=by simpa using (hl 0).symm
  simp only[Fo,Region.seqB,Fa,Fq]at hB;refine⟨fun c=>(by rw[hB.1]at c;cases c),fun i d=>?_⟩;rw[hB.1]at d
  have b:i=k:=by simpa using d
  subst b
  have m:wpOpIn Fence.wide k0 P ops Q' i (wpListIn Fence.wide k0 P ops Q' l) a w:=by unfold wpOpIn;simp only[g];exact h
  exact wpOpIn_mono (fun e w' f=>zcp l (i+1) _ e w' (fun j=>by have:=hl (j+1);simpa [Pf,Vl 1 j] using this) hB.2 f) m
def qS{l:List Oper}(n:Nat)(x:P.follows .mixedOrders=true)(p:Region.lexTailB .any l.toArray n=true)(h:wpStill P l.toArray w.drew (fun m=>wpListIn Fence.wide k0 P l.toArray Q (l.drop n) m w.drew) (l.take n) a):(Code.region C l.toArray true).wpIn Fence.wide k0 P Q a w:=by simp only[Region.lexTailB,Fa,Fq]at p;obtain⟨⟨⟨⟨f,u⟩,z⟩,v⟩,e⟩:=p;have y:n<l.length:=by{simpa using u};have b:(l.take n).length=n:=by{simp;omega};have d:(l.drop n).length=l.toArray.size-n:=by{simp};have i:HeadInv .any l.toArray n (Array.replicate l.toArray.size false):=⟨by simp,fun j D _ s=>(by rw[getD_replicate_false]at s;cases s),fun t _ B=>getD_in (by simpa using B) (getD_replicate_false _ _)⟩;have H:=wpAnyL_lex (md:=.any) (g:=l.toArray.size-n) f z v u (l.take n) 0 _ a (fun j r=>by{have o:j<n:=by{rw[b]at r;exact r};simp[o]}) (by simpa using b) i (by rw[b];exact e) h;refine wpIn_region_any x ?_;have:=zbl (k:=k0) (Q':=Q) (g:=l.toArray.size-n) (fun c m q=>by{have:=zcp (k0:=k0) (md:=.any) (Q':=Q) (l.drop n) n c m w.drew (fun j=>by simp[Ll]) (by rw[d];exact q.1) q.2;rwa[d]at this}) _ _ _ H;rw[b,show n+(l.toArray.size-n)=l.toArray.size by omega]at this;exact this
end
open Go.RowKit Go.Sort Go.Proofs Go.Shelf
attribute [local go_sem] Rc
def zdf(t:zY)(x:Nat):zY:=t.extract x t.size++t.extract 0 x
def zCn(Bn:Nat)(W W':zW):Prop:=W'.cell? ⟨Bn,0,none⟩=W.cell? ⟨Bn,0,none⟩
def QR(l:List Int):List Int:=l.mergeSort fun x y=>decide (x<=y)
def Qv(l:List Int):(QR l).length=l.length:=List.length_mergeSort ..
def zjs:QR []=[]:=List.mergeSort_nil
def zf9(l:List Int):(QR l).Pairwise (·<=·):=by have h:=List.pairwise_mergeSort (le:=fun x y:Int=>decide (x<=y)) (fun a b c d e=>by simp at d e ⊢;omega) (fun a b=>by simp;omega) l;exact h.imp (fun h=>by simpa using h)
def zgS(l:List Int):(QR l).Perm l:=List.mergeSort_perm ..
def zuz(c:s.Perm l)(d:s.Pairwise (·<=·)):s=QR l :=
 Uk (le:=fun x y:Int=>x<=y) (fun _ _ _ _ a b=>Int.le_antisymm a b) d (zf9 l) (c.trans (zgS l).symm)
def zhK(s:List Int)(x:Int)(k:Nat):List Int:=s.take k++[x]++s.drop k
def zcQ{x:Int}{k:Nat}:(zhK s x k).length=s.length+1:=by unfold zhK;simp;omega
def zxM{x:Int}{k:Nat}(h:s=QR l)(t:k<=s.length)(d:∀(h:0<k),s[k-1]<=x)(n:∀j (f:j<s.length),k<=j->x<s[j]):zhK s x k=QR (l++[x]):=by have m:s.Pairwise (·<=·):=by{rw[h];exact zf9 l};have r:s.Perm l:=by{rw[h];exact zgS l};have p:=Ka.1 m;apply zuz;{unfold zhK;rw[Fr];refine(List.perm_append_comm_assoc _ _ _).trans ?_;rw[M6];exact(Ru).trans (r.append_right _)};{unfold zhK;rw[Lh,Lh];refine⟨⟨m.sublist (Pi _ _),Mz _ _,?_⟩,m.sublist (Rm _ _),?_⟩;{intro a c b g;rw[Ek.1 g];obtain⟨j,f,rfl⟩:=Ff c;rw[Ey]at f;rw[Mc];have o:=d (by omega);by_cases e:j=k-1;{subst e;exact o};{have:=p j (k-1) (by omega) (by omega) (by omega);omega}};{intro a c b g;obtain⟨j,f,rfl⟩:=Ff g;rw[Fh]at f;rw[Mq];have o:=n (k+j) (by omega) (by omega);rcases Fl.1 c with c|c;{obtain⟨i,q,rfl⟩:=Ff c;rw[Ey]at q;rw[Mc];exact p i (k+j) (by omega) (by omega) (by omega)};{rw[Ek.1 c];omega}}}
def zzO(n:Int):unz (zz n)=n:=by unfold zz;split;{rw[zlZ _ (by omega)];omega};{rw[zmP _ (by omega)];omega}
def pow_eq(k:Nat):2 ^ (7*k)=128 ^ k:=by rw[Nat.pow_mul]
def zuy(U:Nat)(l:U<18446744073709551616):QB 9 U<=9/\(∀j,j<QB 9 U->128<=U/128 ^ j)/\U/128 ^ QB 9 U<128:=by have c:∀f u,u/128 ^ f<128->(∀j,j<QB f u->128<=u/128 ^ j)/\u/128 ^ QB f u<128:=by{intro f;induction f with|zero=>{intro u h;exact⟨fun j a=>absurd a (Ko j),by simpa [QB] using h⟩}|succ f k=>{intro u h;unfold QB;split;{rename_i b;exact⟨fun j a=>absurd a (Ko j),by simpa using b⟩};{rename_i i;rw[div_pow]at h;have⟨d,g⟩:=k (u/128) h;refine⟨fun j a=>?_,by rw[div_pow];exact g⟩;match j with|0=>{simpa using (by omega:128<=u)}|j+1=>{rw[div_pow];exact d j (by omega)}}}};refine⟨zfj 9 U,c 9 U ?_⟩;have e:(128:Nat) ^ 9=9223372036854775808:=by{decide};rw[e];omega
def zwu(U k:Nat):U%128 ^ k+U/128 ^ k%128*128 ^ k=U%128 ^ (k+1):=by rw[Kr,Nat.mod_mul,Ni (128 ^ k)]
def dec(s:zY)(U a K:Nat)(y:U<18446744073709551616)(x:K<=9)(c:∀j,j<K->128<=U/128 ^ j)(b:U/128 ^ K<128)(g:a+K<s.size)(p:∀j,j<K->zcD s (a+j)=U/128 ^ j%128+128)(i:zcD s (a+K)=U/128 ^ K): ∀d k,K-k=d->k<=K->qL s (10-k) k (a+k) (U%128 ^ k)=(U,a+K+1,0):=by intro d;induction d with|zero=>{intro k hd q;obtain rfl:k=K:=by{omega};obtain⟨f,l⟩:∃f,10-k=f+1:=⟨9-k,by omega⟩;have e:=zbY s (a+k) g;rw[i]at e;have o:¬(k=9/\1<s[a+k].toNat):=by{rintro⟨rfl,h⟩;rw[e,show (128:Nat) ^ 9=9223372036854775808 from by decide]at h;omega};have u:¬(s[a+k].toNat=0/\0<k):=by{rintro⟨h,r⟩;have w:=c (k-1) (by omega);rw[e,show k=(k-1)+1 from by omega,pow_div]at h;omega};rw[l,ze6 s f k (a+k) _ g o (by rw[e];exact b) u,e,pow_eq,Ml b];have t:U%128 ^ k+U/128 ^ k*128 ^ k=U:=by{rw[Ni];exact Nat.mod_add_div U (128 ^ k)};rw[t]}|succ d v=>{intro k hd q;have m:k<K:=by{omega};obtain⟨f,l⟩:∃f,10-k=f+1:=⟨9-k,by omega⟩;have n:a+k<s.size:=by{omega};have e:=zbY s (a+k) n;rw[p k m]at e;rw[l,zaL s f k (a+k) _ n (by omega) (by omega),e,pow_eq,Nat.add_mod_right,Nat.mod_mod,zwu,show f=10-(k+1) from by omega];exact v (k+1) (by omega) (by omega)}
section
variable {P:Program} {md:Region.Mode} {ops:Array Oper} {w:zW} {l0:Nat}
def zhJ(ops:Array Oper):Prop:=∀(i:Nat) (o:Oper),ops[i]?=some o->∀c,o.op≠.defer c
def zBG(o:Oper):Bool:=match o.op with
 |.defer _=>true
 |_=>false
def zoG{l:List Oper}(h:l.all (fun o=>!zBG o)=true):zhJ l.toArray:=fun i o b c e=>by
 have a:o∈l:=Pn (by simpa using b)
 have:=L6.1 h o a
 unfold zBG at this;rw[e]at this
 cases this
def zjf{o:Oper}{g:Act->zW->Prop}(d:∀c,o.op≠.defer c)(h:∀a,K a->g a w)(b:o.still P a w K):o.wpIn (Fence.wide.inRound l0) n P a w g Q':=by refine⟨fun _ _=>trivial,?_⟩;unfold Oper.still at b;have e:(o.semAt (Fence.wide.inRound l0).round a.eval)=execOp a.eval o:=Oper.semAt_eq _ _ _ d;rw[e];generalize (execOp a.eval o).run P w=r at b;cases r with|ok k w'=>{cases k with|value v=>{simp only[Oper.stillUpon]at b;obtain⟨rfl,b⟩:=b;exact h _ b}|skip=>{simp only[Oper.stillUpon]at b;obtain⟨rfl,b⟩:=b;exact h _ b}|enter f args=>{simp only[Oper.stillUpon]at b;obtain⟨rfl,v,i,b⟩:=b;refine⟨fun j=>(by cases j),CallsIn.inRound l0 (Lo.2 (i.mono ?_))⟩;rintro e l ⟨rfl,rfl⟩;exact h _ b}|_=>{simp only[Oper.stillUpon]at b}}|_=>{simp only[Oper.stillUpon]at b}
def zh6{f:Act->zW->Prop}(d:zhJ ops)(h:∀a,K a->f a w)(b:stOp P ops w i K a):wpOpIn (Fence.wide.inRound l0) n P ops Q' i f a w:=by unfold stOp at b;unfold wpOpIn;split;{rename_i c;simp only[c]at b;exact h _ b};{rename_i o c;simp only[c]at b;split;{rename_i e;simp only[e,if_true]at b;exact zjf (d i o c) h b};{rename_i e;simp only[e]at b;exact⟨fun _ _=>trivial,h _ b⟩}}
def zcn{k:Nat}(c:zhJ ops)(d:∀b a,L b a->wpAnyIn (Fence.wide.inRound l0) k P md ops Q' g b a w):
  ∀(f:Nat) (b:Array Bool) (a:Act),wpAnyL P md ops w n L f b a->wpAnyIn (Fence.wide.inRound l0) k P md ops Q' (f+g) b a w
 |0,b,a,h=>by rw[Kb];exact d _ _ h
 |f+1,b,a,h=>by
  rw[show f+1+g=(f+g)+1 by omega];exact⟨fun l=>absurd l h.1,fun i m=>zh6 c (fun e j=>zcn c d f _ e j) (h.2 i m).2⟩
def zc1:∀(l:List Oper) (k:Nat) (listed:Array Bool) (a:Act) (w:zW),(∀j,l[j]?=ops[k+j]?) ->
  Region.seqB md ops l.length k listed=true->wpListIn (Fence.wide.inRound l0) k0 P ops Q' l a w->wpAnyIn (Fence.wide.inRound l0) k0 P md ops Q' l.length listed a w
 |[],_,_,_,_,_,hB,h=>⟨by simpa [Region.seqB] using hB,h⟩
 |o :: l,k,listed,a,w,hl,hB,h=>by
  have g:ops[k]?=some o:=by simpa using (hl 0).symm
  simp only[Fo,Region.seqB,Fa,Fq]at hB;refine⟨fun c=>(by rw[hB.1]at c;cases c),fun i d=>?_⟩;rw[hB.1]at d
  have b:i=k:=by simpa using d
  subst b
  have m:wpOpIn (Fence.wide.inRound l0) k0 P ops Q' i (wpListIn (Fence.wide.inRound l0) k0 P ops Q' l) a w:=by unfold wpOpIn;simp only[g];exact h
  exact wpOpIn_mono (fun e w' f=>zc1 l (i+1) _ e w' (fun j=>by have:=hl (j+1);simpa [Pf,Vl 1 j] using this) hB.2 f) m
def zbB{D:Nat}{l:List Oper}(n:Nat)(y:P.follows .mixedOrders=true)(p:zhJ l.toArray)(q:Region.lexTailB .any l.toArray n=true)(h:wpStill P l.toArray w.drew (fun m=>wpListIn (Fence.wide.inRound l0) k0 P l.toArray Q (l.drop n) m w.drew) (l.take n) a):(Code.region D l.toArray true).wpIn (Fence.wide.inRound l0) k0 P Q a w:=by simp only[Region.lexTailB,Fa,Fq]at q;obtain⟨⟨⟨⟨f,v⟩,B⟩,x⟩,e⟩:=q;have z:n<l.length:=by{simpa using v};have b:(l.take n).length=n:=by{simp;omega};have d:(l.drop n).length=l.toArray.size-n:=by{simp};have i:HeadInv .any l.toArray n (Array.replicate l.toArray.size false):=⟨by simp,fun j E _ u=>(by rw[getD_replicate_false]at u;cases u),fun t _ C=>getD_in (by simpa using C) (getD_replicate_false _ _)⟩;have H:=wpAnyL_lex (md:=.any) (g:=l.toArray.size-n) f B x v (l.take n) 0 _ a (fun j s=>by{have o:j<n:=by{rw[b]at s;exact s};simp[o]}) (by simpa using b) i (by rw[b];exact e) h;refine wpIn_region_any y ?_;have:=zcn (k:=k0) (Q':=Q) (g:=l.toArray.size-n) p (fun c m r=>by{have:=zc1 (k0:=k0) (md:=.any) (Q':=Q) (l.drop n) n c m w.drew (fun j=>by simp[Ll]) (by rw[d];exact r.1) r.2;rwa[d]at this}) _ _ _ H;rw[b,show n+(l.toArray.size-n)=l.toArray.size by omega]at this;exact this
end
abbrev Tree:=Nat × List Nat
def wt(l:List Tree)(i:Nat):Nat:=(l.getD i (0,[])).1
def least(l:List Tree):Nat->Nat
 |0=>0
 |i+1=>if wt l i<wt l (least l i) then i else least l i
def least_le(l:List Tree):∀i,least l i<=i-1
 |0=>Ea _
 |i+1=>by
  rw[least]
  have:=least_le l i
  split<;>omega
def zdv(l:List Tree)(h:0<l.length):least l l.length<l.length:=by have:=least_le l l.length;omega
def zj5(l:List Tree):∀i j,j<i->wt l (least l i)<=wt l j
 |0,j,h=>by omega
 |i+1,j,h=>by
  rw[least];by_cases a:j=i
  ·subst a
   split<;>omega
  ·have:=zj5 l i j (by omega)
   split<;>omega
def at0(l:List Tree)(i:Nat):Tree:=l.getD i (0,[])
def first(l:List Tree):Tree:=at0 l (least l l.length)
def zeG(l:List Tree):List Tree:=l.eraseIdx (least l l.length)
def second(l:List Tree):Tree:=first (zeG l)
def zlD(l:List Tree):List Tree:=zeG (zeG l)
def both(l:List Tree):Tree:=((first l).1+(second l).1,(first l).2++(second l).2)
def ZI(l:List Tree):List Tree:=zlD l++[both l]
def Jd(l:List Tree)(h:0<l.length):(zeG l).length=l.length-1:=by unfold zeG;rw[M0,Em (zdv l h)]
def zjJ(l:List Tree)(h:2<=l.length):(zlD l).length=l.length-2:=by unfold zlD;rw[Jd _ (by rw[Jd l (by omega)];omega),Jd l (by omega)];omega
def zcG(l:List Tree)(h:2<=l.length):(ZI l).length=l.length-1:=by unfold ZI;rw[Ee,zjJ l h];simp;omega
def Qk(d:List Nat)(s:List Nat):List Nat:=s.foldl (fun d k=>d.set k (d.getD k 0+1)) d
def jY(s:List Nat):∀d,(Qk d s).length=d.length:=by unfold Qk;induction s with|nil=>{intro d;rfl}|cons k s a=>{intro d;rw[Og,a,Fu]}
def zdB(d:List Nat)(k j v:Nat)(a:k<d.length):(d.set k v).getD j 0=if j=k then v else d.getD j 0:=by rw[El,Md];by_cases h:k=j;{subst h;rw[Em rfl,Em a,Em rfl];rfl};{rw[Ej h,Ej (fun e=>h e.symm),El]}
def zr0(s:List Nat):∀(d:List Nat) (j:Nat),s.Nodup->(∀k∈s,k<d.length)->(Qk d s).getD j 0=if j∈s then d.getD j 0+1 else d.getD j 0:=by unfold Qk;induction s with|nil=>{intro d j _ _;simp}|cons k s m=>{intro d j i e;have⟨f,g⟩:=List.nodup_cons.1 i;have c:=e k (Fn ..);rw[Og,m (d.set k (d.getD k 0+1)) j g (fun x l=>by rw[Fu];exact e x (Ex _ l)),zdB _ _ _ _ c];by_cases b:j=k;{subst b;rw[Ej f,Em rfl,Em (Fn ..)]};{rw[Ej b];by_cases a:j∈s;{rw[Em a,Em (Ex _ a)]};{rw[Ej a,Ej (fun h=>by rcases Ew.1 h with h|h;exact b h;exact a h)]}}}
def Z0:Nat->List Tree->List Nat->List Nat
 |0,_,d=>d
 |f+1,l,d=>if l.length<=1 then d else Z0 f (ZI l) (Qk (Qk d (first l).2) (second l).2)
def zuN(f:Nat)(l:List Tree)(d:List Nat)(h:l.length<=1):Z0 f l d=d:=by cases f with|zero=>{rfl}|succ f=>{rw[Z0,Em h]}
def zmx(l:List Tree)(d:List Nat)(h:¬l.length<=1):Z0 l.length l d=Z0 (ZI l).length (ZI l) (Qk (Qk d (first l).2) (second l).2):=by rw[zcG l (by omega)];obtain⟨f,a⟩:∃f,l.length=f+1:=⟨l.length-1,by omega⟩;rw[a,Z0,Ej h];rfl
