import Derived.Deep.QuietTactic
import Derived.Test.YtoojegpaofdbfaaGreatDoorKz7
import Derived.StillTailTactics
import Derived.Test.YtoojegpaofdbfaaGreatDoorKz11
import Derived.Test.YtoojegpaofdbfaaGreatDoorProg
import Derived.Scope
import Derived.WalkMore
import Derived.Laws.OwnMore
import Derived.Shelf.SlSortCmp.InsertionK
import Derived.Test.YtoojegpaofdbfaaGreatDoorKz9
import Derived.Deep.RegionLaw
set_option maxRecDepth 100000
set_option maxHeartbeats 8000000
set_option linter.unusedSimpArgs false
namespace Go.Proofs.YtoojegpaofdbfaaGreatDoor
open Go.RowKit
open Go.Proofs.Tryz
namespace Sh
def rot(x:Int)(k:Nat):Int:=bits BinOp.or IntKind.u32 (x/2 ^ k) (x*2 ^ (32-k)%4294967296)
def zpa(x K:Int):Int:=rot x K.toNat
theorem zpU(a b:Int):bits BinOp.or IntKind.u32 a b=bits BinOp.or IntKind.u32 b a:=by show IntKind.u32.wrap ((BitVec.ofInt 32 a ||| BitVec.ofInt 32 b).toNat:Int)=IntKind.u32.wrap ((BitVec.ofInt 32 b ||| BitVec.ofInt 32 a).toNat:Int);rw[BitVec.or_comm]
theorem ztT(k m:Nat)(a:0<k)(b:0<m)(h:k+m=32):bits BinOp.and IntKind.u64 (IntKind.u64.wrap (-(k:Int))) 31=(m:Int):=by have e:IntKind.u64.wrap (-(k:Int))=((18446744073709551616-k:Nat):Int):=by{simp[IntKind.wrap,IntKind.bits,IntKind.signed];omega};rw[e];have:=Vf (18446744073709551616-k) 31 (by omega) (by decide);rw[nat_mask5]at this;refine Rs this ?_;omega
theorem jW{k:IntKind}{a b:Int}(h:a=b):Ending.returned (.int k a)=.returned (.int k b):=by rw[h]
theorem zfr(x:Int)(k:Nat)(w:zW)(b:0<k)(a:k<32): Calls prog 192 #[.int .u32 x,.int .u64 k] w fun e w'=>e=.returned (.int .u32 (rot x k))/\w'=w:=by go_enter func192,ntmps192;go_wp2;go_ret;exact⟨rfl,rfl⟩
theorem zqi(x:Int)(k m:Nat)(w:zW)(b:0<k)(c:0<m)(h:k+m=32): Calls prog 265 #[.int .u32 x,.int .i64 (-k)] w fun e w'=>e=.returned (.int .u32 (rot x k))/\w'=w:=by have a:Hid (bits BinOp.or IntKind.u32 (x*2 ^ m%4294967296) (x/2 ^ k)=rot x k):=by{unfold Hid rot;rw[zpU];obtain rfl:m=32-k:=by{omega};rfl};have d:=ztT k m b c h;have f:32-(m:Int)=(k:Int):=by{omega};go_enter func265,ntmps265;go_wp2;go_ret;exact⟨jW a.o,rfl⟩
theorem zpJ(x:Int)(k:Nat)(w:zW)(a:0<k)(h:k<32): Calls prog 241 #[.int .u32 x,.int .i64 k] w fun e w'=>e=.returned (.int .u32 (rot x k))/\w'=w:=by go_enter func241,ntmps241;(go_wp2_with fail);refine(zqi x k (32-k) _ a (by omega) (by omega)).mono ?_;rintro e w' ⟨rfl,b⟩;subst w';go_wp2;go_ret;exact⟨rfl,rfl⟩
theorem zdS(x K:Int)(w:zW)(a:0<K)(b:K<32): Calls prog 241 #[.int .u32 x,.int .i64 K] w fun e w'=>e=.returned (.int .u32 (zpa x K))/\w'=w:=by obtain⟨k,rfl⟩:=Em (show 0<=K from by omega);exact zpJ x k w (by omega) (by omega)
theorem zb6(x K:Int)(w:zW)(a:0<K)(b:K<32): Calls prog 192 #[.int .u32 x,.int .u64 K] w fun e w'=>e=.returned (.int .u32 (zpa x K))/\w'=w:=by obtain⟨k,rfl⟩:=Em (show 0<=K from by omega);exact zfr x k w (by omega) (by omega)
def part(B:Nat->Nat)(i:Nat):Nat->Nat
 |0=>0
 |j+1=>part B i j*256+B (4*i+j)
def word(B:Nat->Nat)(i:Nat):Nat:=part B i 4
theorem zhO(B:Nat->Nat)(a:∀j,B j<256)(i:Nat):∀j,part B i j<256 ^ j
 |0=>by simp[part]
 |j+1=>by
  have h:=zhO B a i j;have b:=a (4*i+j);simp only[part,Kb];omega
theorem zsm(B:Nat->Nat)(a:∀j,B j<256)(i j:Nat)(b:j<4):part B i j<16777216:=by have h:=zhO B a i j;have:(256:Nat) ^ j<=256 ^ 3:=Kv (by decide) (by omega);omega
theorem zwt(x b:Nat)(c:x<16777216)(a:b<256):bits BinOp.or IntKind.u32 ((x:Int)*256) (b:Int)=((x*256+b:Nat):Int):=by have:=Va (x*256) b (by omega) (by omega);rw[Sw 8 (x*256) b (by omega) (by omega)]at this;rw[<-this];simp
def sm0(x:Int):Int:=bits BinOp.xor IntKind.u32 (bits BinOp.xor IntKind.u32 (zpa x 7) (zpa x 18)) (x/8)
def sm1(x:Int):Int:=bits BinOp.xor IntKind.u32 (bits BinOp.xor IntKind.u32 (zpa x 17) (zpa x 19)) (x/1024)
def wv(B:Nat->Nat)(i:Nat):Int :=
 if i<16 then (word B i:Nat)
 else (wv B (i-16)+sm0 (wv B (i-15))+wv B (i-7)+sm1 (wv B (i-2)))%4294967296
termination_by i
decreasing_by all_goals omega
theorem zxW(B:Nat->Nat)(i:Nat)(h:i<16):wv B i=(word B i:Nat):=by rw[wv,Ei h]
theorem zvf(B:Nat->Nat)(i:Nat)(h:¬i<16):wv B i=(wv B (i-16)+sm0 (wv B (i-15))+wv B (i-7)+sm1 (wv B (i-2)))%4294967296:=by rw[wv,Eh h]
def znA(B:Nat->Nat)(k:Nat):Nat->Int:=fun j=>if j<k then (word B j:Nat) else 0
def zdG(B:Nat->Nat)(k:Nat):Nat->Int:=fun j=>if j<k then wv B j else 0
theorem zoY(B:Nat->Nat)(k j:Nat):upd (znA B k) k ((part B k 0:Nat):Int) j=znA B k j:=by unfold upd znA part;by_cases e:j=k;{subst e;simp};{simp[e]}
theorem zm7(B:Nat->Nat)(k j:Nat):upd (znA B k) k ((part B k 4:Nat):Int) j=znA B (k+1) j:=by unfold upd znA word;by_cases e:j=k;{subst e;simp};{have:(j<k+1)=(j<k):=propext ⟨fun h=>by omega,fun h=>by omega⟩;simp[e,this]}
theorem zfz(B:Nat->Nat)(j:Nat):znA B 16 j=zdG B 16 j:=by unfold znA zdG;by_cases e:j<16;{rw[Ei e,Ei e,zxW B j e]};{rw[Eh e,Eh e]}
theorem zkO(B:Nat->Nat)(k j:Nat)(v:Int)(a:v=wv B k):upd (zdG B k) k v j=zdG B (k+1) j:=by subst a;unfold upd zdG;by_cases e:j=k;{subst e;simp};{have:(j<k+1)=(j<k):=propext ⟨fun h=>by omega,fun h=>by omega⟩;simp[e,this]}
theorem Qy(B:Nat->Nat)(k j:Nat)(h:j<k):zdG B k j=wv B j:=by simp[zdG,h]
theorem Tryz.size265:(prog.info? 265).map (·.size)=some 64:=by kernel_rfl
theorem zE{p:Prop}(h:p):Hid p:=h
theorem zmA:(#[.int .u32 0,.int .u32 0,.int .u32 0,.int .u32 0,.int .u32 0,.int .u32 0,.int .u32 0,.int .u32 0,.int .u32 0,.int .u32 0,.int .u32 0,.int .u32 0,.int .u32 0,.int .u32 0,.int .u32 0,.int .u32 0,
 .int .u32 0,.int .u32 0,.int .u32 0,.int .u32 0,.int .u32 0,.int .u32 0,.int .u32 0,.int .u32 0,.int .u32 0,.int .u32 0,.int .u32 0,.int .u32 0,.int .u32 0,.int .u32 0,.int .u32 0,.int .u32 0,
 .int .u32 0,.int .u32 0,.int .u32 0,.int .u32 0,.int .u32 0,.int .u32 0,.int .u32 0,.int .u32 0,.int .u32 0,.int .u32 0,.int .u32 0,.int .u32 0,.int .u32 0,.int .u32 0,.int .u32 0,.int .u32 0,
 .int .u32 0,.int .u32 0,.int .u32 0,.int .u32 0,.int .u32 0,.int .u32 0,.int .u32 0,.int .u32 0,.int .u32 0,.int .u32 0,.int .u32 0,.int .u32 0,.int .u32 0,.int .u32 0,.int .u32 0,.int .u32 0]:Array Value)=qN .u32 64 (fun _=>0):=by rfl
theorem zoW(b off c:Nat)(B:Nat->Nat)(w:zW)(P:∀j,B j<256)(hb:b<w.heap.size)(Q:∀j,j<64->w.cell? ⟨b,off+j,none⟩=some (.int .u8 (B j:Nat)))(R:64<=c): Calls prog 240 #[.slice (some ⟨b,off,none⟩) 64 c] w (zB w (.agg (qN .u32 64 (wv B)))):=by have X:=zE Q;have u:=zE P;clear Q P;go_enter func240,ntmps240;go_wp2;(go_loopw [12] (fun i wr=>∃k:Nat,i=.int .i64 k/\k<=16/\IsB wr (w.heap.size+1) 265 .u32 64 (znA B k)/\IsB wr w.heap.size 265 .u32 64 (fun _=>0)/\zU w wr/\wr.heap.size=w.heap.size+2) (fun i _=>16-(intOf i).toNat));(case atStart=>refine⟨0,rfl,by omega,?_,?_,((Eb _ _).alloc (Ea _) _).alloc (by simp) _,by simp⟩;{have:=IsB.of_list (w.alloc (.cells (qN .u32 64 (fun _=>0)) 265)) 265 .u32 64 (znA B 0) _ (zmA.trans (zcb (fun j _=>by simp[znA])));simpa [zmA] using this};{exact(IsB.of_list w 265 .u32 64 (fun _=>0) _ zmA).alloc _});(case round=>obtain⟨k,rfl,hk,d,o,q,y⟩:=hrel;have F:=zE d;have O:=zE o;clear d o;by_cases L:k<16;{have ah:(4*(k:Int)).toNat=4*k:=by{omega};have ai:(4*(k:Int)+4).toNat=4*k+4:=by{omega};go_wp2;(go_loopw [23] (fun j E=>∃m:Nat,j=.int .i64 m/\m<=4/\IsB E (w.heap.size+1) 265 .u32 64 (upd (znA B k) k (part B k m:Nat))/\IsB E w.heap.size 265 .u32 64 (fun _=>0)/\zU w E/\E.heap.size=w.heap.size+2) (fun i _=>4-(intOf i).toNat));(case atStart=>refine⟨0,rfl,by omega,F.o.congr (fun j _=>?_),O.o,q,y⟩;exact(zoY B k j).symm);(case round=>obtain⟨m,rfl,hm,d,o,a,f⟩:=hrel;have D:=zE d;have t:=zE o;by_cases K:m<4;{have H:wr.cell? ⟨w.heap.size+1,k,none⟩=some (.int .u32 (part B k m:Nat)):=by{have:=d.cell (j:=k) (by omega);rwa[zb9]at this};have I:=d.frozen k;have ae:wr.cell? ⟨b,off+4*k+m,none⟩=some (.int .u8 (B (4*k+m):Nat)):=by{rw[a.cell (p:=⟨b,off+4*k+m,none⟩) hb,Oa];exact X.o _ (by omega)};have hx:=zsm B u.o k m K;have G:=u.o (4*k+m);have Y:=zE (zwt _ _ hx G);clear d o;go_wp2;(go_roundw);(case rel=>have:=D.o.set k (part B k (m+1):Nat);rw[zxs]at this;refine⟨m+1,by go_num,by omega,?_,t.o.set_other _ _ (by simp),a.setCell (by simp) _,by simp[f]⟩;rw[Y.o];exact this);(case measure=>simp[intOf];omega)};{obtain rfl:m=4:=by{omega};have V:=zE (d.congr (fun j _=>zm7 B k j));clear d o;go_wp2;(go_roundw);(case rel=>exact⟨k+1,by go_num,by omega,V.o,t.o,a,f⟩);(case measure=>simp[intOf];omega)})};{have W:Hid (IsB wr (w.heap.size+1) 265 .u32 64 (zdG B 16)):=by{have e:k=16:=by{omega};have h:=F.o;rw[e]at h;exact h.congr (fun j _=>zfz B j)};clear F;go_wp2;(go_loopw [7] (fun i wr=>∃k:Nat,i=.int .i64 k/\16<=k/\k<=64/\IsB wr (w.heap.size+1) 265 .u32 64 (zdG B k)/\IsB wr w.heap.size 265 .u32 64 (fun _=>0)/\zU w wr/\wr.heap.size=w.heap.size+2) (fun i _=>64-(intOf i).toNat));(case atStart=>exact⟨16,rfl,by omega,by omega,W.o,O.o,q,y⟩);(case round=>obtain⟨k,rfl,af,ag,d,o,a,f⟩:=hrel;have D:=zE d;have t:=zE o;by_cases L:k<64;{have ac:((k:Int)-15).toNat=k-15:=by{omega};have e2:((k:Int)-2).toNat=k-2:=by{omega};have ad:((k:Int)-16).toNat=k-16:=by{omega};have e7:((k:Int)-7).toNat=k-7:=by{omega};obtain⟨z,l⟩:∃x,x=wv B (k-15):=⟨_,rfl⟩;obtain⟨S,r⟩:∃x,x=wv B (k-2):=⟨_,rfl⟩;obtain⟨C,n⟩:∃x,x=wv B (k-16):=⟨_,rfl⟩;obtain⟨U,s⟩:∃x,x=wv B (k-7):=⟨_,rfl⟩;have Z:Hid ((C+sm0 z+U+sm1 S)%4294967296=wv B k):=by{unfold Hid;rw[zvf B k (by omega),l,r,n,s]};have aa:wr.cell? ⟨w.heap.size+1,k-15,none⟩=some (.int .u32 z):=by{rw[d.cell (by omega),Qy B k _ (by omega),l]};have c2:wr.cell? ⟨w.heap.size+1,k-2,none⟩=some (.int .u32 S):=by{rw[d.cell (by omega),Qy B k _ (by omega),r]};have ab:wr.cell? ⟨w.heap.size+1,k-16,none⟩=some (.int .u32 C):=by{rw[d.cell (by omega),Qy B k _ (by omega),n]};have c7:wr.cell? ⟨w.heap.size+1,k-7,none⟩=some (.int .u32 U):=by{rw[d.cell (by omega),Qy B k _ (by omega),s]};have ck:=d.cell (j:=k) (by omega);have I:=d.frozen k;clear d o l r n s;(go_wp2_with fail);(go_region);(go_wp2_with (go_at_call 241;refine(zdS _ _ _ (by decide) (by decide)).mono ?_;rintro e w' ⟨rfl,hw⟩;subst w'));(go_region);(go_wp2_with fail);(go_roundw);(case rel=>have g:=a.setCell (p:=⟨w.heap.size+1,k,none⟩) (by simp) (.int .u32 (wv B k));have M:(wr.setCell ⟨w.heap.size+1,k,none⟩ (.int .u32 (wv B k))).heap.size=w.heap.size+2:=by{simp[f]};have e:=Z.o;simp only[sm0,sm1]at e;rw[e];exact⟨k+1,by go_num,by omega,by omega,IsB.congr (D.o.set k _) (fun j _=>zkO B k j _ rfl),t.o.set_other ⟨w.heap.size+1,k,none⟩ _ (by simp),⟨g.os,g.tape,g.output,g.size,g.block⟩,M⟩);(case measure=>simp[intOf];omega)};{obtain rfl:k=64:=by{omega};clear d o;(go_wp2_with (first|((with_reducible refine wpList_load_row D.o underlying265 Tryz.size265 ?_ ?_);(· rfl))|((with_reducible refine wpList_store_row t.o Tryz.size265 (zdG B 64) ?_ ?_ ?_);(· rfl);(· rfl))));refine Ec (v:=.agg (qN .u32 64 (zdG B 64))) (zay rfl _ rfl (t.o.row _) underlying265 Tryz.size265) rfl ⟨?_,za8 a (Ea _) _⟩;rw[zcb (fun j hj=>Qy B 64 j hj)]})})
def IsV(w:zW)(g:Nat)(k:IntKind)(n:Nat)(f:Nat->Int):Prop:=∃t fr,w.heap[g]?=some (.cells (qN k n f) t fr)
theorem IsV.cell{w:zW}{g:Nat}{k:IntKind}{n:Nat}{f:Nat->Int}(h:IsV w g k n f){j:Nat}(a:j<n):w.cell? ⟨g,j,none⟩=some (.int k (f j)):=by obtain⟨t,fr,h⟩:=h;rw[El w g j _ t fr h,zbX k n f j a]
theorem IsV.lt{w:zW}{g:Nat}{k:IntKind}{n:Nat}{f:Nat->Int}(h:IsV w g k n f):g<w.heap.size:=by obtain⟨t,fr,h⟩:=h;exact(Ev.1 h).1
theorem IsV.of_heap{w w':zW}{g:Nat}{k:IntKind}{n:Nat}{f:Nat->Int}(h:IsV w g k n f)(e:w'.heap[g]?=w.heap[g]?):IsV w' g k n f:=by obtain⟨t,fr,h⟩:=h;exact⟨t,fr,by rw[e];exact h⟩
theorem IsV.below{w w':zW}{g B:Nat}{k:IntKind}{n:Nat}{f:Nat->Int}(h:IsV w g k n f)(b:Below B w w')(a:g<B):IsV w' g k n f:=h.of_heap (b.block g a)
theorem zgn{P:Program}{w:zW}{b:Array Oper}{rest:List Oper}{a:Act}{Q:Exit->Act->zW->Prop}{d:Tmp}{p:Operand}{ty s:TypeId}{i:String}{j:Array Edge}{g:Nat}{k:IntKind}{n:Nat}{f:Nat->Int}{e:TypeId}(c:IsV w g k n f)(r:P.underlying ty=some (.array n e))(m:(P.info? ty).map (·.size)=some n)(q:a.eval p=.pointer (some ⟨g,0,none⟩))(h:wpList P b Q rest (a.put (some d) (.agg (qN k n f))) w): wpList P b Q (⟨some d,.load ty p,s,i,j,none⟩ :: rest) a w:=by refine N4 rfl fun K l=>?_;obtain⟨t,fr,c⟩:=c;have o:(Instr.loadAt ty (.pointer (some ⟨g,0,none⟩))).run P w=.ok (.agg (qN k n f)) w:=by{simp only[Instr.loadAt,Instr.sureAddr,Nf,Oh,Result.andThen];exact run_loadVar_row w g t ty _ fr _ c r rfl (by rw[Zo];exact m)};unfold Oper.wp;simp[execOp,q,o,Result.andThen];exact l _ _ h
def zzR:List Int:=[1116352408,1899447441,3049323471,3921009573,961987163,1508970993,2453635748,2870763221,3624381080,310598401,607225278,1426881987,1925078388,2162078206,2614888103,3248222580,3835390401,4022224774,264347078,604807628,770255983,1249150122,1555081692,1996064986,2554220882,2821834349,2952996808,3210313671,3336571891,3584528711,113926993,338241895,666307205,773529912,1294757372,1396182291,1695183700,1986661051,2177026350,2456956037,2730485921,2820302411,3259730800,3345764771,3516065817,3600352804,4094571909,275423344,430227734,506948616,659060556,883997877,958139571,1322822218,1537002063,1747873779,1955562222,2024104815,2227730452,2361852424,2428436474,2756734187,3204031479,3329325298]
def zxL(j:Nat):Int:=zzR.getD j 0
def zpf:List Int:=[1779033703,3144134277,1013904242,2773480762,1359893119,2600822924,528734635,1541459225]
def zeu(j:Nat):Int:=zpf.getD j 0
structure St where
 a:Int
 b:Int
 c:Int
 d:Int
 e:Int
 f:Int
 g:Int
 h:Int
def bx(x y:Int):Int:=bits BinOp.xor IntKind.u32 x y
def ba(x y:Int):Int:=bits BinOp.and IntKind.u32 x y
def zyC(e:Int):Int:=bx (bx (zpa e 6) (zpa e 11)) (zpa e 25)
def zzn(a:Int):Int:=bx (bx (zpa a 2) (zpa a 13)) (zpa a 22)
def pick(e f g:Int):Int:=bx (ba e f) (ba (bx IntKind.u32.max e) g)
def ZV(a b c:Int):Int:=bx (bx (ba a b) (ba a c)) (ba b c)
def t1(s:St)(K W:Int):Int:=s.h+zyC s.e+pick s.e s.f s.g+K+W
def t2(s:St):Int:=zzn s.a+ZV s.a s.b s.c
def zlU(s:St)(K W:Int):St:=⟨(t1 s K W+t2 s)%4294967296,s.a,s.b,s.c,(s.d+t1 s K W)%4294967296,s.e,s.f,s.g⟩
def start(s:Nat->Int):St:=⟨s 0,s 1,s 2,s 3,s 4,s 5,s 6,s 7⟩
def run(B:Nat->Nat)(s:Nat->Int):Nat->St
 |0=>start s
 |k+1=>zlU (run B s k) (zxL k) (wv B k)
def St.at(x:St)(j:Nat):Int:=[x.a,x.b,x.c,x.d,x.e,x.f,x.g,x.h].getD j 0
def blk(B:Nat->Nat)(s:Nat->Int)(j:Nat):Int:=(s j+(run B s 64).at j)%4294967296
def zqU(x:St)(s:Nat->Int)(j:Nat):Nat->Int:=fun i=>if i<j then (s i+x.at i)%4294967296 else s i
theorem zpA(x:St)(s:Nat->Int)(i:Nat):s i=zqU x s 0 i:=by simp[zqU]
theorem zxy(x:St)(s:Nat->Int)(j:Nat):zqU x s j j=s j:=by simp[zqU]
theorem zr3(x:St)(s:Nat->Int)(j i:Nat)(a:Nat->Int)(b:a j=(s j+x.at j)%4294967296)(c:∀i,i≠j->a i=zqU x s j i):a i=zqU x s (j+1) i:=by by_cases e:i=j;{subst e;rw[b];simp[zqU]};{rw[c i e];have:(i<j+1)=(i<j):=propext ⟨fun h=>by omega,fun h=>by omega⟩;simp[zqU,this]}
theorem zvD(B:Nat->Nat)(s:Nat->Int)(x:St)(b:x=run B s 64)(i:Nat)(a:i<8):zqU x s 8 i=blk B s i:=by simp[zqU,blk,a,b]
theorem zr7(b g h j a c d i e f:Int): (⟨((i+zyC a+pick a c d+e+f)%4294967296+(zzn b+ZV b g h)%4294967296)%4294967296,b,g,h,(j+(i+zyC a+pick a c d+e+f)%4294967296)%4294967296,a,c,d⟩:St)=zlU ⟨b,g,h,j,a,c,d,i⟩ e f:=by simp[zlU,t1,t2]
theorem zz5(a b c d e f g h:Int)(j:Nat)(k:j<8)(u:zW): (Instr.index 237 (.agg #[.int .u32 a,.int .u32 b,.int .u32 c,.int .u32 d,.int .u32 e,.int .u32 f,.int .u32 g,.int .u32 h]) (.int .i64 (j:Int))).run prog u=.ok (.int .u32 ((⟨a,b,c,d,e,f,g,h⟩:St).at j)) u:=by have i:∀u:zW,(Go.sizeOf 167).run prog u=.ok 1 u:=fun u=>by{kernel_rfl};have:j=0∨j=1∨j=2∨j=3∨j=4∨j=5∨j=6∨j=7:=by{omega};rcases this with rfl|rfl|rfl|rfl|rfl|rfl|rfl|rfl<;>simp[Instr.index,asIntOf,underlying,underlying237,underlying167,Result.andThen,i,St.at,Go.part,isAgg]
def chunks(m:Nat):Nat:=(m+72)/64
def zoH(t:zY)(k j:Nat):Nat :=
 if j<t.size then bt t j else if j=t.size then 128 else if chunks t.size*64<=j+k then t.size*8/2 ^ (8*(chunks t.size*64-1-j))%256 else 0
def pad(t:zY)(j:Nat):Nat:=zoH t 8 j
theorem zwz(t:zY)(k j:Nat):zoH t k j<256:=by unfold zoH;have:=zba t j;split;{exact this};{split;{decide};{split;{exact Pa _ (by decide)};{decide}}}
theorem zvX(t:zY)(j:Nat):pad t j<256:=zwz t 8 j
theorem Jl(m:Nat):m+9<=chunks m*64:=by unfold chunks;omega
theorem za3(m:Nat):chunks m*64<=m+72:=by unfold chunks;omega
theorem zrE(t:zY)(j:Nat):j<chunks t.size*64->upd (fun j=>if j<t.size then ((bt t j:Nat):Int) else 0) t.size 128 j=((zoH t 0 j:Nat):Int):=by intro a;unfold upd zoH;by_cases e:j=t.size;{subst e;simp};{by_cases h:j<t.size;{simp[e,h]};{have:¬chunks t.size*64<=j:=by{omega};simp[e,h,this]}}
theorem zt5(t:zY)(k:Nat)(i:k<8)(v:Int)(f:v=((t.size*8/2 ^ (8*k)%256:Nat):Int))(j:Nat)(g:j<chunks t.size*64): upd (fun j=>((zoH t k j:Nat):Int)) (chunks t.size*64-1-k) v j=((zoH t (k+1) j:Nat):Int):=by subst f;have l:=Jl t.size;unfold upd zoH;by_cases e:j=chunks t.size*64-1-k;{have a:¬j<t.size:=by{omega};have b:¬j=t.size:=by{omega};have c:chunks t.size*64<=j+(k+1):=by{omega};have d:chunks t.size*64-1-j=k:=by{omega};rw[Ei e,Eh a,Eh b,Ei c,d]};{rw[Eh e];have:(chunks t.size*64<=j+(k+1))=(chunks t.size*64<=j+k):=propext ⟨fun h=>by omega,fun h=>by omega⟩;simp only[this]}
def zvF(t:zY)(k j:Nat):Nat:=pad t (64*k+j)
theorem zqF(t:zY)(k j:Nat):zvF t k j<256:=zvX t _
def shaS(t:zY):Nat->Nat->Int
 |0=>zeu
 |k+1=>blk (zvF t k) (shaS t k)
def ziU(s:Nat->Int)(j:Nat):Nat:=(s (j/4)/2 ^ (24-8*(j%4))%256).toNat
theorem zrK(s:Nat->Int)(j:Nat):ziU s j<256:=by unfold ziU;omega
def sha(t:zY):zY:=ZX 32 (ziU (shaS t (chunks t.size)))
theorem zeT(t:zY):(sha t).size=32:=qo 32 _
def zgu(s:Nat->Int)(m j:Nat):Nat:=if j<m then ziU s j else 0
theorem zfB(s:Nat->Int)(m j:Nat)(v:Int)(a:v=((ziU s m:Nat):Int)):upd (fun j=>((zgu s m j:Nat):Int)) m v j=((zgu s (m+1) j:Nat):Int):=by subst a;unfold upd zgu;by_cases e:j=m;{subst e;simp};{have:(j<m+1)=(j<m):=propext ⟨fun h=>by omega,fun h=>by omega⟩;simp[e,this]}
theorem zig(s:Nat->Int):ZX 32 (zgu s 32)=ZX 32 (ziU s):=qE 32 _ _ (fun j a=>by simp[zgu,a])
theorem zxg(s:Nat->Int)(m j:Nat):zgu s m j<256:=by unfold zgu;split;{exact zrK s j};{decide}
theorem zjb(s:Nat->Int)(m:Nat):s (m/4)/2 ^ (24-8*(m%4))%256=((ziU s m:Nat):Int):=by unfold ziU;rw[U5];omega
theorem zeA{P:Program}{w:zW}{b:Array Oper}{rest:List Oper}{a:Act}{Q:Act->Prop}{d:Tmp}{p:Operand}{ty s:TypeId}{c:String}{i:Array Edge}{g:Nat}{t:TypeId}{k:IntKind}{n:Nat}{f:Nat->Int}{e:TypeId}(l:IsB w g t k n f)(r:P.underlying ty=some (.array n e))(m:(P.info? ty).map (·.size)=some n)(q:a.eval p=.pointer (some ⟨g,0,none⟩))(h:wpStill P b w Q rest (a.put (some d) (.agg (qN k n f)))): wpStill P b w Q (⟨some d,.load ty p,s,c,i,none⟩ :: rest) a:=by refine wpStill_step fun K j=>?_;have o:=l.loadAt (P:=P) ty e r m;simp[Region.wanted,Oper.still,Oper.stillUpon,execOp,q,o,Result.andThen];exact j _ h
end Sh
namespace In
def Ints(w:zW)(B:Nat)(a:Option Addr)(l:List Int):Prop :=
 l=[]∨∃b off,a=some ⟨b,off,none⟩/\b<B/\∀j (h:j<l.length),w.cell? ⟨b,off+j,none⟩=some (.int .i64 l[j])
theorem Ints.below{w w':zW}{B:Nat}{a:Option Addr}{l:List Int}(h:Ints w B a l)(e:Below B w w'):Ints w' B a l:=by rcases h with d|⟨b,off,rfl,c,f⟩;{exact .inl d};{exact .inr ⟨b,off,rfl,c,fun j g=>(e.cell (p:=⟨b,off+j,none⟩) c).trans (f j g)⟩}
theorem Ints.mono{w:zW}{B C:Nat}{a:Option Addr}{l:List Int}(h:Ints w B a l)(c:B<=C):Ints w C a l:=by rcases h with e|⟨b,off,rfl,d,f⟩;{exact .inl e};{exact .inr ⟨b,off,rfl,Ey d c,f⟩}
theorem Ints.some{w:zW}{B:Nat}{a:Option Addr}{l:List Int}(h:Ints w B a l)(d:0<l.length): ∃b off,a=.some ⟨b,off,none⟩/\b<B/\∀j (h:j<l.length),w.cell? ⟨b,off+j,none⟩=.some (.int .i64 l[j]):=by rcases h with c|h;{subst c;simp at d};{exact h}
def zdB(l:List Int):Array Value:=(l.map (Value.int .i64)).toArray
def IsI(w:zW)(g:Nat)(t:TypeId)(l:List Int):Prop:=w.heap[g]?=some (.cells (zdB l) t (0,0))
theorem zss(l:List Int):(zdB l).size=l.length:=by simp[zdB]
theorem zmp(l:List Int)(j:Nat)(h:j<l.length):(zdB l)[j]?=some (.int .i64 l[j]):=by simp[zdB,h]
theorem zuP(l:List Int)(i:Nat)(s:Int):(zdB l).setIfInBounds i (.int .i64 s)=zdB (l.set i s):=by simp[zdB,Ub]
theorem IsI.cell{w:zW}{g t:Nat}{l:List Int}(h:IsI w g t l){j:Nat}(a:j<l.length):w.cell? ⟨g,j,none⟩=some (.int .i64 l[j]):=by rw[El w g j _ t (0,0) h,zmp l j a]
theorem IsI.frozen{w:zW}{g t:Nat}{l:List Int}(h:IsI w g t l)(j:Nat):w.frozen? ⟨g,j,none⟩=false:=Ee w g j _ t h
theorem IsI.set{w:zW}{g t:Nat}{l:List Int}(h:IsI w g t l)(i:Nat)(s:Int):IsI (w.setCell ⟨g,i,none⟩ (.int .i64 s)) g t (l.set i s):=by unfold IsI;rw[Ep w g i _ t _ h,zuP]
theorem IsI.set_other{w:zW}{g t:Nat}{l:List Int}(h:IsI w g t l)(a:Addr)(v:Value)(b:g≠a.block):IsI (w.setCell a v) g t l:=by unfold IsI;rw[Et w a g v b];exact h
theorem IsI.lt{w:zW}{g t:Nat}{l:List Int}(h:IsI w g t l):g<w.heap.size:=(Ev.1 h).1
theorem IsI.below{w w':zW}{g t B:Nat}{l:List Int}(h:IsI w g t l)(b:Below B w w')(a:g<B):IsI w' g t l:=by unfold IsI;rw[b.block g a];exact h
theorem IsI.ints{w:zW}{g t B:Nat}{l:List Int}(h:IsI w g t l)(a:g<B):Ints w B (some ⟨g,0,none⟩) l :=
 .inr ⟨g,0,rfl,a,fun j b=>by rw[Ff];exact h.cell b⟩
def mid(l:List Int)(k:Nat):List Int:=l.take k++List.replicate (l.length-k) 0
theorem qe{w:zW}{base e g n:Nat}(h:w.ownsRow base e 1 (.slice (some ⟨g,0,none⟩) n n) n (madeCells (Value.int .i64 0).cells (n*1)).toList):IsI w g e (List.replicate n 0):=by obtain⟨_,h⟩:=h;rcases h with⟨h,_⟩|⟨k,i,b,f,_,d,_,_,c,a⟩;{simp at h};{simp at f;obtain⟨rfl,rfl⟩:=f;have j:(madeCells (Value.int .i64 0).cells (n*1)).toList=(zdB (List.replicate n 0)).toList:=by{rw[K3];have:=Uz (.int .i64 0) n;simp only[zdB,Lv];exact this};rw[j,Ez (by simp[c])]at a;have:b=zdB (List.replicate n 0):=by{simpa using a};rw[this]at d;exact d}
theorem Tryz.infoI2:(prog.info? 2).map (fun i=>(i.zero,i.size,i.bytes))=some (some (.int .i64 0),1,8):=by kernel_rfl
end In
namespace In
open St (Aft)
def IsO(w:zW)(g t:Nat)(l:List Int):Prop:=∃cur:Array Value,w.heap[g]?=some (.cells cur t (0,0))/\∀j (h:j<l.length),cur[j]?=some (.int .i64 l[j])
theorem IsO.cell{w:zW}{g t:Nat}{l:List Int}(h:IsO w g t l){j:Nat}(d:j<l.length):w.cell? ⟨g,j,none⟩=some (.int .i64 l[j]):=by obtain⟨a,b,c⟩:=h;rw[El w g j _ t (0,0) b,c j d]
theorem IsO.frozen{w:zW}{g t:Nat}{l:List Int}(h:IsO w g t l)(j:Nat):w.frozen? ⟨g,j,none⟩=false:=by obtain⟨a,b,_⟩:=h;exact Ee w g j _ t b
theorem IsO.set{w:zW}{g t:Nat}{l:List Int}(h:IsO w g t l)(i:Nat)(s:Int):IsO (w.setCell ⟨g,i,none⟩ (.int .i64 s)) g t (l.set i s):=by obtain⟨a,f,d⟩:=h;refine⟨_,Ep w g i _ t _ f,fun j b=>?_⟩;rw[Kn]at b;rw[Array.getElem?_setIfInBounds,List.getElem_set];have c:j<a.size:=(Ev.1 (d j b)).1;by_cases e:i=j;{subst e;simp[c]};{simp[e,d j b]}
theorem IsO.lt{w:zW}{g t:Nat}{l:List Int}(h:IsO w g t l):g<w.heap.size:=by obtain⟨a,b,_⟩:=h;exact(Ev.1 b).1
theorem IsO.of_heap{w w':zW}{g t:Nat}{l:List Int}(h:IsO w g t l)(e:w'.heap[g]?=w.heap[g]?):IsO w' g t l:=by obtain⟨a,b,c⟩:=h;exact⟨a,by rw[e];exact b,c⟩
theorem IsO.below{w w':zW}{g t B:Nat}{l:List Int}(h:IsO w g t l)(b:Below B w w')(a:g<B):IsO w' g t l:=h.of_heap (b.block g a)
theorem IsO.ints{w:zW}{g t B:Nat}{l:List Int}(h:IsO w g t l)(a:g<B):Ints w B (some ⟨g,0,none⟩) l :=
 .inr ⟨g,0,rfl,a,fun j b=>by rw[Ff];exact h.cell b⟩
theorem IsI.own{w:zW}{g t:Nat}{l:List Int}(h:IsI w g t l):IsO w g t l:=⟨zdB l,h,fun j a=>zmp l j a⟩
def marks(k n:Nat):List Int:=(List.range n).map fun j=>((k+j:Nat):Int)
def zz3(l:List Int)(k i:Nat):List Int:=marks k i++l.drop i
end In
namespace In
open St (Aft)
def zx(w:zW)(base:Nat)(v:Value)(l:List Int):Prop:=w.ownsRow base 2 1 v l.length (l.map (Value.int .i64))
theorem zx.nil(w:zW)(base:Nat):zx w base (.slice none 0 0) []:=Ow w base _ _
theorem zx.split{w:zW}{base:Nat}{v:Value}{l:List Int}(h:zx w base v l): (v=.slice none 0 0/\l=[])∨∃g a,v=.slice (some ⟨g,0,none⟩) l.length a/\base<=g/\l.length<=a/\IsO w g 2 l:=by obtain⟨_,h⟩:=h;rcases h with⟨h,e⟩|⟨g,a,b,o,k,i,c,_,n,d⟩;{exact .inl ⟨h,Fu e⟩};{refine .inr ⟨g,a,o,k,c,b,i,fun j m=>?_⟩;rw[<-Fs];have f:b.toList[j]?=(b.toList.take (l.length*1))[j]?:=by{rw[Fd (by omega)]};rw[f,d];simp[m]}
theorem zx.below{w w':zW}{base:Nat}{v:Value}{l:List Int}(h:zx w base v l)(b:zU w w'):zx w' base v l:=by obtain⟨f,h⟩:=h;refine⟨f,?_⟩;rcases h with h|⟨g,a,c,i,e,d,rest⟩;{exact .inl h};{exact .inr ⟨g,a,c,i,e,by rw[b.block g (Ev.1 d).1];exact d,rest⟩}
theorem zx.mono{w:zW}{base a:Nat}{v:Value}{l:List Int}(h:zx w base v l)(d:a<=base):zx w a v l:=by obtain⟨f,h⟩:=h;refine⟨f,?_⟩;rcases h with h|⟨g,b,c,i,e,rest⟩;{exact .inl h};{exact .inr ⟨g,b,c,i,Fe d e,rest⟩}
theorem zx.ints{w:zW}{base:Nat}{v:Value}{l:List Int}(h:zx w base v l):∃a b,v=.slice a l.length b/\l.length<=b/\Ints w w.heap.size a l:=by rcases h.split with⟨rfl,rfl⟩|⟨g,b,rfl,_,d,c⟩;{exact⟨none,0,rfl,Ea _,.inl rfl⟩};{exact⟨_,b,rfl,d,c.ints c.lt⟩}
theorem zV(W:zW)(s:Int)(t:TypeId):∀(j:Nat) (u:Value),[(Value.int .i64) s][j]?=some u->(W.alloc (.cells #[.int .i64 s] t)).cell? ((⟨W.heap.size,0,none⟩:Addr).add j)=some u:=by intro j u a;match j,a with|0,a=>{simp at a;subst a;simp[Addr.add]}
theorem zD(s:Int):∀u∈[(Value.int .i64) s],u.oneCell'=true:=by intro u a;simp at a;subst a;rfl
theorem zx.snoc{w:zW}{base:Nat}{v:Value}{l:List Int}{s:Int}(h:w.ownsRow base 2 1 v (l.length+1) (l.map (Value.int .i64)++[.int .i64 s])):zx w base v (l++[s]):=by unfold zx;rw[Ek,Fg];exact h
theorem z8{B base:Nat}{e:TypeId}{w0 w w1:zW}{v:Value}{n size:Nat}{xs:List Value}{o:Obj}(b:Below B w0 w)(f:B<=w.heap.size)(d:B<=base)(c:w.ownsRow base e size v n xs)(a:(w.alloc o).grownBy w1 v.ownBlock):Below B w0 w1:=by refine(b.alloc f o).grown a (by simp;omega) ?_;intro k g;exact Fe d (c.lt k g).1
end In
namespace Nu
theorem join_some(a b:zY)(w:zW)(h:a.size+b.size<=1099511627776)(q:¬b=ByteArray.empty): Calls prog 96 #[.string a,.string b] w (zB w (.string (a++b))):=by obtain⟨o,n,i,j,k⟩:=E4 Tryz.infoJ5;go_enter func96,ntmps96;(go_wp2_with (at_make;refine Fi _ rfl (.tmp 10) (.tmp 10) 22 rfl w.heap.size 5 o (.int .u8 0) 1 underlying22 n i j .i64 .i64 _ _ (a.size+b.size) rfl rfl (by simp) (by simp) (by rw[k];omega) (by unfold maxLen;omega) (Ea _) ?_;intro w1 e c;obtain⟨l,f,g⟩:=zd6 e;have d:=(Eb w.heap.size w).grown c (Ea _) (by simp);obtain⟨r,s,c1,c2,p,m⟩:=zht (P:=prog) (ty:=3) (sT:=9) (a:=a) (b:=b) (dp:=some ⟨w.heap.size,a.size,none⟩) (dLen:=b.size) (dCap:=b.size) underlying22 underlying5 underlying9 Tryz.sizeJ5 f g rfl d (fun _=>rfl) (Ea _);clear e c f g d));go_ret;exact⟨rfl,by assumption⟩
theorem join_none(a:zY)(w:zW)(h:a.size<=1099511627776): Calls prog 96 #[.string a,.string ByteArray.empty] w (zB w (.string (a++ByteArray.empty))):=by obtain⟨o,n,i,j,k⟩:=E4 Tryz.infoJ5;go_enter func96,ntmps96;(go_wp2_with (at_make;refine Fi _ rfl (.tmp 10) (.tmp 10) 22 rfl w.heap.size 5 o (.int .u8 0) 1 underlying22 n i j .i64 .i64 _ _ a.size rfl rfl (by simp) (by simp) (by rw[k];omega) (by unfold maxLen;omega) (Ea _) ?_;intro w1 e c;obtain⟨l,f,g⟩:=zd6 e;have d:=(Eb w.heap.size w).grown c (Ea _) (by simp);obtain⟨q,r,c1,c2,p,m⟩:=zht (P:=prog) (ty:=3) (sT:=9) (a:=a) (b:=ByteArray.empty) (dp:=some ⟨w.heap.size,0,none⟩) (dLen:=0) (dCap:=0) underlying22 underlying5 underlying9 Tryz.sizeJ5 f g (by simp) d (by simp) (by simp);clear e c f g d));go_ret;exact⟨zr (by simp),by assumption⟩
theorem jA(a b:zY)(w:zW)(h:a.size+b.size<=1099511627776): Calls prog 96 #[.string a,.string b] w (zB w (.string (a++b))):=by by_cases c:b=ByteArray.empty;{subst c;exact join_none a w (by omega)};{exact join_some a b w h c}
end Nu
namespace Gn
def Jx(s:zY)(p:Nat):Nat:=(s.data.toList.getD p 0).toNat
theorem zb1(s:zY)(p:Nat)(h:p<s.size):s[p].toNat=Jx s p:=by have a:p<s.data.toList.length:=by{simpa using h};unfold Jx;rw[Eg,Ef a];rfl
def run(s:zY):Nat->Nat->Nat->Nat->Nat × Nat × Int
 |0,_,_,_=>(0,0,3)
 |f+1,k,p,u=>
  if s.size<=p then (0,0,4)
  else if k=9/\1<Jx s p then (0,0,3)
  else if Jx s p<128 then (if Jx s p=0/\0<k then (0,0,3) else (u+Jx s p%128*2 ^ (7*k),p+1,0))
  else run s f (k+1) (p+1) (u+Jx s p%128*2 ^ (7*k))
def Jy(s:zY)(a:Nat):Nat × Nat × Int:=run s 10 0 a 0
theorem zd3(s:zY)(f k p u:Nat)(h:s.size<=p):run s (f+1) k p u=(0,0,4):=by rw[run,Ei h]
theorem zmy(s:zY)(f k p u:Nat)(h:p<s.size)(b:k=9)(a:1<s[p].toNat):run s (f+1) k p u=(0,0,3):=by rw[zb1 s p h]at a;rw[run,Eh (by omega),Ei ⟨b,a⟩]
theorem znN(s:zY)(f k p u:Nat)(h:p<s.size)(a:s[p].toNat=0)(b:0<k):run s (f+1) k p u=(0,0,3):=by rw[zb1 s p h]at a;rw[run,Eh (by omega),Eh (by omega),Ei (by omega),Ei ⟨a,b⟩]
theorem ze8(s:zY)(f k p u:Nat)(h:p<s.size)(a:¬(k=9/\1<s[p].toNat))(b:s[p].toNat<128)(c:¬(s[p].toNat=0/\0<k)): run s (f+1) k p u=(u+s[p].toNat%128*2 ^ (7*k),p+1,0):=by rw[zb1 s p h]at b c a ⊢;rw[run,Eh (by omega),Eh a,Ei b,Eh c]
theorem QA(s:zY)(f k p u:Nat)(h:p<s.size)(b:k≠9)(a:128<=s[p].toNat): run s (f+1) k p u=run s f (k+1) (p+1) (u+s[p].toNat%128*2 ^ (7*k)):=by rw[zb1 s p h]at a ⊢;rw[run,Eh (by omega),Eh (by omega),Eh (by omega)]
theorem zmr(k:Nat)(a:k<=9):2 ^ (7*k)<=9223372036854775808:=by have:2 ^ (7*k)<=2 ^ 63:=Kv (by decide) (by omega);exact this
theorem ztE(k:Nat):2 ^ (7*(k+1))=128*2 ^ (7*k):=by rw[show 7*(k+1)=7+7*k by omega,Po]
theorem zhO(c k:Nat):c%128*2 ^ (7*k)<=127*2 ^ (7*k):=Pb _ (by omega)
theorem zik(u c k:Nat)(a:u<2 ^ (7*k)):u+c%128*2 ^ (7*k)<2 ^ (7*(k+1)):=by rw[ztE];have:=zhO c k;omega
theorem zec(u c k:Nat)(d:u<2 ^ (7*k))(b:k<=9)(f:¬(k=9/\1<c)):c%128*2 ^ (7*k)<=9223372036854775808/\u+c%128*2 ^ (7*k)<=18446744073709551615:=by have h:=zmr k b;by_cases e:k=9;{have a:c%128<=1:=by{omega};have:=Pb (2 ^ (7*k)) a;omega};{have g:=zik u c k d;have:=zmr (k+1) (by omega);omega}
theorem zx1(u c k:Nat)(a:u<2 ^ (7*k)):u ||| (c%128*2 ^ (7*k))=u+c%128*2 ^ (7*k):=by rw[Nat.or_comm,Sw (7*k) (c%128*2 ^ (7*k)) u (Nat.mul_mod_left _ _) a,Nat.add_comm]
def unz(u:Nat):Int:=if u%2=1 then -((u/2:Nat):Int)-1 else ((u/2:Nat):Int)
theorem zpY(c k:Nat)(h:c%128*2 ^ (7*k)<=9223372036854775808):IntKind.u64.wrap ((c:Int)%128*2 ^ (7*k))=((c%128*2 ^ (7*k):Nat):Int):=by have e:((c:Int)%128*2 ^ (7*k))=((c%128*2 ^ (7*k):Nat):Int):=by{rw[Int.natCast_mul,Int.natCast_emod,Uk];rfl};rw[e,Nv];omega
theorem zsr(v c k:Nat)(a:c%128*2 ^ (7*k)<=9223372036854775808)(b:v+c%128*2 ^ (7*k)<=18446744073709551615): IntKind.u64.wrap ((v:Int)+IntKind.u64.wrap ((c:Int)%128*2 ^ (7*k)))=((v+c%128*2 ^ (7*k):Nat):Int):=by rw[zpY c k a,Nv];omega
theorem zlH(x:Nat)(h:x%2=1):unz x=-((x/2:Nat):Int)-1:=by unfold unz;rw[Ei h]
theorem zmT(x:Nat)(h:¬x%2=1):unz x=((x/2:Nat):Int):=by unfold unz;rw[Eh h]
theorem zrS(c:Nat)(h:c<256):bits BinOp.and IntKind.u8 (c:Int) 127=((c%128:Nat):Int):=by have:=u8_and_nat c 127 h (by decide);rw[nat_mask7]at this;exact this
theorem ztL(y k:Nat)(h:y*2 ^ (7*k)<=9223372036854775808):IntKind.u64.wrap ((y:Int)*2 ^ (7*k))=((y*2 ^ (7*k):Nat):Int):=by have e:((y:Int)*2 ^ (7*k))=((y*2 ^ (7*k):Nat):Int):=by{rw[Int.natCast_mul,Uk];rfl};rw[e,Nv];omega
theorem zwg(v c k:Nat)(a:v<2 ^ (7*k))(b:c%128*2 ^ (7*k)<=9223372036854775808)(d:v<=9223372036854775807): bits BinOp.or IntKind.u64 (v:Int) ((c%128*2 ^ (7*k):Nat):Int)=((v+c%128*2 ^ (7*k):Nat):Int):=by rw[u64_or_nat v _ (by omega) (by omega),zx1 v c k a]
theorem ziq(x:Nat)(h:x%2=1):-((x:Int)/2)-1=unz x:=by rw[zlH x h];omega
theorem zdw(x:Nat)(h:¬x%2=1):(x:Int)/2=unz x:=by rw[zmT x h];omega
theorem jY{p:Prop}(h:p):Hid p:=h
def outN(n at_ code:Int):Value:=.agg #[.int .i64 n,.int .i64 at_,.int .i64 code]
def zu5(r:Nat × Nat × Int):Value:=if r.2.2=0 then outN (unz r.1) r.2.1 0 else outN 0 0 r.2.2
def zjm(s:zY)(a:Int):Value:=if 8000<s.size then outN 0 0 2 else if a<0 then outN 0 0 1 else zu5 (Jy s a.toNat)
end Gn
namespace Jump
open Go
def zlk(J:Nat->Act->zW->Prop)(Q:Exit->Act->zW->Prop):Exit->Act->zW->Prop
 |.goto l,a,w=>J l a w
 |e,a,w=>Q e a w
theorem ZQ{J:Nat->Act->zW->Prop}{Q:Exit->Act->zW->Prop}:zlk J Q Exit.ret=Q Exit.ret:=rfl
theorem zbp{P:Program}{c:Code}{a:Act}{w:zW}{Q:Exit->Act->zW->Prop}(J:Nat->Act->zW->Prop)(μ:Nat->Act->zW->Nat)(first:c.wp P (zlk J Q) a w)(t:∀l a w,J l a w->∃r,findLabel c l=some r/\r.wp P (zlk (fun q a' w'=>J q a' w'/\μ q a' w' < μ l a w) Q) a w):(Code.scope c).wp P Q a w:=by intro b k u;have C:∀n l a w,μ l a w=n->J l a w->∃r,findLabel c l=some r/\∃e a' w',Q e a' w'/\Arrives P (lone (b.at a (.code r :: .inScope c :: k)) u w) b k u e a' w':=by{intro n;induction n using Nat.strongRecOn with|_ n I=>{intro l a w K E;obtain⟨r,F,H⟩:=t l a w E;refine⟨r,F,?_⟩;obtain⟨e,d,g,j,f⟩:=H b (.inScope c :: k) u;cases e with|normal=>{exact⟨.normal,d,g,j,Steps.trans f (.one step_inScope)⟩}|exit z=>{exact⟨.exit z,d,g,j,fun B y=>f B (by simp[exitTo,y])⟩}|goto q=>{obtain⟨v,G⟩:=j;obtain⟨D,s,o,m,p,i,h⟩:=I _ (by omega) q d g rfl v;have x:gotoIn q (.inScope c :: k)=some (.code D :: .inScope c :: k):=by{simp[gotoIn,s]};exact⟨o,m,p,i,.of_steps (f _ x) h⟩}|ret=>{exact⟨_,d,g,j,f⟩}|panic ch=>{exact⟨_,d,g,j,f⟩}|outgrown=>{exact⟨_,d,g,j,f⟩}}};(obtain⟨e,d,g,j,f⟩:=first b (.inScope c :: k) u);cases e with|normal=>{exact⟨.normal,d,g,j,.head Rt (Steps.trans f (.one step_inScope))⟩}|exit z=>{exact⟨.exit z,d,g,j,fun B y=>.head Rt (f B (by simp[exitTo,y]))⟩}|goto q=>{obtain⟨D,s,o,m,p,i,h⟩:=C _ q d g rfl j;have x:gotoIn q (.inScope c :: k)=some (.code D :: .inScope c :: k):=by{simp[gotoIn,s]};exact⟨o,m,p,i,.of_steps (.head Rt (f _ x)) h⟩}|ret=>{exact⟨_,d,g,j,.of_steps (.one Rt) f⟩}|panic ch=>{exact⟨_,d,g,j,.of_steps (.one Rt) f⟩}|outgrown=>{exact⟨_,d,g,j,.of_steps (.one Rt) f⟩}
end Jump
namespace Hf
abbrev Tree:=Nat × List Nat
def wt(l:List Tree)(i:Nat):Nat:=(l.getD i (0,[])).1
def least(l:List Tree):Nat->Nat
 |0=>0
 |i+1=>if wt l i<wt l (least l i) then i else least l i
theorem least_le(l:List Tree):∀i,least l i<=i-1
 |0=>Ea _
 |i+1=>by
  rw[least]
  have:=least_le l i
  split<;>omega
theorem zcZ(l:List Tree)(h:0<l.length):least l l.length<l.length:=by have:=least_le l l.length;omega
theorem zki(l:List Tree):∀i j,j<i->wt l (least l i)<=wt l j
 |0,j,h=>by omega
 |i+1,j,h=>by
  rw[least];by_cases a:j=i
  ·subst a
   split<;>omega
  ·have:=zki l i j (by omega)
   split<;>omega
def at0(l:List Tree)(i:Nat):Tree:=l.getD i (0,[])
def first(l:List Tree):Tree:=at0 l (least l l.length)
def zey(l:List Tree):List Tree:=l.eraseIdx (least l l.length)
def second(l:List Tree):Tree:=first (zey l)
def zjX(l:List Tree):List Tree:=zey (zey l)
def both(l:List Tree):Tree:=((first l).1+(second l).1,(first l).2++(second l).2)
def join(l:List Tree):List Tree:=zjX l++[both l]
theorem QB(l:List Tree)(h:0<l.length):(zey l).length=l.length-1:=by unfold zey;rw[Mk,Ei (zcZ l h)]
theorem zkK(l:List Tree)(h:2<=l.length):(zjX l).length=l.length-2:=by unfold zjX;rw[QB _ (by rw[QB l (by omega)];omega),QB l (by omega)];omega
theorem zcJ(l:List Tree)(h:2<=l.length):(join l).length=l.length-1:=by unfold join;rw[Ek,zkK l h];simp;omega
def qR(d:List Nat)(s:List Nat):List Nat:=s.foldl (fun d k=>d.set k (d.getD k 0+1)) d
theorem qg(s:List Nat):∀d,(qR d s).length=d.length:=by unfold qR;induction s with|nil=>{intro d;rfl}|cons k s a=>{intro d;rw[No,a,Kn]}
theorem zbL(d:List Nat)(k j v:Nat)(a:k<d.length):(d.set k v).getD j 0=if j=k then v else d.getD j 0:=by rw[Eg,N7];by_cases h:k=j;{subst h;rw[Ei rfl,Ei a,Ei rfl];rfl};{rw[Eh h,Eh (fun e=>h e.symm),Eg]}
theorem zp6(s:List Nat):∀(d:List Nat) (j:Nat),s.Nodup->(∀k∈s,k<d.length)->(qR d s).getD j 0=if j∈s then d.getD j 0+1 else d.getD j 0:=by unfold qR;induction s with|nil=>{intro d j _ _;simp}|cons k s m=>{intro d j i e;obtain⟨f,g⟩:=List.nodup_cons.1 i;have c:=e k (E6 ..);rw[No,m (d.set k (d.getD k 0+1)) j g (fun x l=>by rw[Kn];exact e x (E0 _ l)),zbL _ _ _ _ c];by_cases b:j=k;{subst b;rw[Eh f,Ei rfl,Ei (E6 ..)]};{rw[Eh b];by_cases a:j∈s;{rw[Ei a,Ei (E0 _ a)]};{rw[Eh a,Eh (fun h=>by rcases Ex.1 h with h|h;exact b h;exact a h)]}}}
def run:Nat->List Tree->List Nat->List Nat
 |0,_,d=>d
 |f+1,l,d=>if l.length<=1 then d else run f (join l) (qR (qR d (first l).2) (second l).2)
theorem znk(f:Nat)(l:List Tree)(d:List Nat)(h:l.length<=1):run f l d=d:=by cases f with|zero=>{rfl}|succ f=>{rw[run,Ei h]}
theorem QA(l:List Tree)(d:List Nat)(h:¬l.length<=1):run l.length l d=run (join l).length (join l) (qR (qR d (first l).2) (second l).2):=by rw[zcJ l (by omega)];obtain⟨f,a⟩:∃f,l.length=f+1:=⟨l.length-1,by omega⟩;rw[a,run,Eh h];rfl
def fib:Nat->Nat
 |0=>0
 |1=>1
 |n+2=>fib n+fib (n+1)
theorem zyJ(n:Nat):fib n<=fib (n+1):=by cases n with|zero=>{decide}|succ n=>{rw[show fib (n+1+1)=fib n+fib (n+1) from rfl];omega}
theorem zvi{m n:Nat}(h:m<=n):fib m<=fib n:=by induction n with|zero=>{have:m=0:=by{omega};rw[this];exact Ea _}|succ n b=>{by_cases a:m=n+1;{rw[a];exact Ea _};{exact Fe (b (by omega)) (zyJ n)}}
def dep(d:List Nat)(s:Nat):Nat:=d.getD s 0
def sep(d:List Nat)(t u:Tree):Prop:=(∀s∈t.2,fib (dep d s+1)<=u.1)/\(∀s∈u.2,fib (dep d s+1)<=t.1)/\∀s∈t.2,s ∉ u.2
theorem ztZ{d:List Nat}{t u:Tree}(h:sep d t u):sep d u t:=⟨h.2.1,h.1,fun s a b=>h.2.2 s b a⟩
structure Inv (l:List Tree) (d:List Nat) (n:Nat):Prop where
 own:∀t∈l,∀s∈t.2,fib (dep d s+2)<=t.1
 nd:∀t∈l,t.2.Nodup
 lt:∀t∈l,∀s∈t.2,s<d.length
 pw:l.Pairwise (sep d)
 sum:(l.map (·.1)).sum=n
 o:∀s,(∀t∈l,s ∉ t.2)->dep d s=0
theorem Inv.perm{l b:List Tree}{d:List Nat}{n:Nat}(h:Inv l d n)(p:l.Perm b):Inv b d n :=
 ⟨fun t a=>h.own t (p.mem_iff.2 a),fun t a=>h.nd t (p.mem_iff.2 a),fun t a=>h.lt t (p.mem_iff.2 a),(p.pairwise_iff ztZ).1 h.pw,(p.map _).sum_nat.symm.trans h.sum,fun s c=>h.o s fun t a=>c t (p.mem_iff.1 a)⟩
theorem zsh(l:List Tree)(h:0<l.length):first l=l[least l l.length]'(zcZ l h):=by (unfold first at0);rw[Eg,Ef (zcZ l h)];rfl
theorem zhb:∀(l:List Tree) (i:Nat) (h:i<l.length),l.Perm (l[i] :: l.eraseIdx i)
 |[],i,h=>absurd h (Kd i)
 |_ :: _,0,_=>Pr _
 |x :: l,i+1,h=>((zhb l i (Ps h)).cons x).trans (List.Perm.swap _ _ _)
theorem zqE:∀(l:List Nat) (x:Nat),x∈l->x<=l.sum
 |[],x,h=>absurd h (Fk)
 |y :: l,x,h=>by
  rw[Kg]
  rcases Ex.1 h with rfl|h
  ·omega
  ·have:=zqE l x h
   omega
theorem zd5(l:List Tree)(h:0<l.length):l.Perm (first l :: zey l):=by rw[zsh l h];exact zhb l _ (zcZ l h)
theorem zkt(l:List Tree)(t:Tree)(b:t∈l):(first l).1<=t.1:=by obtain⟨j,a,rfl⟩:=Fn b;have:=zki l l.length j a;unfold wt at this;rw[show (l.getD j (0,[]))=l[j] by rw[Eg,Ef a];rfl]at this;exact this
theorem QY(l:List Tree)(h:2<=l.length):l.Perm (first l :: second l :: zjX l) :=
 (zd5 l (by omega)).trans ((zd5 (zey l) (by rw[QB l (by omega)];omega)).cons _)
theorem zbt(l:List Tree):(join l).Perm (both l :: zjX l):=Oq
theorem zri(d a b:List Nat)(g:a.Nodup)(i:b.Nodup)(f:∀s∈a,s ∉ b)(l:∀s∈a,s<d.length)(lb:∀s∈b,s<d.length)(s:Nat):dep (qR (qR d a) b) s=if s∈a++b then dep d s+1 else dep d s:=by unfold dep;rw[zp6 b _ s i (fun k j=>by rw[qg];exact lb k j),zp6 a d s g l];by_cases c:s∈a;{rw[Eh (f s c),Ei c,Ei (Ml _ c)]};{by_cases e:s∈b;{rw[Ei e,Eh c,Ei (Md _ e)]};{rw[Eh e,Eh c,Eh (fun h=>by rcases Fl.1 h with h|h;exact c h;exact e h)]}}
theorem Inv.two{a b:Tree}{r:List Tree}{d:List Nat}{n:Nat}(h:Inv (a :: b :: r) d n)(C:∀c∈r,a.1<=c.1/\b.1<=c.1):Inv ((a.1+b.1,a.2++b.2) :: r) (qR (qR d a.2) b.2) n:=by have p:a∈a :: b :: r:=E6 ..;have q:b∈a :: b :: r:=E0 _ (E6 ..);have z:∀c∈r,c∈a :: b :: r:=fun c j=>E0 _ (E0 _ j);obtain⟨v,B⟩:=Na.1 h.pw;obtain⟨D,I⟩:=Na.1 B;have l:=v b (E6 ..);have hd:=zri d a.2 b.2 (h.nd a p) (h.nd b q) l.2.2 (h.lt a p) (h.lt b q);have u:(qR (qR d a.2) b.2).length=d.length:=by{rw[qg,qg]};have i:∀c∈r,∀s∈c.2,dep (qR (qR d a.2) b.2) s=dep d s:=fun c j s f=>by{rw[hd,Eh];intro o;rcases Fl.1 o with o|o;{exact(v c (E0 _ j)).2.2 s o f};{exact(D c j).2.2 s o f}};refine⟨?_,?_,?_,?_,?_,?_⟩;{intro t g s f;rcases Ex.1 g with rfl|g;{rw[hd,Ei f,show fib (dep d s+1+2)=fib (dep d s+1)+fib (dep d s+2) from rfl];show _<=a.1+b.1;rcases Fl.1 f with f|f;{have F:=l.1 s f;have G:=h.own a p s f;omega};{have F:=l.2.1 s f;have G:=h.own b q s f;omega}};{rw[i t g s f];exact h.own t (z t g) s f}};{intro t g;rcases Ex.1 g with rfl|g;{exact List.nodup_append.2 ⟨h.nd a p,h.nd b q,fun x o y H e=>l.2.2 x o (e ▸ H)⟩};{exact h.nd t (z t g)}};{intro t g s f;rw[u];rcases Ex.1 g with rfl|g;{rcases Fl.1 f with f|f;{exact h.lt a p s f};{exact h.lt b q s f}};{exact h.lt t (z t g) s f}};{refine Na.2 ⟨fun c j=>⟨?_,?_,?_⟩,?_⟩;{intro s f;rw[hd,Ei f];rcases Fl.1 f with f|f;{exact Fe (h.own a p s f) (C c j).1};{exact Fe (h.own b q s f) (C c j).2}};{intro s f;rw[i c j s f];have:=(v c (E0 _ j)).2.1 s f;show _<=a.1+b.1;omega};{intro s f k;rcases Fl.1 f with f|f;{exact(v c (E0 _ j)).2.2 s f k};{exact(D c j).2.2 s f k}};{refine List.Pairwise.imp_of_mem ?_ I;intro c E j k f;refine⟨fun s x=>?_,fun s x=>?_,f.2.2⟩;{rw[i c j s x];exact f.1 s x};{rw[i E k s x];exact f.2.1 s x}}};{have:=h.sum;simp only[Ka,Kg]at this ⊢;omega};{intro s f;have w:=f _ (E6 ..);rw[hd,Eh w];refine h.o s fun t g m=>?_;rcases Ex.1 g with rfl|g;{exact w (Ml _ m)};{rcases Ex.1 g with rfl|g;{exact w (Md _ m)};{exact f t (E0 _ g) m}}}
theorem Inv.join{l:List Tree}{d:List Nat}{n:Nat}(h:Inv l d n)(a:2<=l.length):Inv (join l) (qR (qR d (first l).2) (second l).2) n:=by refine Inv.perm (Inv.two (h.perm (QY l a)) fun c b=>⟨?_,?_⟩) (zbt l).symm;{exact zkt l c ((QY l a).mem_iff.2 (E0 _ (E0 _ b)))};{refine zkt (zey l) c ?_;have e:=zd5 (zey l) (by rw[QB l (by omega)];omega);exact e.mem_iff.2 (E0 _ b)}
theorem Inv.bound{l:List Tree}{d:List Nat}{n:Nat}(h:Inv l d n)(s:Nat):dep d s=0∨fib (dep d s+2)<=n:=by by_cases c:∀t∈l,s ∉ t.2;{exact .inl (h.o s c)};{refine .inr ?_;obtain⟨t,f⟩:∃t,¬(t∈l->s ∉ t.2):=Classical.not_forall.1 c;obtain⟨b,a⟩:t∈l/\s∈t.2:=⟨Ly fun e=>f fun h=>absurd h e,Ly fun e=>f fun _=>e⟩;refine Fe (h.own t b s a) ?_;rw[<-h.sum];exact zqE _ _ (Ft.2 ⟨t,b,rfl⟩)}
theorem zgg(f:Nat):∀(l:List Tree) (d:List Nat) (n:Nat),Inv l d n->∀s,dep (run f l d) s=0∨fib (dep (run f l d) s+2)<=n:=by induction f with|zero=>{intro l d n h s;exact h.bound s}|succ f a=>{intro l d n h s;rw[run];split;{exact h.bound s};{exact a _ _ _ (h.join (by omega)) s}}
theorem zoS(f:Nat):∀(l:List Tree) (d:List Nat),(run f l d).length=d.length:=by induction f with|zero=>{intro l d;rfl}|succ f a=>{intro l d;rw[run];split;{rfl};{rw[a,qg,qg]}}
def trees(c:List Nat):Nat->List Tree
 |0=>[]
 |i+1=>if 0<c.getD i 0 then trees c i++[(c.getD i 0,[i])] else trees c i
theorem JB(c:List Nat):∀i,(trees c i).length<=i
 |0=>Ea _
 |i+1=>by
  rw[trees]
  have:=JB c i
  split
  ·rw[Ek]
   simp;exact this
  ·omega
theorem jZ(c:List Nat):∀i t,t∈trees c i->∃j,j<i/\0<c.getD j 0/\t=(c.getD j 0,[j])
 |0,t,h=>absurd h (Fk)
 |i+1,t,h=>by
  rw[trees]at h
  split at h
  ·rcases Fl.1 h with h|h
   ·obtain⟨j,b,a⟩:=jZ c i t h
    exact⟨j,by omega,a⟩
   ·exact⟨i,by omega,by assumption,Ej.1 h⟩
  ·obtain⟨j,b,a⟩:=jZ c i t h
   exact⟨j,by omega,a⟩
def zeros(n:Nat):List Nat:=List.replicate n 0
theorem Zh(n s:Nat):dep (zeros n) s=0:=by unfold dep zeros;rw[Eg,Nn];split<;>rfl
theorem zs7(c:List Nat)(i:Nat)(h:i<c.length):(c.take (i+1)).sum=(c.take i).sum+c.getD i 0:=by rw[Ll,Ef h,Rh,Eg,Ef h];simp
theorem zbG(c:List Nat):∀i,i<=c.length->Inv (trees c i) (zeros c.length) (c.take i).sum
 |0,_=>⟨fun t h=>absurd h (Fk),fun t h=>absurd h (Fk),fun t h=>absurd h (Fk),List.Pairwise.nil,rfl,fun s _=>Zh _ _⟩
 |i+1,h=>by
  have k:=zbG c i (by omega);rw[zs7 c i (by omega),trees];by_cases b:0<c.getD i 0
  ·rw[Ei b]
   refine⟨?_,?_,?_,?_,?_,fun s _=>Zh _ _⟩
   ·intro t a s e
    rw[Zh];obtain⟨j,_,d,rfl⟩:=jZ c (i+1) t (by rw[trees,Ei b];exact a);exact d
   ·intro t a
    obtain⟨j,_,d,rfl⟩:=jZ c (i+1) t (by rw[trees,Ei b];exact a);simp
   ·intro t a s e
    obtain⟨j,f,d,rfl⟩:=jZ c (i+1) t (by rw[trees,Ei b];exact a);rw[Ej.1 e,show (zeros c.length).length=c.length from Fj ..];omega
   ·refine Ni.2 ⟨k.pw,Pp _ _,fun t a u l=>?_⟩
    obtain⟨j,f,d,rfl⟩:=jZ c i t a;rw[Ej.1 l];refine⟨fun s _=>?_,fun s _=>?_,fun s e g=>?_⟩
    ·rw[Zh]
     exact b
    ·rw[Zh]
     exact d
    ·have m:=Ej.1 e
     have n:=Ej.1 g;omega
   ·rw[Fg,Rh,k.sum]
    simp
  ·rw[Eh b,show c.getD i 0=0 by omega]
   exact k
def zy(c:List Nat):List Nat :=
 if (trees c c.length).length=1 then (zeros c.length).set ((at0 (trees c c.length) 0).2.getD 0 0) 1 else run (trees c c.length).length (trees c c.length) (zeros c.length)
theorem qv(c:List Nat):(zy c).length=c.length:=by unfold zy;split;{rw[Kn];exact Fj ..};{rw[zoS];exact Fj ..}
theorem zjU(c:List Nat)(s:Nat):dep (zy c) s<=1∨fib (dep (zy c) s+2)<=c.sum:=by unfold zy;split;{refine .inl ?_;unfold dep;rw[Eg,N7];split;{split;{exact Ea _};{exact En _}};{have:=Zh c.length s;unfold dep at this;rw[Eg]at this;omega}};{have h:=zbG c c.length (Ea _);rw[Fb]at h;rcases zgg (trees c c.length).length _ _ _ h s with h|h;{exact .inl (by omega)};{exact .inr h}}
def zgQ(d:List Nat):Bool:=d.all (fun x=>decide (x<=12))
theorem zvH(c:List Nat)(m:Nat)(h:∀x∈c,x<=m):c.sum<=m*c.length:=by induction c with|nil=>{simp}|cons x c b=>{have d:=b fun y a=>h y (E0 _ a);have e:=h x (E6 ..);rw[Kg,Fm,Rb];omega}
theorem zon(c:List Nat)(h:∀x∈c,x<=2)(g:c.length<=257):zgQ (zy c)=true:=by unfold zgQ;rw[Nb];intro x f;obtain⟨j,e,rfl⟩:=Fn f;have hd:dep (zy c) j=(zy c)[j]:=by{unfold dep;rw[Eg,Ef e];rfl};have i:=zvH c 2 h;rw[<-hd];rcases zjU c j with a|a;{exact Eo (by omega)};{refine Eo (Pe fun b=>?_);have d:=zvi (show 15<=dep (zy c) j+2 by omega);rw[show fib 15=610 from rfl]at d;omega}
def flat(c:List Nat):List Nat:=c.map fun x=>if 0<x then x/2+1 else 0
theorem qh(c:List Nat):(flat c).length=c.length:=by unfold flat;rw[Fc]
theorem zwE(c:List Nat):(flat c).sum<=c.sum:=by unfold flat;induction c with|nil=>{exact Ea _}|cons x c a=>{rw[Ka,Kg,Kg];split<;>omega}
theorem zws(c:List Nat)(h:∃x∈c,3<=x):(flat c).sum<c.sum:=by induction c with|nil=>{obtain⟨x,f,_⟩:=h;cases f}|cons x c d=>{have a:=zwE c;unfold flat at a d ⊢;rw[Ka,Kg,Kg];obtain⟨y,b,e⟩:=h;rcases Ex.1 b with rfl|b;{rw[Ei (by omega)];omega};{have:=d ⟨y,b,e⟩;split<;>omega}}
theorem zag(c:List Nat)(b:c.length<=257)(h:¬zgQ (zy c)=true):(flat c).sum<c.sum:=by refine zws c (Ly fun d=>h (zon c (fun x e=>?_) b));refine Pe fun a=>d ⟨x,e,a⟩
def ofN:Nat->List Nat->List Nat
 |0,c=>zy c
 |f+1,c=>if zgQ (zy c)=true then zy c else ofN f (flat c)
theorem zuh(f:Nat):∀(c:List Nat) (g:Nat),c.length<=257->c.sum<=f->c.sum<=g->ofN f c=ofN g c:=by induction f with|zero=>{intro c g a b _;have e:zgQ (zy c)=true:=Ly fun h=>by{have:=zag c a h;omega};cases g with|zero=>{rfl}|succ g=>{rw[ofN,ofN,Ei e]}}|succ f i=>{intro c g a b j;rw[ofN];by_cases h:zgQ (zy c)=true;{rw[Ei h];cases g with|zero=>{rfl}|succ g=>{rw[ofN,Ei h]}};{have d:=zag c a h;rw[Eh h];cases g with|zero=>{omega}|succ g=>{rw[ofN,Eh h];exact i (flat c) g (by rw[qh];exact a) (by omega) (by omega)}}}
def lenOf(c:List Nat):List Nat:=ofN c.sum c
theorem zf6(c:List Nat)(h:zgQ (zy c)=true):lenOf c=zy c:=by unfold lenOf;cases c.sum with|zero=>{rfl}|succ f=>{rw[ofN,Ei h]}
theorem zhY(c:List Nat)(a:c.length<=257)(h:¬zgQ (zy c)=true):lenOf c=lenOf (flat c):=by have d:=zag c a h;unfold lenOf;obtain⟨f,b⟩:∃f,c.sum=f+1:=⟨c.sum-1,by omega⟩;rw[b,ofN,Eh h];exact zuh f (flat c) _ (by rw[qh];exact a) (by omega) (Ea _)
theorem zj{p:Prop}(h:p):Hid p:=h
abbrev MT:=Tree × Value
def cells:List MT->List Value
 |[]=>[]
 |x :: m=>.int .i64 (x.1.1:Nat) :: x.2 :: cells m
theorem QN:∀m:List MT,(cells m).length=m.length*2
 |[]=>rfl
 |x :: m=>by
  rw[cells,Fm,Fm,QN m,Fm];omega
theorem zbb:∀m k:List MT,cells (m++k)=cells m++cells k
 |[],k=>rfl
 |x :: m,k=>by
  rw[Mm,cells,cells,zbb m k];rfl
theorem zm0:∀(m:List MT) (i:Nat) (h:i<m.length),(cells m)[i*2]?=some (.int .i64 (m[i].1.1:Nat))/\(cells m)[i*2+1]?=some m[i].2
 |x :: m,0,_=>⟨rfl,rfl⟩
 |x :: m,i+1,h=>by
  have:=zm0 m i (Ps h)
  rw[cells,show (i+1)*2=i*2+2 by omega,show i*2+2+1=(i*2+1)+2 by omega];exact this
def Sym(W:zW)(v:Value)(s:List Nat):Prop :=
 ∃g cap cur,v=.slice (some ⟨g,0,none⟩) s.length cap/\W.heap[g]?=some (.cells cur 3 (0,0))/\s.length<=cap/\∀j (h:j<s.length),cur[j]?=some (.int .i64 (s[j]:Nat))
def qW(W W':zW):Prop:=∀(g:Nat) (cur:Array Value),W.heap[g]?=some (.cells cur 3 (0,0))->W'.heap[g]?=some (.cells cur 3 (0,0))
theorem qW.trans{W W' a:zW}(h:qW W W')(k:qW W' a):qW W a:=fun g b e=>k g b (h g b e)
theorem ZG{w:zW}{g:Nat}{o:Obj}(h:w.heap[g]?=some o):g<w.heap.size:=(Ev.1 h).1
theorem qW.below{W W':zW}(h:zU W W'):qW W W':=fun g _ e=>(h.block g (ZG e)).trans e
theorem qW.set{W:zW}{g:Nat}{a:Array Value}{e:TypeId}(d:W.heap[g]?=some (.cells a e (0,0)))(c:e≠3)(i:Nat)(v:Value):qW W (W.setCell ⟨g,i,none⟩ v):=fun k b h=>by
 rw[Et W _ k v (by
  rintro rfl;rw[d]at h;simp at h
  exact c h.2)]
 exact h
theorem Sym.keeps{W W':zW}{v:Value}{s:List Nat}(h:Sym W v s)(k:qW W W'):Sym W' v s:=by obtain⟨g,b,a,e,d,c⟩:=h;exact⟨g,b,a,e,k g a d,c⟩
def zcT(W:zW)(e:TypeId)(base:Nat)(v:Value)(m:List MT):Prop:=W.ownsRow base e 2 v m.length (cells m)
def zg3(W:zW)(m:List MT):Prop:=∀x∈m,Sym W x.2 x.1.2
theorem zg3.keeps{W W':zW}{m:List MT}(h:zg3 W m)(k:qW W W'):zg3 W' m:=fun x a=>(h x a).keeps k
theorem zeq{W:zW}{e:TypeId}{g:Nat}{a:Array Value}{m:List MT}(c:W.heap[g]?=some (.cells a e (0,0)))(f:a.toList.take (m.length*2)=cells m)(i:Nat)(d:i<m.length): W.cell? ⟨g,i*2,none⟩=some (.int .i64 (m[i].1.1:Nat))/\W.cell? ⟨g,i*2+1,none⟩=some m[i].2:=by have b:=zm0 m i d;rw[<-f]at b;rw[Fd (by omega),Fd (by omega),Fs,Fs]at b;exact⟨(El W g _ _ _ _ c).trans b.1,(El W g _ _ _ _ c).trans b.2⟩
def mt(m:List MT):List Tree:=m.map (·.1)
theorem qz(m:List MT):(mt m).length=m.length:=Fc ..
theorem zt1(m:List MT)(i:Nat)(h:i<m.length):wt (mt m) i=m[i].1.1:=by unfold wt mt;rw[Eg,Kl,Ef h];rfl
end Hf
namespace In
def zzU(w:zW)(a:Option Addr)(len cap:Nat)(zs:List Int):Prop :=
 (a=none/\len=0/\cap=0/\zs=[]) ∨
 ∃x,a=some x/\len<=cap/\cap<=maxLen/\zs.length=cap/\(∀i,i<zs.length->w.cell? (x.add i)=some (.int .i64 (zs.getD i 0)))/\∀n∈zs,(Lit.int .i64 n).wf=true
def Wf(l:List Int):Prop:=∀n∈l,-9223372036854775808<=n/\n<=9223372036854775807
end In
namespace Ap
def JH(w:zW)(base:Nat)(e:TypeId)(size:Nat)(v:Value)(n:Nat)(xs:List Value):Prop :=
 (∃b,v=.slice (some b) 0 0/\n=0/\xs=[])∨w.ownsRow base e size v n xs
theorem JH.below{w w':zW}{base:Nat}{e:TypeId}{size:Nat}{v:Value}{n:Nat}{xs:List Value}(h:JH w base e size v n xs)(b:zU w w'):JH w' base e size v n xs:=by rcases h with h|⟨i,h⟩;{exact .inl h};{refine .inr ⟨i,?_⟩;rcases h with h|⟨g,a,c,j,f,d,rest⟩;{exact .inl h};{exact .inr ⟨g,a,c,j,f,by rw[b.block g (Ev.1 d).1];exact d,rest⟩}}
theorem JH.alloc{w:zW}{base:Nat}{e:TypeId}{size:Nat}{v:Value}{n:Nat}{xs:List Value}(h:JH w base e size v n xs)(o:Obj):JH (w.alloc o) base e size v n xs :=
 h.below ((Eb _ _).alloc (Ea _) o)
theorem JH.keep{w w':zW}{base:Nat}{e:TypeId}{size:Nat}{v:Value}{n:Nat}{xs:List Value}(h:JH w base e size v n xs)(b:∀k,base<=k->k<w.heap.size->w'.heap[k]?=w.heap[k]?):JH w' base e size v n xs:=by rcases h with h|⟨i,h⟩;{exact .inl h};{refine .inr ⟨i,?_⟩;rcases h with h|⟨g,a,c,j,f,d,rest⟩;{exact .inl h};{exact .inr ⟨g,a,c,j,f,by rw[b g f (Ev.1 d).1];exact d,rest⟩}}
theorem zfG{P:Program}(w:zW)(base:Nat)(t ty e:TypeId)(i:TypeInfo)(z:Value)(size d:Nat)(H:P.underlying t=some (.slice e))(G:P.info? e=some i)(I:i.zero=some z)(o:i.size=size)(q:i.bytes=d)(s:z.cells.size=size)(E:0<size)(v:Value)(n:Nat)(xs:List Value)(g:JH w base e size v n xs)(a:Addr)(m c:Nat)(news:List Value)(r:news.length=m*size)(l:∀j u,news[j]?=some u->w.cell? (a.add j)=some u)(K:∀u∈news,u.oneCell'=true)(Q:0<m)(p:n+m<=maxLen)(f:(n+m)*d<=140737488355328)(h:base<=w.heap.size): ∃v' w',(Builtin.append_ #[t,t] ty #[v,.slice (some a) m c]).run P w=.ok v' w'/\w'.ownsRow base e size v' (n+m) (xs++news)/\∀B,B<=base->Below B w w':=by rcases g with⟨b,rfl,rfl,rfl⟩|g;{subst o;subst q;have x:m<=9223372036854775807:=by{simp only[maxLen]at p;omega};have D:=Ul (P:=P) w t ty e i z H G I b 0 0 [] (by simp) (by simp) a m c news r l (by omega) (by omega) (Ru (by omega) f);refine⟨_,_,D,?_,fun B F=>?_⟩;{have C:=Rc w (0+m) 0 e;have y:grownCap w (0+m) 0 e<=maxLen:=Nx w (0+m) 0 e p;refine⟨by simpa using r,.inr ⟨w.heap.size,_,_,rfl,h,E2 w.drew _,C,y,?_,?_⟩⟩;{simp only[Sk,Ke,Rv,s,r,Ko];rw[Ff,<-Nj];congr 1;omega};{simp only[Mb,Mg];rw[show (0+m)*i.size=news.length by rw[Ff,r]];exact Pt}};{exact((Eb B w).drew).alloc (by simp;omega) _}};{obtain⟨v',w',D,L,M,_⟩:=run_append_own (P:=P) w base t ty e i z size d H G I o q s E v n xs g a m c news r l K p f h;refine⟨v',w',D,L,fun B F=>(Eb B w).grown M (by omega) ?_⟩;intro k O;exact Fe F (g.lt k O).1}
theorem zC{P:Program}(w:zW){p:Array Oper}{rest:List Oper}{o:Oper}{a:Act}{Q:Exit->Act->zW->Prop}(C:o.guard=none)(s x:Operand)(t:TypeId)
  (O:o.op=.call { callee:=.builtin .append,args:=#[s,x],argTypes:=#[t,t] })
  (base:Nat) (e:TypeId) (i:TypeInfo) (z:Value) (size b:Nat) (U:P.underlying t=some (.slice e)) (K:P.info? e=some i) (W:i.zero=some z)
  (k:i.size=size) (y:i.bytes=b) (E:z.cells.size=size) (D:0<size)
  (v:Value) (n:Nat) (xs:List Value) (S:a.eval s=v) (l:JH w base e size v n xs)
  (q:Addr) (m c:Nat) (news:List Value) (V:a.eval x=.slice (some q) m c) (L:news.length=m*size) (g:∀j u,news[j]?=some u->w.cell? (q.add j)=some u) (F:∀u∈news,u.oneCell'=true) (M:0<m)
  (r:n+m<=maxLen) (d:(n+m)*b<=140737488355328) (f:base<=w.heap.size)
  (h:∀v' w',w'.ownsRow base e size v' (n+m) (xs++news)->(∀B,B<=base->Below B w w')->wpList P p Q rest (a.put o.dst v') w'):wpList P p Q (o :: rest) a w :=
 N4 C fun _ I=>by
  obtain⟨v',w',R,G,H⟩:=zfG (P:=P) w base t o.type e i z size b U K W k y E D v n xs l q m c news L g F M r d f;unfold Oper.wp execOp;simp only[O,resolve,invoke,builtin,Nf,Oh,Ox,Od,Ka,Mr,S,V,R];exact I _ _ (h v' w' G H)
end Ap
namespace So
def seg(f:Nat->Nat)(a b:Nat):List Nat:=(List.range' a (b-a)).map f
theorem zq0{f:Nat->Nat}{a b x:Nat}:x∈seg f a b↔∃i,a<=i/\i<b/\f i=x:=by unfold seg;rw[Ft];constructor;{rintro⟨i,d,e⟩;have:=Sl.1 d;exact⟨i,by omega,by omega,e⟩};{rintro⟨i,c,g,e⟩;exact⟨i,Sl.2 ⟨c,by omega⟩,e⟩}
theorem zaa(f:Nat->Nat){a m b:Nat}(c:a<=m)(d:m<=b):seg f a b=seg f a m++seg f m b:=by unfold seg;have:=List.range'_append_1 (s:=a) (m:=m-a) (n:=b-m);rw[show a+(m-a)=m by omega,show m-a+(b-m)=b-a by omega]at this;rw[<-this,Fg]
theorem zfX{f g:Nat->Nat}{a b:Nat}(h:∀i,a<=i->i<b->f i=g i):seg f a b=seg g a b:=by unfold seg;apply Mw;intro i c;have:=Sl.1 c;exact h i (by omega) (by omega)
theorem zjF{f g:Nat->Nat}{a a' n:Nat}(h:∀i,i<n->g (a' + i)=f (a+i)):seg g a' (a' + n)=seg f a (a+n):=by unfold seg;apply Li;{simp};{intro k b c;simp at b c;simp;exact h k (by omega)}
def qt(a b:Nat)(f g:Nat->Nat):Prop:=(seg g a b).Perm (seg f a b)/\∀i,i<a∨b<=i->g i=f i
theorem qt.refl(a b:Nat)(f:Nat->Nat):qt a b f f:=⟨Pr _,fun _ _=>rfl⟩
theorem qt.trans{a b:Nat}{f g h:Nat->Nat}(c:qt a b f g)(d:qt a b g h):qt a b f h :=
 ⟨d.1.trans c.1,fun i e=>(d.2 i e).trans (c.2 i e)⟩
theorem qt.mono{a b a' c:Nat}{f g:Nat->Nat}(h:qt a b f g)(e:a'<=a)(d:a<=b)(j:b<=c):qt a' c f g:=by refine⟨?_,fun i m=>h.2 i (by omega)⟩;rw[zaa g (show a'<=a from e) (show a<=c by omega),zaa f (show a'<=a from e) (show a<=c by omega),zaa g d j,zaa f d j];rw[zfX (f:=g) (g:=f) (a:=a') (b:=a) fun i _ l=>h.2 i (by omega),zfX (f:=g) (g:=f) (a:=b) (b:=c) fun i k _=>h.2 i (by omega)];exact(Pr _).append (h.1.append (Pr _))
theorem qt.all{a b:Nat}{f g:Nat->Nat}(h:qt a b f g){p:Nat->Prop}(l:∀i,a<=i->i<b->p (f i)):∀i,a<=i->i<b->p (g i):=by intro i c d;have j:g i∈seg g a b:=zq0.2 ⟨i,c,d,rfl⟩;obtain⟨k,m,n,e⟩:=zq0.1 (h.1.mem_iff.1 j);rw[<-e];exact l k m n
def qO(a m b:Nat)(f:Nat->Nat):Nat->Nat:=fun k=>
 if k<a then f k else if k<a+(b-m) then f (k-a+m) else if k<b then f (k-(b-m)) else f k
theorem zcA{a m b:Nat}(f:Nat->Nat)(k:Nat)(h:k<a∨b<=k)(c:a<=m)(d:m<=b):qO a m b f k=f k:=by unfold qO;rcases h with h|h;{rw[Ei h]};{rw[Eh (by omega),Eh (by omega),Eh (by omega)]}
theorem J3{a m b:Nat}(f:Nat->Nat)(k:Nat)(d:a<=k)(c:k<a+(b-m)):qO a m b f k=f (k-a+m):=by unfold qO;rw[Eh (by omega),Ei c]
theorem zhd{a m b:Nat}(f:Nat->Nat)(k:Nat)(d:a<=k)(e:a+(b-m)<=k)(c:k<b):qO a m b f k=f (k-(b-m)):=by unfold qO;rw[Eh (by omega),Eh (by omega),Ei c]
theorem zaD{a m b:Nat}(f:Nat->Nat)(d:a<=m)(e:m<=b):qt a b f (qO a m b f):=by refine⟨?_,fun i c=>zcA f i c d e⟩;rw[zaa (qO a m b f) (show a<=a+(b-m) by omega) (show a+(b-m)<=b by omega),zaa f d e];have h:seg (qO a m b f) a (a+(b-m))=seg f m b:=by{have:=zjF (f:=f) (g:=qO a m b f) (a:=m) (a':=a) (n:=b-m) fun i c=>by{rw[J3 f (a+i) (by omega) (by omega)];congr 1;omega};rw[this];congr 1;omega};have j:seg (qO a m b f) (a+(b-m)) b=seg f a m:=by{have:=zjF (f:=f) (g:=qO a m b f) (a:=a) (a':=a+(b-m)) (n:=m-a) fun i c=>by{rw[zhd f (a+(b-m)+i) (by omega) (by omega) (by omega)];congr 1;omega};rw[show a+(b-m)+(m-a)=b by omega]at this;rw[this];congr 1;omega};rw[h,j];exact Oq
def zgB(p q n:Nat)(f:Nat->Nat):Nat->Nat:=fun k=>
 if p<=k/\k<p+n then f (k-p+q) else if q<=k/\k<q+n then f (k-q+p) else f k
def swp(f:Nat->Nat)(i j:Nat):Nat->Nat:=fun k=>if k=j then f i else if k=i then f j else f k
theorem zkz(p q:Nat)(f:Nat->Nat):zgB p q 0 f=f:=by funext k;unfold zgB;rw[Eh (by omega),Eh (by omega)]
theorem zj7(p q n:Nat)(f:Nat->Nat)(h:p+n<q):swp (zgB p q n f) (p+n) (q+n)=zgB p q (n+1) f:=by funext k;unfold swp;by_cases a:k=q+n;{subst a;rw[Ei rfl];unfold zgB;rw[Eh (by omega),Eh (by omega),Eh (by omega),Ei (by omega)];congr 1;omega};{rw[Eh a];by_cases b:k=p+n;{subst b;rw[Ei rfl];unfold zgB;rw[Eh (by omega),Eh (by omega),Ei (by omega)];congr 1;omega};{rw[Eh b];unfold zgB;by_cases c:p<=k/\k<p+n;{rw[Ei c,Ei (by omega)]};{rw[Eh c,Eh (show ¬(p<=k/\k<p+(n+1)) by omega)];by_cases d:q<=k/\k<q+n;{rw[Ei d,Ei (by omega)]};{rw[Eh d,Eh (by omega)]}}}}
theorem zmo(m i j:Nat)(f:Nat->Nat)(b:j<i)(a:i<=m):qO (m-(i-j)) m (m+j) (zgB (m-i) m j f)=qO (m-i) m (m+j) f:=by funext k;unfold qO zgB;(repeat' split);all_goals first|omega|(congr 1;omega)|rfl
theorem zjn(m i j:Nat)(f:Nat->Nat)(b:i<j)(a:i<=m):qO (m-i) m (m+(j-i)) (zgB (m-i) (m+j-i) i f)=qO (m-i) m (m+j) f:=by funext k;unfold qO zgB;(repeat' split);all_goals first|omega|(congr 1;omega)|rfl
theorem zmB(m i:Nat)(f:Nat->Nat)(a:i<=m):zgB (m-i) m i f=qO (m-i) m (m+i) f:=by funext k;unfold qO zgB;(repeat' split);all_goals first|omega|(congr 1;omega)|rfl
theorem zvU(a k:Nat)(f:Nat->Nat)(h:a<=k):swp (qO a (a+1) (k+1) f) k (k+1)=qO a (a+1) (k+2) f:=by funext i;unfold swp qO;(repeat' split);all_goals first|omega|(congr 1;omega)|rfl
theorem zp0(a:Nat)(f:Nat->Nat):qO a (a+1) (a+1) f=f:=by funext i;unfold qO;(repeat' split);all_goals first|omega|(congr 1;omega)|rfl
theorem ze4(k m:Nat)(f:Nat->Nat)(h:k+1<=m):swp (qO (k+1) m (m+1) f) (k+1) k=qO k m (m+1) f:=by funext i;unfold swp qO;(repeat' split);all_goals first|omega|(congr 1;omega)|rfl
theorem zdj(m:Nat)(f:Nat->Nat):qO m m (m+1) f=f:=by funext i;unfold qO;(repeat' split);all_goals first|omega|(congr 1;omega)|rfl
structure zsK (cl:Nat->Nat->Bool):Prop where
 irrefl:∀x,cl x x=false
 trans:∀x y z,cl x y=true->cl y z=true->cl x z=true
 ntrans:∀x y z,cl x y=false->cl y z=false->cl x z=false
def lx(cl:Nat->Nat->Bool)(x y:Nat):Prop:=cl x y=true∨cl y x=false/\x<y
theorem zdc{c:Nat->Nat->Bool}(h:zsK c){x y z:Nat}(b:lx c x y)(a:lx c y z):lx c x z:=by rcases b with b|⟨b,f⟩;{rcases a with a|⟨a,d⟩;{exact .inl (h.trans _ _ _ b a)};{cases e:c x z with|true=>{exact .inl e}|false=>{have:=h.ntrans _ _ _ e a;rw[this]at b;cases b}}};{rcases a with a|⟨a,d⟩;{cases e:c x z with|true=>{exact .inl e}|false=>{have:=h.ntrans _ _ _ b e;rw[this]at a;cases a}};{exact .inr ⟨h.ntrans _ _ _ a b,by omega⟩}}
theorem ziA{a:Nat->Nat->Bool}(h:zsK a){x y:Nat}(b:lx a x y)(c:lx a y x):False:=by have:=zdc h b c;rcases this with e|⟨_,e⟩;{rw[h.irrefl]at e;cases e};{omega}
theorem zcq{a:Nat->Nat->Bool}{x y:Nat}(e:a x y=true):lx a x y:=.inl e
theorem zgw{a:Nat->Nat->Bool}{x y:Nat}(e:a x y=false)(h:y<x):lx a y x:=.inr ⟨e,h⟩
def Ris(cl:Nat->Nat->Bool)(a b:Nat)(f:Nat->Nat):Prop:=∀i j,a<=i->i<j->j<b->lx cl (f i) (f j)
theorem Ris.sub{d:Nat->Nat->Bool}{a b a' c:Nat}{f:Nat->Nat}(h:Ris d a b f)(l:a<=a')(m:c<=b):Ris d a' c f :=
 fun i j g e k=>h i j (by omega) e (by omega)
theorem Ris.congr{c:Nat->Nat->Bool}{a b:Nat}{f g:Nat->Nat}(h:Ris c a b f)(e:∀i,a<=i->i<b->g i=f i):Ris c a b g :=
 fun i j d l k=>by rw[e i d (by omega),e j (by omega) k];exact h i j d l k
theorem Ris.le{c:Nat->Nat->Bool}{a b:Nat}{f:Nat->Nat}(h:Ris c a b f){i j:Nat}(g:a<=i)(m:i<=j)(k:j<b){x:Nat}(l:zsK c)(d:lx c (f j) x):lx c (f i) x:=by rcases Ky i j with e|e;{exact zdc l (h i j g e k) d};{rw[show i=j by omega];exact d}
theorem Ris.ge{c:Nat->Nat->Bool}{a b:Nat}{f:Nat->Nat}(h:Ris c a b f){i j:Nat}(g:a<=i)(m:i<=j)(k:j<b){x:Nat}(l:zsK c)(d:lx c x (f i)):lx c x (f j):=by rcases Ky i j with e|e;{exact zdc l d (h i j g e k)};{rw[<-show i=j by omega];exact d}
theorem Ris.join{d:Nat->Nat->Bool}{a m b:Nat}{f:Nat->Nat}(n:Ris d a m f)(o:Ris d m b f)(h:∀i j,a<=i->i<m->m<=j->j<b->lx d (f i) (f j)):Ris d a b f:=by intro i j k c l;rcases Ky j m with e|e;{exact n i j k c e};{rcases Ky i m with g|g;{exact h i j k g e l};{exact o i j g c l}}
def Sep(a m b:Nat)(f:Nat->Nat):Prop:=∀i j,a<=i->i<m->m<=j->j<b->f i<f j
theorem zfa{b:Nat->Nat->Bool}(o:zsK b){a m i:Nat}{f:Nat->Nat}(n:Ris b a m f)(j:a<=i)(l:i<=m)(d:∀k,a<=k->k<i->lx b (f k) (f m))(c:∀k,i<=k->k<m->lx b (f m) (f k)):Ris b a (m+1) (qO i m (m+1) f):=by have _:=o;intro p q g r h;have e:∀k,a<=k->k<m+1->qO i m (m+1) f k=if k<i then f k else if k=i then f m else f (k-1):=by{intro k s t;unfold qO;(repeat' split);all_goals first|omega|(congr 1;omega)|rfl};rw[e p g (by omega),e q (by omega) h];(repeat' split);all_goals first|omega|exact n _ _ (by omega) (by omega) (by omega)|exact d _ (by omega) (by omega)|exact c _ (by omega) (by omega)
theorem zvG{c:Nat->Nat->Bool}(o:zsK c){a b i:Nat}{f:Nat->Nat}(n:Ris c (a+1) b f)(l:a+1<=i)(m:i<=b)(g:∀k,a+1<=k->k<i->lx c (f k) (f a))(d:∀k,i<=k->k<b->lx c (f a) (f k)):Ris c a b (qO a (a+1) i f):=by have _:=o;intro p q h r j;have e:∀k,a<=k->k<b->qO a (a+1) i f k=if k+1<i then f (k+1) else if k+1=i then f a else f k:=by{intro k s t;unfold qO;(repeat' split);all_goals first|omega|(congr 1;omega)|rfl};rw[e p h (by omega),e q (by omega) j];(repeat' split);all_goals first|omega|exact n _ _ (by omega) (by omega) (by omega)|exact g _ (by omega) (by omega)|exact d _ (by omega) (by omega)
end So
namespace So
open Go.RowKit Go.Sort Go.Proofs
theorem zc{p:Prop}(h:p):Hid p:=h
def dF(d:Array Nat):Nat->Nat:=fun i=>d[i]!
theorem zej(d:Array Nat)(i j:Nat)(a:i<d.size)(b:j<d.size):dF (Go.Sort.swp d i j)=So.swp (dF d) i j:=by funext k;unfold dF So.swp;rw[Go.Sort.swp_get d a b]
theorem zx9(d:Array Nat)(i:Nat)(h:d.size<=i):dF d i=0:=by unfold dF;rw[getElem!_neg d i (by omega)];rfl
theorem mixed:prog.follows .mixedOrders=true:=by kernel_rfl
def qU(T:Nat->zY)(x:Nat):List Value:=[.int .i64 x,.string (T x)]
theorem zcd(T:Nat->zY):∀x,(qU T x).length=2:=fun _=>rfl
theorem Zn{T:Nat->zY}{w:zW}{blk:Nat}{d:Array Nat}(h:HoldsK (qU T) 2 w blk 0 d){i:Nat}(e:i<d.size): w.cell? ⟨blk,i*2,none⟩=some (.int .i64 (d[i]!:Nat))/\w.frozen? ⟨blk,i*2,none⟩=false/\w.cell? ⟨blk,i*2+1,none⟩=some (.string (T d[i]!))/\w.frozen? ⟨blk,i*2+1,none⟩=false:=by have a:=h.cell (i:=i) (c:=0) e (by omega);have b:=h.cell (i:=i) (c:=1) e (by omega);rw[Ff,Ms]at a;rw[Ff]at b;exact⟨a.1,a.2,b.1,b.2⟩
def encI(x:Nat):List Value:=[.int .i64 x]
theorem ze5:∀x,(encI x).length=1:=fun _=>rfl
section
variable {enc:Nat → List Value} {k:Nat} {w:zW} {blk off:Nat} {d:Array Nat}
theorem qH(h:HoldsK enc k w blk off d):w=sortWorldK enc k w blk off 0 d #[]:=by unfold sortWorldK;rw[grow_empty];exact(putRowK_self enc k w blk off d h).symm
theorem zt(h:HoldsK enc k w blk off d)(b:blk<w.heap.size)(m:Nat)(a:Array Nat)(os:Array Obj)(c:a.size=d.size):HoldsK enc k (sortWorldK enc k w blk off m a os) blk off a :=
 holdsK_sortWorldK_c enc k w blk off d a m os h b c
theorem zX(m:Nat)(a:Array Nat)(os:Array Obj):w.heap.size<=(sortWorldK enc k w blk off m a os).heap.size:=size_sortWorldK_c enc k w blk off m a os
theorem jG(m n:Nat)(c a:Array Nat)(os b:Array Obj)(d:blk<w.heap.size)(e:a.size=c.size): sortWorldK enc k (sortWorldK enc k w blk off m c os) blk off n a b=sortWorldK enc k w blk off (m+n) a (os++b):=by unfold sortWorldK;exact grow_step_growK enc k w os b m n blk off c a d e
theorem Zf(m:Nat)(b:Array Nat)(os:Array Obj){j:Nat}(c:j<w.heap.size)(a:j≠blk):(sortWorldK enc k w blk off m b os).heap[j]?=w.heap[j]?:=by unfold sortWorldK;rw[heap_grow_old _ _ (by rw[size_putRowK];exact c)];unfold putRowK putRow mapBlock;simp only[Uu];rw[Eh (fun h=>a h.symm)];rfl
theorem zfV(m:Nat)(a:Array Nat)(os:Array Obj){B:Nat}(b:B<=blk)(d:B<=w.heap.size):Below B w (sortWorldK enc k w blk off m a os) :=
 ⟨rfl,rfl,rfl,zX m a os,fun j c=>Zf m a os (by omega) (by omega)⟩
theorem zfD{w':zW}(h:HoldsK enc k w blk off d)(e:w'.heap[blk]?=w.heap[blk]?):HoldsK enc k w' blk off d:=by intro j a;have:=h j a;simp only[World.cell?,World.frozen?]at this ⊢;rw[e];exact this
end
end So
namespace So
open Go.RowKit Go.Sort Go.Proofs
theorem zdp:∀(x y:List UInt8),Op.bytesLess x y=decide (x<y)
 |[],[]=>by simp[Op.bytesLess]
 |_ :: _,[]=>by simp[Op.bytesLess]
 |[],_ :: _=>by simp[Op.bytesLess]
 |a :: x,b :: y=>by
  rw[Op.bytesLess,zdp x y];simp only[Ot];by_cases c:a<b<;>by_cases d:a=b<;>simp[c,d]
def clT(T:Nat->zY)(x y:Nat):Bool:=Op.bytesLess (T x).toList (T y).toList
theorem Zq(T:Nat->zY):zsK (clT T) where
 irrefl x:=by simp[clT,zdp,U0]
 trans x y z h1 h2:=by
  simp only[clT,zdp,Fz]at *;exact List.lt_trans h1 h2
 ntrans x y z h1 h2:=by
  simp only[clT,zdp,Sx,List.not_lt]at *;exact List.le_trans h2 h1
def cfT(T:Nat->zY)(x y:Nat):Int:=if Op.bytesLess (T x).toList (T y).toList=true then -1 else if ((T x).toList==(T y).toList)=true then 0 else 1
theorem zid(T:Nat->zY)(x y:Nat):decide (cfT T x y<0)=clT T x y:=by unfold cfT clT;cases Op.bytesLess (T x).toList (T y).toList with|true=>{rfl}|false=>{cases ((T x).toList==(T y).toList)<;>rfl}
theorem zoN(s:zY)(w:zW):Calls prog 284 #[.string s] w fun e w'=>e=.returned (.bool false)/\w'=w:=by go_enter func284,ntmps284;(go_wp2_with fail);go_ret;exact⟨rfl,rfl⟩
theorem zsI(s t:zY)(w:zW):Calls prog 269 #[.string s,.string t] w fun e w'=>e=.returned (.int .i64 (if Op.bytesLess s.toList t.toList=true then -1 else if (s.toList==t.toList)=true then 0 else 1))/\w'=w:=by cases b:Op.bytesLess s.toList t.toList with|true=>{rw[Ei rfl];go_enter func269,ntmps269;(go_wp2_with fail);refine(zoN s w).mono ?_;rintro e w' ⟨rfl,a⟩;subst w';(go_wp2_with fail);refine(zoN t w).mono ?_;rintro e w' ⟨rfl,a⟩;subst w';(go_wp2_with fail);go_ret;exact⟨rfl,rfl⟩}|false=>{rw[Eh Kc];cases c:(s.toList==t.toList) with|true=>{rw[Ei rfl];have d:(!(Op.bytesLess s.toList t.toList || s.toList==t.toList))=false:=by{rw[b,c];rfl};go_enter func269,ntmps269;(go_wp2_with fail);refine(zoN s w).mono ?_;rintro e w' ⟨rfl,a⟩;subst w';(go_wp2_with fail);refine(zoN t w).mono ?_;rintro e w' ⟨rfl,a⟩;subst w';(go_wp2_with fail);go_ret;exact⟨rfl,rfl⟩}|false=>{rw[Eh Kc];have d:(!(Op.bytesLess s.toList t.toList || s.toList==t.toList))=true:=by{rw[b,c];rfl};go_enter func269,ntmps269;(go_wp2_with fail);refine(zoN s w).mono ?_;rintro e w' ⟨rfl,a⟩;subst w';(go_wp2_with fail);refine(zoN t w).mono ?_;rintro e w' ⟨rfl,a⟩;subst w';(go_wp2_with fail);go_ret;exact⟨rfl,rfl⟩}}
theorem zlA(w:zW)(o p:Obj):(w.alloc o).alloc p=grow (w.drewN 0) #[o,p]:=by have e:(w.heap.push o).push p=w.heap++#[o,p]:=by{apply Array.ext';simp};unfold World.alloc grow World.drewN;simp only;rw[e];rfl
theorem ztt(T:Nat->zY)(x y:Nat)(w:zW):Calls prog 250 #[.agg (qU T x).toArray,.agg (qU T y).toArray] w fun e w'=>e=.returned (.int .i64 (cfT T x y))/\∃q a,w'=grow (w.drewN q) a:=by have b:=zc (fun W=>zsI (T x) (T y) W);unfold cfT;generalize (if Op.bytesLess (T x).toList (T y).toList=true then (-1:Int) else if ((T x).toList==(T y).toList)=true then 0 else 1)=r at b ⊢;unfold qU;go_enter func250,ntmps250;(go_wp2_with fail);refine(b.o _).mono ?_;rintro e w' ⟨rfl,c⟩;subst w';(go_wp2_with fail);go_ret;exact⟨rfl,0,_,zlA _ _ _⟩
end So
namespace Cr
def step(x:Nat):Nat:=if x%2=1 then (x/2) ^^^ 3988292384 else x/2
def stepN:Nat->Nat->Nat
 |0,x=>x
 |k+1,x=>step (stepN k x)
def zsg(r c:Nat):Nat:=stepN 8 (r ^^^ c)
def zgD(r:Nat)(l:List UInt8):Nat:=l.foldl (fun r b=>zsg r b.toNat) r
def fin(r:Nat):Nat:=r ^^^ 4294967295
theorem zgZ{a b:Nat}(c:a<4294967296)(d:b<4294967296):a ^^^ b<4294967296 :=
 Nat.xor_lt_two_pow (n:=32) c d
theorem zlF{x:Nat}(h:x<4294967296):step x<4294967296:=by unfold step;split;{exact zgZ (by omega) (by decide)};{omega}
theorem zuI{x:Nat}(h:x<4294967296)(k:Nat):stepN k x<4294967296:=by induction k with|zero=>{exact h}|succ k a=>{exact zlF a}
theorem zk9{r c:Nat}(h:r<4294967296)(a:c<256):zsg r c<4294967296 :=
 zuI (zgZ h (by omega)) 8
theorem zwm(l:List UInt8):∀r,r<4294967296->zgD r l<4294967296:=by induction l with|nil=>{intro r h;exact h}|cons b l a=>{intro r h;exact a _ (zk9 h b.toNat_lt)}
theorem zr4(r:Nat)(l:List UInt8)(b:UInt8):zgD r (l++[b])=zsg (zgD r l) b.toNat:=by simp[zgD,K5]
theorem zf1(s:zY)(k:Nat)(h:k<s.size):s.data.toList.take (k+1)=s.data.toList.take k++[s[k]]:=by rw[Kw (by simpa using h)];rfl
theorem zjW(r:Nat)(s:zY)(k:Nat)(h:k<s.size):zgD r (s.data.toList.take (k+1))=zsg (zgD r (s.data.toList.take k)) (s[k]).toNat:=by rw[zf1 s k h,zr4]
theorem zhf{r:Nat}(h:r<4294967296):fin r<4294967296:=zgZ h (by decide)
def zgH(x c k:Nat):Nat:=if (x ^^^ c/2 ^ k)%2=1 then (x/2) ^^^ 3988292384 else x/2
theorem zny(x c k:Nat):zgH x c k ^^^ (c/2 ^ (k+1))=step (x ^^^ c/2 ^ k):=by have e:c/2 ^ (k+1)=(c/2 ^ k)/2:=by{rw[Kb,Mo]};unfold zgH step;rw[e,Nat.xor_div_two];split;{rw[Nat.xor_assoc,Nat.xor_assoc,Nat.xor_comm 3988292384]};{rfl}
theorem zmM{x:Nat}(c k:Nat)(h:x<4294967296):zgH x c k<4294967296:=by unfold zgH;split;{exact zgZ (by omega) (by decide)};{omega}
theorem zkr(c k:Nat):((c:Int)/2 ^ k)=((c/2 ^ k:Nat):Int):=by rw[Sy,Uk];rfl
theorem zrC(x c k:Nat)(b:x<4294967296)(d:c<256): bits BinOp.and IntKind.u32 (bits BinOp.xor IntKind.u32 (x:Int) ((c:Int)/2 ^ k%4294967296)) 1=(((x ^^^ c/2 ^ k)%2:Nat):Int):=by have a:c/2 ^ k<4294967296:=Nat.lt_of_le_of_lt (Pl _ _) (by omega);have e:((c:Int)/2 ^ k%4294967296)=((c/2 ^ k:Nat):Int):=by{rw[zkr];generalize c/2 ^ k=q at a ⊢;omega};rw[e,Sm _ _ b a];have:=u32_and_nat (x ^^^ c/2 ^ k) 1 (zgZ b a) (by decide);rw[nat_mask1]at this;exact this
theorem zmN(x:Nat)(a:x<4294967296):bits BinOp.xor IntKind.u32 ((x:Int)/2) 3988292384=(((x/2) ^^^ 3988292384:Nat):Int):=by have e:((x:Int)/2)=((x/2:Nat):Int):=by{omega};rw[e];exact Sm (x/2) 3988292384 (by omega) (by decide)
theorem zy0(x:Nat)(a:x<4294967296):bits BinOp.and IntKind.u32 (x:Int) 1=((x%2:Nat):Int):=by have:=u32_and_nat x 1 a (by decide);rw[nat_mask1]at this;exact this
theorem not_eq(x:Nat)(a:x<4294967296):bits BinOp.xor IntKind.u32 (x:Int) 4294967295=((fin x:Nat):Int) :=
 Sm x 4294967295 a (by decide)
theorem zpN(x:Nat)(a:x<4294967296):bits BinOp.xor IntKind.u32 IntKind.u32.max (x:Int)=((fin x:Nat):Int):=by rw[fin,Nat.xor_comm,show IntKind.u32.max=((4294967295:Nat):Int) from rfl];exact Sm 4294967295 x (by decide) a
theorem jW{k:IntKind}{a b:Int}(h:a=b):Ending.returned (.int k a)=.returned (.int k b):=by rw[h]
theorem zuJ(r c:Nat)(w:zW)(s:r<4294967296)(p:c<256): Calls prog 207 #[.int .u32 r,.int .u8 c] w fun e w'=>e=.returned (.int .u32 (zsg r c:Nat))/\w'=w:=by go_enter func207,ntmps207;go_wp2;(go_loop [0,5,6,7] (fun a _ _ i=>∃k x:Nat,k<=8/\i=.int .i64 k/\x<4294967296/\a=.int .u32 x/\x ^^^ c/2 ^ k=stepN k (r ^^^ c)) (fun _ _ _ i=>8-(intOf i).toNat));(case atStart=>exact⟨0,r,by omega,rfl,s,rfl,by simp[stepN]⟩);(case round=>obtain⟨k,x,t,rfl,g,rfl,b⟩:=hrel;have j:Hid (x ^^^ c/2 ^ k=stepN k (r ^^^ c)):=b;clear b;by_cases q:k<8;{have f:=zrC x c k g p;by_cases d:(x ^^^ c/2 ^ k)%2=1;{have o:(bits BinOp.and IntKind.u32 (bits BinOp.xor IntKind.u32 (x:Int) ((c:Int)/2 ^ k%4294967296)) 1==1)=true:=by{rw[f,d];rfl};have l:Hid (zgH x c k=(x/2) ^^^ 3988292384):=by{unfold Hid zgH;rw[Ei d]};clear f d;go_wp2;(go_round);(case rel=>exact⟨k+1,zgH x c k,by omega,by go_num,zmM c k g,by rw[l.o,zmN x g],by rw[zny,j.o];rfl⟩);(case measure=>simp[intOf];omega)};{have o:(bits BinOp.and IntKind.u32 (bits BinOp.xor IntKind.u32 (x:Int) ((c:Int)/2 ^ k%4294967296)) 1==1)=false:=by{rw[f];simp;omega};have l:Hid (zgH x c k=x/2):=by{unfold Hid zgH;rw[Eh d]};clear f d;go_wp2;(go_round);(case rel=>exact⟨k+1,zgH x c k,by omega,by go_num,zmM c k g,by rw[l.o];go_num,by rw[zny,j.o];rfl⟩);(case measure=>simp[intOf];omega)}};{have m:Hid (x=zsg r c):=by{have h:=j.o;have n:k=8:=by{omega};rw[n,Nat.div_eq_of_lt (by omega),Nat.xor_zero]at h;exact h};go_wp2;go_ret;exact⟨jW (by rw[m.o]),rfl⟩})
theorem zvh(n:Nat)(s:zY)(w:zW)(C:s.size<=8000)(l:n<4294967296): Calls prog 165 #[.int .i64 n,.string s] w fun e w'=>e=.returned (.int .i64 (fin (zgD (fin n) s.data.toList):Nat))/\w'=w:=by have z:¬(4294967295:Int)<n:=by{omega};have r:Hid (bits BinOp.xor IntKind.u32 IntKind.u32.max (n:Int)=((fin n:Nat):Int)):=zpN n l;have o:Hid (fin n<4294967296):=zhf l;go_enter func165,ntmps165;go_wp2;(go_loop [5,6,23] (fun a _ i=>∃k x:Nat,k<=s.size/\i=.int .i64 k/\x<4294967296/\a=.int .u32 x/\x=zgD (fin n) (s.data.toList.take k)) (fun _ _ i=>s.size-(intOf i).toNat));(case atStart=>exact⟨0,fin n,En _,rfl,o.o,by rw[r.o],rfl⟩);(case round=>obtain⟨k,x,B,rfl,c,rfl,b⟩:=hrel;have f:Hid (x=zgD (fin n) (s.data.toList.take k)):=b;clear b;by_cases d:k<s.size;{have j:s[k].toNat<256:=s[k].toNat_lt;have t:Hid (zsg x s[k].toNat=zgD (fin n) (s.data.toList.take (k+1))):=by{unfold Hid;rw[zjW _ _ _ d,<-f.o]};have q:Hid (zsg x s[k].toNat<4294967296):=zk9 c j;(go_wp2_with (go_at_call 207;refine(zuJ _ _ _ c j).mono ?_;rintro e w' ⟨rfl,rfl⟩));(go_round);(case rel=>exact⟨k+1,zsg x s[k].toNat,by omega,by go_num,q.o,rfl,t.o⟩);(case measure=>simp[intOf];omega)};{have u:Hid (x=zgD (fin n) s.data.toList):=by{have h:=f.o;rw[Ez (by simp;omega)]at h;exact h};have m:Hid (bits BinOp.xor IntKind.u32 IntKind.u32.max (x:Int)=((fin x:Nat):Int)):=zpN x c;have p:Hid (fin x<4294967296):=zhf c;go_wp2;go_ret;have v:=m.o;have g:=u.o;have y:=p.o;rw[g]at y;exact⟨jW (by rw[v,g];simp[wrap64];omega),rfl⟩})
theorem zh6(n:Nat)(s:zY)(w:zW)(Q:s.size<=8000)(u:n<4294967296): Calls prog 129 #[.int .i64 n,.string s] w fun e w'=>e=.returned (.int .i64 (fin (zgD (fin n) s.data.toList):Nat))/\w'=w:=by have C:Hid (bits BinOp.xor IntKind.u32 (n:Int) 4294967295=((fin n:Nat):Int)):=not_eq n u;have z:Hid (fin n<4294967296):=zhf u;go_enter func129,ntmps129;go_wp2;(go_loop [5,6,7] (fun a i _=>∃k x:Nat,k<=s.size/\i=.int .i64 k/\x<4294967296/\a=.int .u32 x/\x=zgD (fin n) (s.data.toList.take k)) (fun _ i _=>s.size-(intOf i).toNat));(case atStart=>exact⟨0,fin n,En _,rfl,z.o,by rw[C.o],rfl⟩);(case round=>obtain⟨k,x,P,rfl,d,rfl,b⟩:=hrel;have r:Hid (x=zgD (fin n) (s.data.toList.take k)):=b;clear b;by_cases q:k<s.size;{have c:s[k].toNat<256:=s[k].toNat_lt;have D:Hid (zsg x s[k].toNat=zgD (fin n) (s.data.toList.take (k+1))):=by{unfold Hid;rw[zjW _ _ _ q,<-r.o]};have M:Hid (zsg x s[k].toNat<4294967296):=zk9 d c;have p:Hid (x ^^^ s[k].toNat<4294967296):=zgZ d (by omega);have o:Hid (bits BinOp.xor IntKind.u32 (x:Int) (s[k].toNat:Int)=((x ^^^ s[k].toNat:Nat):Int)):=Sm _ _ d (by omega);go_wp2;(go_loop [5,7] (fun a i=>∃j y:Nat,j<=8/\i=.int .i64 j/\y<4294967296/\a=.int .u32 y/\y=stepN j (x ^^^ s[k].toNat)) (fun _ i=>8-(intOf i).toNat));(case atStart=>exact⟨0,x ^^^ s[k].toNat,En _,rfl,p.o,by rw[o.o],rfl⟩);(case round=>obtain⟨j,y,O,rfl,f,rfl,b⟩:=hrel;have l:Hid (y=stepN j (x ^^^ s[k].toNat)):=b;clear b;by_cases L:j<8;{have g:=zy0 y f;by_cases c:y%2=1;{have K:(bits BinOp.and IntKind.u32 (y:Int) 1==1)=true:=by{rw[g,c];rfl};have m:Hid (step y=(y/2) ^^^ 3988292384):=by{unfold Hid step;rw[Ei c]};clear g c;go_wp2;(go_round);(case rel=>exact⟨j+1,step y,by omega,by go_num,zlF f,by rw[m.o,zmN y f],by rw[l.o];rfl⟩);(case measure=>simp[intOf];omega)};{have K:(bits BinOp.and IntKind.u32 (y:Int) 1==1)=false:=by{rw[g];simp;omega};have m:Hid (step y=y/2):=by{unfold Hid step;rw[Eh c]};clear g c;go_wp2;(go_round);(case rel=>exact⟨j+1,step y,by omega,by go_num,zlF f,by rw[m.o];go_num,by rw[l.o];rfl⟩);(case measure=>simp[intOf];omega)}};{have F:Hid (y=zgD (fin n) (s.data.toList.take (k+1))):=by{have h:=l.o;have I:j=8:=by{omega};rw[I]at h;exact h.trans D.o};go_wp2;(go_round);(case rel=>exact⟨k+1,y,by omega,by go_num,f,rfl,F.o⟩);(case measure=>simp[intOf];omega)})};{have E:Hid (x=zgD (fin n) s.data.toList):=by{have h:=r.o;rw[Ez (by simp;omega)]at h;exact h};have v:Hid (bits BinOp.xor IntKind.u32 (x:Int) 4294967295=((fin x:Nat):Int)):=not_eq x d;have B:Hid (fin x<4294967296):=zhf d;go_wp2;go_ret;have G:=v.o;have t:=E.o;have H:=B.o;rw[t]at H;exact⟨jW (by rw[G,t];simp[wrap64];omega),rfl⟩})
def zl4(c:Int)(s:zY):Int:=if s.size<=8000/\0<=c/\c<=4294967295 then (fin (zgD (fin c.toNat) s.data.toList):Nat) else 0
theorem zj2(n:Nat)(s:zY)(a:s.size<=8000)(b:n<4294967296):zl4 n s=(fin (zgD (fin n) s.data.toList):Nat):=by unfold zl4;rw[Ei ⟨a,by omega,by omega⟩,Kf]
theorem ziS(c:Int)(s:zY)(h:¬(s.size<=8000/\0<=c/\c<=4294967295)):zl4 c s=0:=by unfold zl4;rw[Eh h]
theorem zso(c:Int)(s:zY)(w:zW)(a:s.size<=maxLen): Calls prog 165 #[.int .i64 c,.string s] w fun e w'=>e=.returned (.int .i64 (zl4 c s))/\w'=w:=by unfold maxLen at a;by_cases b:8000<s.size;{go_enter func165,ntmps165;go_wp2;go_ret;exact⟨jW (ziS c s (by omega)).symm,rfl⟩};{by_cases d:c<0;{go_enter func165,ntmps165;go_wp2;go_ret;exact⟨jW (ziS c s (by omega)).symm,rfl⟩};{by_cases f:4294967295<c;{go_enter func165,ntmps165;go_wp2;go_ret;exact⟨jW (ziS c s (by omega)).symm,rfl⟩};{obtain⟨n,rfl⟩:=Em (show 0<=c from by omega);rw[zj2 n s (by omega) (by omega)];exact zvh n s w (by omega) (by omega)}}}
theorem zqG(s:zY)(w:zW)(a:s.size<=maxLen): Calls prog 127 #[.string s] w fun e w'=>e=.returned (.int .i64 (zl4 0 s))/\w'=w:=by go_enter func127,ntmps127;(go_wp2_with fail);refine(zso 0 s _ a).mono ?_;rintro e w' ⟨rfl,rfl⟩;go_wp2;go_ret;exact⟨rfl,rfl⟩
end Cr
namespace Se
open Nu (bv Zu zr QP)
def JM(s:zY):Nat:=Cr.fin (Cr.zgD (Cr.fin 0) s.data.toList)
def zpV(n:Nat):List UInt8:=[UInt8.ofNat (n%256),UInt8.ofNat (n/256%256),UInt8.ofNat (n/65536%256),UInt8.ofNat (n/16777216)]
def zcm(n:Nat):zY:=⟨(zpV n).toArray⟩
def qs(t:zY):zY:=if t.size<=7996 then t++zcm (JM t) else ⟨#[]⟩
theorem zeP(s:zY):JM s<4294967296:=Cr.zhf (Cr.zwm _ _ (Cr.zhf (by decide)))
theorem Jc(n:Nat):(zcm n).size=4:=rfl
theorem zsa(s:zY)(h:s.size<=8000):Cr.zl4 0 s=(JM s:Nat):=Cr.zj2 0 s h (by decide)
theorem zty(q:Nat)(x:Int)(a:(q:Int)=x)(h:q<256):bv (UInt8.ofNat q)=.int .u8 x:=by unfold bv;rw[Mh,Fw (by omega),a]
theorem zoT(n:Nat)(h:n<4294967296): (#[.int .u8 ((n:Int)%256),.int .u8 ((n:Int)/256%256),.int .u8 ((n:Int)/65536%256),.int .u8 ((n:Int)/16777216)]:Array Value).toList=(zpV n).map bv:=by simp only[zpV,Ka,Mr];rw[zty (n%256) ((n:Int)%256) (by omega) (by omega),zty (n/256%256) ((n:Int)/256%256) (by omega) (by omega),zty (n/65536%256) ((n:Int)/65536%256) (by omega) (by omega),zty (n/16777216) ((n:Int)/16777216) (by omega) (by omega)]
theorem zjg{P:Program}{src dst e:TypeId}(t:TypeId)(u:zW)(n:Nat)(h:n<4294967296)(b:P.underlying src=some (.slice e))(a:P.underlying e=some (.int .u8))(hd:P.underlying dst=some .string):
  (convert src dst (.slice (some ⟨u.heap.size,0,none⟩) 4 4)).run P (u.alloc (.cells #[.int .u8 ((n:Int)%256),.int .u8 ((n:Int)/256%256),.int .u8 ((n:Int)/65536%256),.int .u8 ((n:Int)/16777216)] t)) =
   .ok (.string (zcm n)) (u.alloc (.cells #[.int .u8 ((n:Int)%256),.int .u8 ((n:Int)/256%256),.int .u8 ((n:Int)/65536%256),.int .u8 ((n:Int)/16777216)] t)) :=
 Zu (P:=P) (zpV n) 4 (E2 u _) (by rw[zoT n h];rfl) b a hd
theorem zhT(n:Nat)(w:zW)(b:n<4294967296): Calls prog 128 #[.int .i64 n] w (zB w (.string (zcm n))):=by have a:=zjg (P:=prog) 5 w n b underlying22 underlying5 underlying9;go_enter func128,ntmps128;go_wp2;go_ret;exact⟨rfl,(Eb _ _).alloc (Ea _) _⟩
theorem zwy(s:zY)(w:zW)(d:s.size<=8000): Calls prog 97 #[.string s] w (zB w (.string (zcm (JM s)))):=by have a:=QP (zsa s d);have b:=zeP s;generalize JM s=n at a b ⊢;have c:=zjg (P:=prog) 155 w n b underlying22 underlying5 underlying9;go_enter func97,ntmps97;(go_wp2_with fail);refine(Cr.zqG s _ (by unfold maxLen;omega)).mono ?_;rw[a.o];rintro e w' ⟨rfl,f⟩;subst w';go_wp2;refine Rx 5 ?_;rw[Pc];go_wp2;rw[Pc];go_wp2;rw[Pc];go_wp2;rw[Pc];go_wp2;rw[Pc];go_wp2;go_ret;exact⟨rfl,(Eb _ _).alloc (Ea _) _⟩
theorem zfF(t:zY)(w:zW)(i:t.size<=maxLen): Calls prog 103 #[.string t] w (zB w (.string (qs t))):=by unfold maxLen at i;by_cases h:7996<t.size;{have a:=QP (show qs t=⟨#[]⟩ by unfold qs;rw[Eh (by omega)]);go_enter func103,ntmps103;go_wp2;go_ret;exact⟨zr a.o.symm,Eb _ _⟩};{have a:=QP (show qs t=t++zcm (JM t) by unfold qs;rw[Ei (by omega)]);have f:=zeP t;have c:=Jc (JM t);have d:=QP c;clear c;have g:(zcm (JM t)).size<=4:=by{rw[d.o];omega};go_enter func103,ntmps103;(go_wp2_with fail);refine(Cr.zh6 0 t _ (by omega) (by omega)).mono ?_;rintro e w' ⟨rfl,j⟩;subst w';(go_wp2_with fail);refine(zhT (JM t) _ f).mono ?_;rintro e w1 ⟨rfl,b⟩;go_wp2;go_ret;exact⟨zr a.o.symm,b⟩}
theorem zbB(t:zY)(w:zW)(f:t.size<=maxLen): Calls prog 73 #[.string t] w (zB w (.string (qs t))):=by unfold maxLen at f;by_cases h:7996<t.size;{have b:=QP (show qs t=⟨#[]⟩ by unfold qs;rw[Eh (by omega)]);go_enter func73,ntmps73;go_wp2;go_ret;exact⟨zr b.o.symm,Eb _ _⟩};{have b:=QP (show qs t=t++zcm (JM t) by unfold qs;rw[Ei (by omega)]);have d:=QP (Jc (JM t));go_enter func73,ntmps73;(go_wp2_with fail);refine(zwy t _ (by omega)).mono ?_;rintro e w1 ⟨rfl,a⟩;(go_wp2_with fail);refine(Nu.jA _ _ _ (by rw[d.o];omega)).mono ?_;rintro e g ⟨rfl,c⟩;go_wp2;go_ret;exact⟨zr b.o.symm,a.trans (c.mono a.size)⟩}
end Se
namespace So
theorem zmi{s m e:Nat}(f:Nat->Nat)(a:s<=m)(b:m<=e)(h:s=m∨m=e):qO s m e f=f:=by funext k;unfold qO;rcases h with rfl|rfl;{(repeat' split);all_goals first|omega|(congr 1;omega)|rfl};{(repeat' split);all_goals first|omega|(congr 1;omega)|rfl}
structure Cut (cl:Nat->Nat->Bool) (a m b mid s e:Nat) (f:Nat->Nat):Prop where
 lo0:a<=s
 smid:s<=mid
 mide:mid<=e
 eb:e<=b
 sm:s<=m
 me:m<=e
 sum:s+e=mid+m
 low:a<s->e<b->lx cl (f (s-1)) (f e)
 high:s<m->m<e->lx cl (f (e-1)) (f s)
section
variable {cl:Nat → Nat → Bool} {a m b mid s e:Nat} {f:Nat → Nat}
theorem Cut.perm(c:Cut cl a m b mid s e f):qt a b f (qO s m e f):=(zaD f c.sm c.me).mono c.lo0 (Fe c.sm c.me) c.eb
theorem Cut.g1(c:Cut cl a m b mid s e f)(k:Nat)(h:k<s):qO s m e f k=f k:=zcA f k (Or.inl h) c.sm c.me
theorem Cut.g2(c:Cut cl a m b mid s e f)(k:Nat)(d:s<=k)(g:k<mid):qO s m e f k=f (k-s+m):=J3 f k d (by have:=c.sum;have:=c.me;omega)
theorem Cut.g3(c:Cut cl a m b mid s e f)(k:Nat)(g:mid<=k)(d:k<e):qO s m e f k=f (k-(e-m)):=zhd f k (by have:=c.smid;omega) (by have:=c.sum;have:=c.me;omega) d
theorem Cut.g4(c:Cut cl a m b mid s e f)(k:Nat)(h:e<=k):qO s m e f k=f k:=zcA f k (Or.inr h) c.sm c.me
theorem Cut.ris1(c:Cut cl a m b mid s e f)(h:Ris cl a m f):Ris cl a s (qO s m e f):=fun i j d g k=>by
 rw[c.g1 i (by omega),c.g1 j k];exact h i j d g (by have:=c.sm;omega)
theorem Cut.ris2(c:Cut cl a m b mid s e f)(h:Ris cl m b f):Ris cl s mid (qO s m e f):=fun i j d k g=>by
 rw[c.g2 i d (by omega),c.g2 j (by omega) g];exact h _ _ (by omega) (by omega) (by have:=c.sum;have:=c.eb;omega)
theorem Cut.ris3(c:Cut cl a m b mid s e f)(h:Ris cl a m f):Ris cl mid e (qO s m e f):=fun i j d k g=>by
 have:=c.sum
 have:=c.me
 rw[c.g3 i d (by omega),c.g3 j (by omega) g];exact h _ _ (by have:=c.lo0;omega) (by omega) (by omega)
theorem Cut.ris4(c:Cut cl a m b mid s e f)(h:Ris cl m b f):Ris cl e b (qO s m e f):=fun i j d g k=>by
 rw[c.g4 i d,c.g4 j (by omega)];exact h i j (by have:=c.me;omega) g k
theorem Cut.sep1(c:Cut cl a m b mid s e f)(h:Sep a m b f):Sep a s mid (qO s m e f):=fun i j d g k l=>by
 rw[c.g1 i g,c.g2 j k l];exact h _ _ d (by have:=c.sm;omega) (by omega) (by have:=c.sum;have:=c.eb;omega)
theorem Cut.sep2(c:Cut cl a m b mid s e f)(h:Sep a m b f):Sep mid e b (qO s m e f):=fun i j d g k l=>by
 have:=c.sum
 have:=c.me
 rw[c.g3 i d g,c.g4 j k];exact h _ _ (by have:=c.lo0;omega) (by omega) (by omega) l
theorem Cut.cross(c:Cut cl a m b mid s e f)(g:zsK cl)(k:Ris cl a m f)(l:Ris cl m b f)(i j:Nat)(q:a<=i)(n:i<mid)(r:mid<=j)(d:j<b):lx cl (qO s m e f i) (qO s m e f j):=by have x:=c.sum;have o:=c.me;have w:=c.sm;have v:=c.smid;have t:=c.mide;by_cases u:i<s;{rw[c.g1 i u];by_cases h:j<e;{rw[c.g3 j r h];exact k _ _ q (by omega) (by omega)};{rw[c.g4 j (by omega)];have:=c.low (by omega) (by omega);have p:lx cl (f i) (f e):=k.le (j:=s-1) q (by omega) (by omega) g this;exact l.ge (i:=e) o (by omega) d g p}};{rw[c.g2 i (by omega) n];by_cases h:j<e;{rw[c.g3 j r h];have:=c.high (by omega) (by omega);have p:lx cl (f (i-s+m)) (f s):=l.le (j:=e-1) (by omega) (by omega) (by have:=c.eb;omega) g this;exact k.ge (i:=s) c.lo0 (by omega) (by omega) g p};{rw[c.g4 j (by omega)];exact l _ _ (by omega) (by omega) d}}
end
theorem halves{c:Nat->Nat->Bool}{a mid b:Nat}{g g1 g2:Nat->Nat}(w:∀i j,a<=i->i<mid->mid<=j->j<b->lx c (g i) (g j))(r:a<=mid)(s:mid<=b)(f:qt a mid g g1)(l:qt mid b g1 g2)(x:Ris c a mid g1)(y:Ris c mid b g2):qt a b g g2/\Ris c a b g2:=by refine⟨(f.mono (Ea _) r s).trans (l.mono r s (Ea _)),?_⟩;have m:∀i,a<=i->i<mid->g2 i=g1 i:=fun i _ h=>l.2 i (Or.inl h);refine Ris.join (x.congr m) y (fun i j n o d e=>?_);rw[m i n o];have q:∀j,mid<=j->j<b->lx c (g1 i) (g2 j):=by{refine l.all (p:=fun v=>lx c (g1 i) v) (fun j d e=>?_);rw[f.2 j (Or.inr d)];exact f.all (p:=fun v=>lx c v (g j)) (fun k t u=>w k j t u d e) i n o};exact q j d e
def Ch(cl:Nat->Nat->Bool)(a b:Nat)(f:Nat->Nat):Prop:=Ris cl a b f/\∀i,a<=i->i<b->a<=f i/\f i<b
section
variable {cl:Nat → Nat → Bool} {a m b:Nat} {f g:Nat → Nat}
theorem Ch.congr(h:Ch cl a b f)(e:∀i,a<=i->i<b->g i=f i):Ch cl a b g :=
 ⟨h.1.congr e,fun i c d=>by rw[e i c d];exact h.2 i c d⟩
theorem Ch.sep(c:Ch cl a m f)(d:Ch cl m b f):Sep a m b f:=fun i j e g h k=>by
 have:=(c.2 i e g).2
 have:=(d.2 j h k).1
 omega
theorem Ch.merge(c:Ch cl a m f)(d:Ch cl m b f)(k:a<=m)(l:m<=b)(p:qt a b f g)(r:Ris cl a b g):Ch cl a b g :=
 ⟨r,p.all (p:=fun v=>a<=v/\v<b) fun i h j=>by
  rcases Ky i m with e|e
  ·have:=c.2 i h e;omega
  ·have:=d.2 i e j;omega⟩
theorem Ch.start(c:∀i,a<=i->i<b->f i=i)(p:qt a b f g)(r:Ris cl a b g):Ch cl a b g :=
 ⟨r,p.all (p:=fun v=>a<=v/\v<b) fun i d e=>by rw[c i d e];omega⟩
end
def Chs(cl:Nat->Nat->Bool)(bs n lo hi:Nat)(f:Nat->Nat):Prop:=∀c,lo<=bs*c->bs*c<hi->Ch cl (bs*c) (min (bs*c+bs) n) f
section
variable {cl:Nat → Nat → Bool} {bs n k:Nat} {f g:Nat → Nat}
theorem Chs.none:Chs cl bs n 0 0 f:=fun _ _ h=>absurd h (Kd _)
theorem ze6{c:Nat}(h:bs*k<bs*c):bs*k+bs<=bs*c:=by have:k<c:=Nat.lt_of_mul_lt_mul_left h;have:=U6 bs (show k+1<=c from this);rw[Oi]at this;exact this
theorem Chs.more(h:Chs cl bs n 0 (bs*k) f)(b:bs*k+bs<=n)(e:∀i,i<bs*k->g i=f i)(d:Ch cl (bs*k) (bs*k+bs) g):Chs cl bs n 0 (bs*k+bs) g:=by intro c a j;rcases Oy (bs*c) (bs*k) with q|q|q;{have:=ze6 q;exact(h c a q).congr fun i l m=>e i (by omega)};{rw[q,Lg b];exact d};{have:=ze6 q;omega}
theorem Chs.last(h:Chs cl bs n 0 (bs*k) f)(j:n<bs*k+bs)(e:∀i,i<bs*k->g i=f i)(b:Ch cl (bs*k) n g):Chs cl bs n 0 n g:=by intro c a d;rcases Oy (bs*c) (bs*k) with q|q|q;{have:=ze6 q;exact(h c a q).congr fun i l m=>e i (by omega)};{rw[q,Nw (by omega)];exact b};{have:=ze6 q;omega}
theorem Chs.rest{b a:Nat}(h:Chs cl bs n b n f)(k:b<=a)(e:∀i,a<=i->i<n->g i=f i):Chs cl bs n a n g:=by intro c j d;exact(h c (by omega) d).congr fun i l m=>e i (by omega) (by omega)
theorem Chs.at0{a:Nat}(h:Chs cl bs n a n f)(b:a=bs*k)(c:a<n):Ch cl a (min (a+bs) n) f:=by subst b;exact h k (Ea _) c
theorem Chs.at1{a:Nat}(h:Chs cl bs n a n f)(b:a=bs*k)(c:a+bs<n):Ch cl (a+bs) (min (a+bs+bs) n) f:=by subst b;have:=h (k+1) (by rw[Oi];omega) (by rw[Oi];exact c);rw[Oi]at this;exact this
theorem Chs.whole(h:Chs cl bs n 0 n f)(b:n<=bs):Ris cl 0 n f:=by rcases Lo n with e|e;{subst e;exact fun i j _ _ a=>absurd a (Kd _)};{have:=(h 0 (En _) (by rw[Pu];exact e)).1;rw[Pu,Ff,Nw b]at this;exact this}
end
end So
namespace So
open Go.RowKit Go.Sort Go.Proofs
open Sh (bt ZB)
theorem Zl{w:zW}{blk:Nat}{d:Array Nat}(h:HoldsK encI 1 w blk 0 d){i:Nat}(b:i<d.size): w.cell? ⟨blk,i,none⟩=some (.int .i64 (d[i]!:Nat))/\w.frozen? ⟨blk,i,none⟩=false:=by have a:=h.cell (i:=i) (c:=0) b (by omega);rw[Ff,Ms,K3]at a;exact⟨a.1,a.2⟩
def clI(t:zY)(x y:Nat):Bool:=decide (bt t x<bt t y)
theorem Qa(t:zY):zsK (clI t) where
 irrefl x:=by simp[clI]
 trans x y z h1 h2:=by
  simp only[clI,Fz]at *;omega
 ntrans x y z h1 h2:=by
  simp only[clI,Sx]at *;omega
def cfI(t:zY)(x y:Nat):Int:=if bt t x<bt t y then -1 else if bt t y<bt t x then 1 else 0
theorem zhW(t:zY)(x y:Nat):decide (cfI t x y<0)=clI t x y:=by unfold cfI clI;by_cases h:bt t x<bt t y;{simp[h]};{by_cases a:bt t y<bt t x<;>simp[h,a]}
def Cap(w:zW)(c:Nat)(t:zY):Prop:=w.cell? ⟨c,0,none⟩=some (.string t)
theorem Cap.block{w w':zW}{c:Nat}{t:zY}(h:Cap w c t)(e:w'.heap[c]?=w.heap[c]?):Cap w' c t:=by unfold Cap at h ⊢;simp only[World.cell?]at h ⊢;rw[e];exact h
theorem Cap.lt{w:zW}{c:Nat}{t:zY}(h:Cap w c t):c<w.heap.size:=by refine Nat.lt_of_not_le fun a=>?_;unfold Cap at h;simp only[World.cell?]at h;rw[Kz a]at h;simp at h
theorem qt.bd{a b N:Nat}{f g:Nat->Nat}(h:qt a b f g)(d:∀i,f i<N)(i:Nat):g i<N:=by by_cases c:a<=i/\i<b;{exact h.all (p:=fun v=>v<N) (fun j _ _=>d j) i c.1 c.2};{rw[h.2 i (by omega)];exact d i}
theorem zy9(y:UInt8)(w:zW):Calls prog 287 #[.int .u8 (y.toNat:Nat)] w fun e w'=>e=.returned (.bool false)/\w'=w:=by have h:(((y.toNat:Nat):Int) != ((y.toNat:Nat):Int))=false:=by{simp};go_enter func287,ntmps287;(go_wp2_with fail);go_ret;exact⟨rfl,rfl⟩
theorem zre(s t:UInt8)(w:zW):Calls prog 281 #[.int .u8 (s.toNat:Nat),.int .u8 (t.toNat:Nat)] w fun e w'=>e=.returned (.int .i64 (if s.toNat<t.toNat then -1 else if t.toNat<s.toNat then 1 else 0))/\w'=w:=by have c:=zc (zy9 s);have d:=zc (zy9 t);obtain⟨p,g⟩:∃p,p=s.toNat:=⟨_,rfl⟩;obtain⟨q,h⟩:∃q,q=t.toNat:=⟨_,rfl⟩;rw[<-g]at c;rw[<-h]at d;rw[<-g,<-h];clear g h;by_cases i:p<q;{rw[Ei i];have f:(p:Int)<(q:Int):=by{omega};have a:¬(q:Int)<(p:Int):=by{omega};go_enter func281,ntmps281;(go_wp2_with fail);refine(c.o w).mono ?_;rintro e w' ⟨rfl,b⟩;subst w';(go_wp2_with fail);refine(d.o w).mono ?_;rintro e w' ⟨rfl,b⟩;subst w';(go_wp2_with fail);go_ret;exact⟨rfl,rfl⟩};{rw[Eh i];have f:¬(p:Int)<(q:Int):=by{omega};by_cases j:q<p;{rw[Ei j];have a:(q:Int)<(p:Int):=by{omega};go_enter func281,ntmps281;(go_wp2_with fail);refine(c.o w).mono ?_;rintro e w' ⟨rfl,b⟩;subst w';(go_wp2_with fail);refine(d.o w).mono ?_;rintro e w' ⟨rfl,b⟩;subst w';(go_wp2_with fail);go_ret;exact⟨rfl,rfl⟩};{rw[Eh j];have a:¬(q:Int)<(p:Int):=by{omega};go_enter func281,ntmps281;(go_wp2_with fail);refine(c.o w).mono ?_;rintro e w' ⟨rfl,b⟩;subst w';(go_wp2_with fail);refine(d.o w).mono ?_;rintro e w' ⟨rfl,b⟩;subst w';(go_wp2_with fail);go_ret;exact⟨rfl,rfl⟩}}
theorem zuj(t:zY)(c x y:Nat)(w:zW)(f:Cap w c t)(k:x<t.size)(o:y<t.size):Calls prog 280 #[.int .i64 x,.int .i64 y,.pointer (some ⟨c,0,none⟩)] w fun e w'=>e=.returned (.int .i64 (cfI t x y))/\∃q g,w'=grow (w.drewN q) g:=by have mixed:=mixed;have l:(x:Int)<(t.size:Int):=by{omega};have s:(y:Int)<(t.size:Int):=by{omega};obtain⟨p,u,a⟩:∃p:UInt8,t[x]=p/\p.toNat=bt t x:=⟨_,rfl,ZB _ _ k⟩;obtain⟨q,v,b⟩:∃q:UInt8,t[y]=q/\q.toNat=bt t y:=⟨_,rfl,ZB _ _ o⟩;have d:=zc (fun(W:zW)=>(zre p q W).mono (fun e w' (h:_/\w'=W)=>(⟨h.1,0,h.2⟩:_/\∃m,w'=W.drewN m)));unfold cfI;rw[a,b]at d;generalize (if bt t x<bt t y then (-1:Int) else if bt t y<bt t x then 1 else 0)=r at d ⊢;have j:∀n,(w.drewN n).cell? ⟨c,0,none⟩=some (.string t):=fun n=>f;have i:w.cell? ⟨c,0,none⟩=some (.string t):=f;rw[<-a,<-b]at d;clear f a b;go_enter func280,ntmps280;(go_wp2_with fail);(go_quiet (first|(go_at_call 281;refine Me (d.o _))));(all_goals (try go_wp2_with fail));go_ret;exact⟨rfl,nq,#[],(grow_empty _).symm⟩
end So
namespace So
open Go.RowKit Go.Sort Go.Proofs
theorem zl1(blk F a b n:Nat)(d:Array Nat)(w:zW)(Z:Value)(H:HoldsK encI 1 w blk 0 d)(j:blk<w.heap.size)(aa:a+n<=b)(hb:b+n<=d.size)(L:d.size<=1048576): Calls prog 293 #[.slice (some ⟨blk,0,none⟩) d.size F,.int .i64 a,.int .i64 b,.int .i64 n,Z] w fun e w'=>e=.returned (.tuple #[])/\∃m G,w'=sortWorldK encI 1 w blk 0 m G #[]/\G.size=d.size/\dF G=zgB a b n (dF d):=by have D:=zc (qH H);have HH:=zc H;clear H;obtain⟨z,M⟩:∃z,z=d.size:=⟨_,rfl⟩;have S:=zc M;rw[<-M]at hb L ⊢;clear M;go_enter func293,ntmps293;(go_wp2_with fail);(go_loopw [10] (fun i wr=>∃(k m:Nat) (c:Array Nat),i=.int .i64 k/\k<=n/\c.size=z/\dF c=zgB a b k (dF d)/\wr=sortWorldK encI 1 w blk 0 m c #[]) (fun i _=>n-(intOf i).toNat));(case atStart=>exact⟨0,0,d,rfl,En _,S.o.symm,(zkz a b (dF d)).symm,D.o⟩);(case round=>obtain⟨k,m,c,rfl,hk,h,s,r⟩:=hrel;have Q:=zc s;have f:=zc h;have B:=zc (zt HH.o j (m+1) c #[] (by rw[h,S.o]));have R:=zc r;have g:wr.drew=sortWorldK encI 1 w blk 0 (m+1) c #[]:=by{rw[r];rfl};have W:=zc g;clear s r;by_cases ab:k<n;{obtain⟨p,I⟩:∃p,p=a+k:=⟨_,rfl⟩;obtain⟨q,K⟩:∃q,q=b+k:=⟨_,rfl⟩;have ep:(a:Int)+(k:Int)=(p:Int):=by{omega};have eq:(b:Int)+(k:Int)=(q:Int):=by{omega};have ae:p<z:=by{omega};have ag:q<z:=by{omega};have ac:p<q:=by{omega};have X:Hid (p=a+k/\q=b+k):=⟨I,K⟩;obtain⟨x,t⟩:∃x,x=c[p]!:=⟨_,rfl⟩;obtain⟨y,u⟩:∃y,y=c[q]!:=⟨_,rfl⟩;have hd:wr.drew=sortWorldK encI 1 w blk 0 (m+1) c #[]:=g;have l:HoldsK encI 1 wr blk 0 c:=by{have:HoldsK encI 1 wr.drew blk 0 c:=by{rw[hd];exact B.o};exact this};have o:((wr.drew.setCells blk (0+p*1) (encI y)).setCells blk (0+q*1) (encI x))=sortWorldK encI 1 w blk 0 (m+1) (Go.Sort.swp c p q) #[]:=by{rw[R.o,t,u];exact sortWorldK_swp_c encI 1 w blk 0 ze5 m c #[] j p q (by omega) (by omega)};rw[Ff,Ff,K3,K3]at o;obtain⟨O,ah⟩:=Zl l (i:=p) (by omega);obtain⟨P,ai⟩:=Zl l (i:=q) (by omega);rw[<-t]at O;rw[<-u]at P;have ad:IntKind.i64.wrap (p:Int)=(p:Int):=by{rw[E1];omega};have af:IntKind.i64.wrap (q:Int)=(q:Int):=by{rw[E1];omega};have U:(p:Int)<(z:Int):=by{omega};have V:(q:Int)<(z:Int):=by{omega};have E:=zc o;have Y:Hid (x=c[p]!/\y=c[q]!):=⟨t,u⟩;have C:Hid (So.swp (zgB a b k (dF d)) p q=zgB a b (k+1) (dF d)):=by{unfold Hid;rw[I,K];exact zj7 a b k (dF d) (by omega)};clear hd g t u I K h l o;(go_wp2_with fail);(go_region);(all_goals (try go_wp2_with fail));(all_goals go_roundw);(case rel=>refine⟨k+1,m+1,Go.Sort.swp c p q,by go_num,by omega,by rw[Nc];exact f.o,?_,E.o⟩;rw[zej c p q (by have:=f.o;omega) (by have:=f.o;omega),Q.o];exact C.o);(case measure=>simp[intOf];omega)};{obtain rfl:k=n:=by{omega};clear g h;(go_wp2_with fail);refine Ku (v:=.tuple #[]) (by simp[results,results293,go_sem]) rfl ⟨rfl,m,c,R.o,f.o,Q.o⟩})
end So
namespace Sh
theorem zlI(k:IntKind)(n:Nat):(madeCells (Value.int k 0).cells (n*1)).toList=(qN k n (fun _=>0)).toList:=by apply Mp;intro i;by_cases a:i<n;{simp[madeCells,qN,a,Value.cells,Sj]};{simp[madeCells,qN,a,Value.cells]}
theorem zke{k:IntKind}{w:zW}{base e g n:Nat}(h:w.ownsRow base e 1 (.slice (some ⟨g,0,none⟩) n n) n (madeCells (Value.int k 0).cells (n*1)).toList):IsB w g e k n (fun _=>0):=by obtain⟨_,h⟩:=h;rcases h with⟨h,_⟩|⟨j,i,b,f,_,d,_,_,c,a⟩;{simp at h};{simp at f;obtain⟨rfl,rfl⟩:=f;rw[zlI,Ez (by simp[c])]at a;have:b=qN k n (fun _=>0):=by{simpa using a};rw[this]at d;exact d}
theorem Qg{w:zW}{base e n:Nat}{v:Value}{k:IntKind}{f:Nat->Int}(s:0<n)(h:w.ownsRow base e 1 v n (qN k n f).toList): ∃g c,v=.slice (some ⟨g,0,none⟩) n c/\base<=g/\g<w.heap.size/\∀j,j<n->w.cell? ⟨g,j,none⟩=some (.int k (f j)):=by obtain⟨_,h⟩:=h;rcases h with⟨_,h⟩|⟨g,b,a,r,m,i,p,_,q,d⟩;{omega};{refine⟨g,b,r,m,(Ev.1 i).1,fun j o=>?_⟩;rw[El w g j a e (0,0) i];have l:a.toList[j]?=(a.toList.take (n*1))[j]?:=by{rw[Fd (by omega)]};rw[<-Fs,l,d,Fs];exact zbX k n f j o}
theorem zbc(k:IntKind)(n:Nat)(f:Nat->Int):(qN k n f).toList++[.int k (f n)]=(qN k (n+1) f).toList:=by simp[qN,Kx]
theorem Js(t:zY)(j:Nat)(h:j<t.size):∃y:UInt8,t[j]=y/\y.toNat=bt t j:=⟨t[j],rfl,ZB t j h⟩
theorem zqZ(B:Nat->Nat)(k:Nat)(a b c e:Nat)(f:a=B (4*k))(g:b=B (4*k+1))(h:c=B (4*k+2))(i:e=B (4*k+3))(d:∀j,B j<256): bits BinOp.or IntKind.u32 (bits BinOp.or IntKind.u32 (bits BinOp.or IntKind.u32 ((a:Int)*16777216) ((b:Int)*65536)) ((c:Int)*256)) (e:Int)=((word B k:Nat):Int):=by have l:=d (4*k);have m:=d (4*k+1);have n:=d (4*k+2);have o:=d (4*k+3);rw[<-f]at l;rw[<-g]at m;rw[<-h]at n;rw[<-i]at o;rw[show (a:Int)*16777216=((a*16777216:Nat):Int) by simp,show (b:Int)*65536=((b*65536:Nat):Int) by simp,show (c:Int)*256=((c*256:Nat):Int) by simp];rw[Va _ _ (by omega) (by omega),Sw 24 (a*16777216) (b*65536) (by omega) (by omega),Va _ _ (by omega) (by omega),Sw 16 (a*16777216+b*65536) (c*256) (by omega) (by omega),Va _ _ (by omega) (by omega),Sw 8 (a*16777216+b*65536+c*256) e (by omega) (by omega)];simp only[word,part,Ms,<-f,<-g,<-h,<-i];omega
end Sh
namespace Se
open Nu (bv Zu zr QP)
def qY(t:zY)(at_ code:Int):Value:=.agg #[.string t,.int .i64 at_,.int .i64 code]
def qu(s:zY):Value :=
 if 8000<s.size then qY ⟨#[]⟩ 0 2 else if s.size<4 then qY ⟨#[]⟩ 0 4
 else if qs (s.extract 0 (s.size-4))=s then qY (s.extract 0 (s.size-4)) 0 0 else qY ⟨#[]⟩ 0 5
theorem zby{W w1:zW}(a:zU W w1):(∀b o,b<W.heap.size->w1.cell? ⟨b,o,none⟩=W.cell? ⟨b,o,none⟩)/\(∀b o,b<W.heap.size->w1.frozen? ⟨b,o,none⟩=W.frozen? ⟨b,o,none⟩) :=
 ⟨fun b o h=>a.cell (p:=⟨b,o,none⟩) h,fun b o h=>a.frozen (p:=⟨b,o,none⟩) h⟩
theorem zjh{w a b:zW}{o:Obj}(c:Below (w.alloc o).heap.size (w.alloc o) a)(d:Below (w.alloc o).heap.size a b):zU w b :=
 ((Eb w.heap.size w).alloc (Ea _) o).trans ((c.trans d).mono (by simp))
theorem zpT{w a:zW}{o:Obj}(b:Below (w.alloc o).drew.heap.size (w.alloc o).drew a):zU w a :=
 ((Eb w.heap.size w).alloc (Ea _) o).drew.trans (b.mono (by simp))
theorem Zi(a b:zY):(a.toList==b.toList)=decide (a=b):=by by_cases h:a=b;{rw[h];simp};{rw[Ed h,Es];intro e;apply h;rw[K9,K9]at e;have c:a.data=b.data:=by{rw[<-Ln (xs:=a.data),e,Ln]};cases a;cases b;simpa using c}
theorem zaH(s t:zY)(a:¬8000<s.size)(b:¬s.size<4)(c:t=s.extract 0 (s.size-4))(h:qs t=s):qu s=qY t 0 0:=by unfold qu;rw[Eh a,Eh b,<-c,Ei h]
theorem zch(s t:zY)(a:¬8000<s.size)(b:¬s.size<4)(c:t=s.extract 0 (s.size-4))(h:¬qs t=s):qu s=qY ⟨#[]⟩ 0 5:=by unfold qu;rw[Eh a,Eh b,<-c,Eh h]
theorem zau(s:zY)(w:zW)(x:s.size<=maxLen): Calls prog 90 #[.string s] w (zB w (qu s)):=by unfold maxLen at x;by_cases l:8000<s.size;{have c:=QP (show qu s=qY ⟨#[]⟩ 0 2 by unfold qu;rw[Ei l]);go_enter func90,ntmps90;go_wp2;refine Ec (v:=qY ⟨#[]⟩ 0 2) (by simp[results,qY,results90,go_sem]) rfl ⟨by rw[c.o],?_⟩;exact(Eb _ _).alloc (Ea _) _};{by_cases m:s.size<4;{have c:=QP (show qu s=qY ⟨#[]⟩ 0 4 by unfold qu;rw[Eh l,Ei m]);go_enter func90,ntmps90;go_wp2;refine Ec (v:=qY ⟨#[]⟩ 0 4) (by simp[results,qY,results90,go_sem]) rfl ⟨by rw[c.o],?_⟩;exact(Eb _ _).alloc (Ea _) _};{obtain⟨t,k⟩:∃t,t=s.extract 0 (s.size-4):=⟨_,rfl⟩;have y:t.size<=7996:=by{rw[k];simp;omega};have r:=QP k;by_cases j:qs t=s;{have c:=QP (zaH s t l m k j);have u:((qs t).toList==s.toList)=true:=by{rw[Zi];exact Eo j};clear k j;go_enter func90,ntmps90;(go_wp2_with fail);rw[show ((s.size:Int)-4)=((s.size-4:Nat):Int) from by omega];refine(Nu.zcM s 0 (s.size-4) _ (by omega) (by omega) (by omega)).mono ?_;rw[<-r.o];rintro e i ⟨rfl,a⟩;obtain⟨d,n⟩:=zby a;have h:w.heap.size+1<=i.heap.size:=by{have:=a.size;simpa using this};(go_wp2_with fail);refine(zbB t _ (by unfold maxLen;omega)).mono ?_;rintro e q ⟨rfl,b⟩;obtain⟨f,o⟩:=zby b;have p:i.heap.size<=q.heap.size:=b.size;have g:w.heap.size<i.heap.size:=by{omega};go_wp2;refine Ec (v:=qY t 0 0) (by simp[results,qY,results90,go_sem,f,d,g]) rfl ⟨by rw[c.o],?_⟩;exact((zjh a (b.mono (by simpa using h))).setCell (Ea _) _ |>.setCell (Ea _) _).setCell (Ea _) _};{have c:=QP (zch s t l m k j);have u:((qs t).toList==s.toList)=false:=by{rw[Zi];exact Ed j};clear k j;go_enter func90,ntmps90;(go_wp2_with fail);rw[show ((s.size:Int)-4)=((s.size-4:Nat):Int) from by omega];refine(Nu.zcM s 0 (s.size-4) _ (by omega) (by omega) (by omega)).mono ?_;rw[<-r.o];rintro e i ⟨rfl,a⟩;obtain⟨d,n⟩:=zby a;have h:w.heap.size+1<=i.heap.size:=by{have:=a.size;simpa using this};(go_wp2_with fail);refine(zbB t _ (by unfold maxLen;omega)).mono ?_;rintro e q ⟨rfl,b⟩;obtain⟨f,o⟩:=zby b;have p:i.heap.size<=q.heap.size:=b.size;have g:w.heap.size<i.heap.size:=by{omega};go_wp2;refine Ec (v:=qY ⟨#[]⟩ 0 5) (by simp[results,qY,results90,go_sem,f,d,g]) rfl ⟨by rw[c.o],?_⟩;exact((zjh a (b.mono (by simpa using h))).setCell (Ea _) _ |>.setCell (Ea _) _).setCell (Ea _) _}}}
end Se
namespace Sh
theorem jJ{P:Program}{p:Array Oper}{o:Oper}{a:Act}{w:zW}{K:Act->zW->Prop}{Q:Exit->Act->zW->Prop}{E:Prop}(H:o.guard=none)(s x:Operand)(t:TypeId)(M:o.op=.call { callee:=.builtin .append,args:=#[s,x],argTypes:=#[t,t] })(base:Nat)(e:TypeId)(i:TypeInfo)(z:Value)(size b:Nat)(R:P.underlying t=some (.slice e))(I:P.info? e=some i)(V:i.zero=some z)(k:i.size=size)(y:i.bytes=b)(C:z.cells.size=size)(B:0<size)(v:Value)(n:Nat)(xs:List Value)(O:a.eval s=v)(l:w.ownsRow base e size v n xs)(q:Addr)(m c:Nat)(news:List Value)(U:a.eval x=.slice (some q) m c)(L:news.length=m*size)(g:∀j u,news[j]?=some u->w.cell? (q.add j)=some u)(D:∀u∈news,u.oneCell'=true)(r:n+m<=maxLen)(d:(n+m)*b<=140737488355328)(f:base<=w.heap.size)(h:∀v' w',w'.ownsRow base e size v' (n+m) (xs++news)->w.grownBy w' v.ownBlock->K (a.put o.dst v') w'): if Region.wanted o (yielded p a.tmps)=true then Oper.wp P o a w K Q else E:=by have S:Region.wanted o (yielded p a.tmps)=true:=by{simp[Region.wanted,H]};rw[Ei S];exact wp_append_own w s x t M base e i z size b R I V k y C B v n xs O l q m c news U L g D r d f fun v' w' F G _=>h v' w' F G
theorem zq9(W:zW)(x:Value)(t:TypeId):∀(j:Nat) (u:Value),[x][j]?=some u->(W.alloc (.cells #[x] t)).cell? ((⟨W.heap.size,0,none⟩:Addr).add j)=some u:=by intro j u a;match j,a with|0,a=>{simp at a;subst a;simp[Addr.add]}
theorem one_cell(k:IntKind)(x:Int):∀u∈[Value.int k x],u.oneCell'=true:=by intro u a;simp at a;subst a;rfl
theorem Qb(W:zW)(base t:Nat)(h:base<=W.heap.size):(W.alloc (.cells #[] t)).ownsRow base t 1 (.slice (some ⟨W.heap.size,0,none⟩) 0 0) 0 [] :=
 ⟨rfl,Or.inr ⟨W.heap.size,0,#[],rfl,h,heap_alloc_last W _,Ea _,by decide,rfl,rfl⟩⟩
theorem zxo{B:Nat}{e:TypeId}{w wr w1:zW}{v:Value}{n size:Nat}{xs:List Value}{o:Obj}(b:Below B w wr)(d:B<=wr.heap.size)(c:wr.ownsRow B e size v n xs)(a:(wr.drew.alloc o).grownBy w1 v.ownBlock):Below B w w1:=by refine(b.drew.alloc d o).grown a (by simp;omega) ?_;intro k f;exact(c.lt k f).1
theorem zfw{P:Program}{d:Nat}{Q:Exit->Act->zW->Prop}{a:Act}{w:zW}{l:List Oper}(c:P.follows .mixedOrders=true)(b:Region.lexB .any l.toArray=true)
  (h:wpStill P l.toArray w.drew (fun a'=>Q .normal a' w.drew) l a):(Code.region d l.toArray true).wp P Q a w :=
 wp_region_still_lit c b h
theorem zgX{P:Program}{d:Nat}{Q:Exit->Act->zW->Prop}{a:Act}{w:zW}{l:List Oper}(n:Nat)(c:P.follows .mixedOrders=true)(b:Region.lexTailB .any l.toArray n=true)
  (h:wpStill P l.toArray w.drew (fun a'=>wpList P l.toArray Q (l.drop n) a' w.drew) (l.take n) a):(Code.region d l.toArray true).wp P Q a w :=
 wp_region_still_tail n c b h
theorem zrQ(t:zY)(j:Nat)(h:j<t.size+1):(if j=t.size then 128 else bt t j)=pad t j:=by by_cases e:j=t.size;{subst e;simp[pad,zoH]};{have:j<t.size:=by{omega};simp[pad,zoH,e,this]}
theorem zs4(t:zY)(n:Nat)(d:t.size<n)(e:n+8<chunks t.size*64):pad t n=0:=by have a:¬n<t.size:=by{omega};have b:¬n=t.size:=by{omega};have c:¬chunks t.size*64<=n+8:=by{omega};simp[pad,zoH,a,b,c]
theorem zxB(t:zY)(m:Nat)(f:m<8):pad t (chunks t.size*64-8+m)=t.size*8/2 ^ (56-8*m)%256:=by have g:=Jl t.size;have a:¬chunks t.size*64-8+m<t.size:=by{omega};have b:¬chunks t.size*64-8+m=t.size:=by{omega};have c:chunks t.size*64<=chunks t.size*64-8+m+8:=by{omega};have d:chunks t.size*64-1-(chunks t.size*64-8+m)=7-m:=by{omega};have e:8*(7-m)=56-8*m:=by{omega};simp only[pad,zoH,Eh a,Eh b,Ei c,d,e]
theorem zrn(t:zY)(n x:Nat)(a:x=pad t n)(j:Nat):(if j=n then x else pad t j)=pad t j:=by by_cases e:j=n;{subst e;simp[a]};{simp[e]}
theorem zgV(B a:Nat->Nat)(h:∀j,j<64->B j=a j)(i:Nat)(b:i<16):∀j,j<=4->part B i j=part a i j
 |0,_=>rfl
 |j+1,hj=>by simp only[part];rw[zgV B a h i b j (by omega),h _ (by omega)]
theorem ztn(B a:Nat->Nat)(h:∀j,j<64->B j=a j)(i:Nat):wv B i=wv a i:=by induction i using Nat.strongRecOn with|_ i c=>{by_cases b:i<16;{rw[zxW B i b,zxW a i b];simp only[word];rw[zgV B a h i b 4 (Ea _)]};{rw[zvf B i b,zvf a i b,c (i-16) (by omega),c (i-15) (by omega),c (i-7) (by omega),c (i-2) (by omega)]}}
theorem zkf(B a:Nat->Nat)(s:Nat->Int)(h:∀j,j<64->B j=a j):∀k,run B s k=run a s k
 |0=>rfl
 |k+1=>by simp only[run];rw[zkf B a s h k,ztn B a h k]
theorem zpX(B a:Nat->Nat)(s:Nat->Int)(h:∀j,j<64->B j=a j):blk B s=blk a s:=by funext j;simp only[blk];rw[zkf B a s h 64]
theorem zw8(t:zY)(k:Nat)(s:Nat->Int):blk (bt (ZX 64 (zvF t k))) s=blk (zvF t k) s :=
 zpX _ _ s (fun j a=>zap 64 _ j a (zqF t k j))
theorem zkN(j:Nat):0<=zeu j/\zeu j<4294967296:=by by_cases h:j<8;{have:j=0∨j=1∨j=2∨j=3∨j=4∨j=5∨j=6∨j=7:=by{omega};rcases this with rfl|rfl|rfl|rfl|rfl|rfl|rfl|rfl<;>decide};{simp[zeu,zpf,List.getD,Lf (show [1779033703,3144134277,1013904242,2773480762,1359893119,2600822924,528734635,(1541459225:Int)].length<=j by simp;omega)]}
theorem zoD(t:zY)(k j:Nat):0<=shaS t k j/\shaS t k j<4294967296:=by cases k with|zero=>{exact zkN j}|succ k=>{simp only[shaS,blk];omega}
end Sh
end Go.Proofs.YtoojegpaofdbfaaGreatDoor
