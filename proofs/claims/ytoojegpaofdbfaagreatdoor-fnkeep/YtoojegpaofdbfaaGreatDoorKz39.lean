import Derived.Test.YtoojegpaofdbfaaGreatDoorKz0
import Derived.Test.YtoojegpaofdbfaaGreatDoorProg
import Derived.WalkSpells
import Derived.LaidEql
import Derived.Stop.Asserts
import Derived.RowKitTokens
import Derived.Test.YtoojegpaofdbfaaGreatDoorChecked
import Derived.WalkLawsBesides
import Derived.Deep.QuietTactic
import Derived.Laws.BitsAllLaws
set_option maxRecDepth 100000
set_option maxHeartbeats 8000000
set_option linter.unusedSimpArgs false
namespace Go.Proofs.YtoojegpaofdbfaaGreatDoor
open Go.RowKit
open Go.Proofs.Tryz
open Go.RowKit Go.Extern.Stop Go.Stop Go.Extern
theorem Tryz.valueOfP(t:Addr)(w:zW):(ReflectliteValue.unpack (.iface 182 (.pointer (some t)))).run prog w
  = .ok (.agg #[.pointer (some ⟨4,182,none⟩),.pointer (some ⟨w.heap.size,0,none⟩),.int .u64 150]) (w.alloc (.cells #[.pointer (some t)] 182)):=by kernel_rfl
theorem Tryz.typeP(a:Addr)(w:zW):(ReflectliteValue.methodAny (ReflectliteValue.valueError "reflectlite.Value.Type" 0) (fun t _ _ _=>ReflectliteType.toType t) #[.agg #[.pointer (some ⟨4,182,none⟩),.pointer (some a),.int .u64 150]]).run prog w
  = .ok (.iface 195 (.agg #[.pointer (some ⟨4,182,none⟩)])) w:=by kernel_rfl
theorem Tryz.methodKind(h:Value)(w:zW):(Go.method 451 195 (.agg #[h]) "Kind").run prog w=.ok (308,h) w:=by kernel_rfl
theorem Tryz.kindP(w:zW):((ReflectliteType.abiMethod fun t=>(fun a:Nat=>Value.int IntKind.u8 (a:Int)) <$> Rtype.kind t) #[.pointer (some ⟨4,182,none⟩)]).run prog w=.ok (.int .u8 22) w:=by kernel_rfl
theorem Tryz.kindD(w:zW):((ReflectliteType.abiMethod fun t=>(fun a:Nat=>Value.int IntKind.u8 (a:Int)) <$> Rtype.kind t) #[.pointer (some ⟨4,180,none⟩)]).run prog w=.ok (.int .u8 25) w:=by kernel_rfl
theorem Tryz.partsP(a:Addr)(w:zW):(ReflectliteValue.parts (.agg #[.pointer (some ⟨4,182,none⟩),.pointer (some a),.int .u64 150])).run prog w=.ok (some (182,a,150)) w:=by kernel_rfl
theorem Tryz.isNilP(a p:Addr)(W:zW)(ha:W.cell? a=some (.pointer (some p))): (ReflectliteValue.method (ReflectliteValue.valueError "reflectlite.Value.IsNil" 0) ReflectliteValue.isNil #[.agg #[.pointer (some ⟨4,182,none⟩),.pointer (some a),.int .u64 150]]).run prog W=.ok (.bool false) W:=by refine Rs (b:=(Bind.bind (ReflectliteValue.parts (.agg #[.pointer (some ⟨4,182,none⟩),.pointer (some a),.int .u64 150])) _).run prog W) rfl ?_;simp only[Nf,Tryz.partsP,Result.andThen];simp[ReflectliteValue.isNil,loadVar,isAgg,underlying,underlying182,ha,Result.andThen]
theorem Tryz.methodElem(h:Value)(w:zW):(Go.method 451 195 (.agg #[h]) "Elem").run prog w=.ok (316,.agg #[h]) w:=by kernel_rfl
theorem Tryz.methodImplements(h:Value)(w:zW):(Go.method 451 195 (.agg #[h]) "Implements").run prog w=.ok (317,.agg #[h]) w:=by kernel_rfl
theorem Tryz.methodAssignableTo(h:Value)(w:zW):(Go.method 451 195 (.agg #[h]) "AssignableTo").run prog w=.ok (314,.agg #[h]) w:=by kernel_rfl
theorem Tryz.elemP(w:zW):(ReflectliteType.method ReflectliteType.elem #[.agg #[.pointer (some ⟨4,182,none⟩)]]).run prog w=.ok (.iface 195 (.agg #[.pointer (some ⟨4,180,none⟩)])) w:=by kernel_rfl
theorem Tryz.implementsD(w:zW):(ReflectliteType.relation "Implements" ReflectliteType.implements_ #[.agg #[.pointer (some ⟨4,180,none⟩)],.iface 195 (.agg #[.pointer (some ⟨4,105,none⟩)])]).run prog w=.ok (.bool true) w:=by kernel_rfl
theorem Tryz.typeOfD(v:Value)(w:zW):(ReflectliteType.typeOf #[.iface 180 v]).run prog w=.ok (.iface 195 (.agg #[.pointer (some ⟨4,180,none⟩)])) w:=by kernel_rfl
theorem Tryz.assignableD(w:zW):(ReflectliteType.relation "AssignableTo" ReflectliteType.assignableTo #[.agg #[.pointer (some ⟨4,180,none⟩)],.iface 195 (.agg #[.pointer (some ⟨4,180,none⟩)])]).run prog w=.ok (.bool true) w:=by kernel_rfl
theorem Tryz.valueOfD(c:Int)(w:zW):(ReflectliteValue.unpack (.iface 180 (.agg #[.int .i64 c]))).run prog w
  = .ok (.agg #[.pointer (some ⟨4,180,none⟩),.pointer (some ⟨w.heap.size,0,none⟩),.int .u64 153]) (w.alloc (.cells #[.int .i64 c] 180)):=by kernel_rfl
theorem Tryz.elemOfP(w:zW):(Rtype.elem? 182).run prog w=.ok (some 180) w:=by kernel_rfl
theorem Tryz.mkD(p:Addr)(w:zW):(ReflectliteValue.mk 180 p ReflectliteValue.flagAddr).run prog w=.ok (.agg #[.pointer (some ⟨4,180,none⟩),.pointer (some p),.int .u64 409]) w:=by kernel_rfl
theorem Tryz.elemVP(a p:Addr)(W:zW)(ha:W.cell? a=some (.pointer (some p))): (ReflectliteValue.method (ReflectliteValue.valueError "reflectlite.Value.Elem" 0) ReflectliteValue.elem #[.agg #[.pointer (some ⟨4,182,none⟩),.pointer (some a),.int .u64 150]]).run prog W=.ok (.agg #[.pointer (some ⟨4,180,none⟩),.pointer (some p),.int .u64 409]) W:=by refine Rs (b:=(Bind.bind (ReflectliteValue.parts (.agg #[.pointer (some ⟨4,182,none⟩),.pointer (some a),.int .u64 150])) _).run prog W) rfl ?_;simp only[Nf,Tryz.partsP,Result.andThen];simp[ReflectliteValue.elem,loadVar,isAgg,underlying,underlying182,ha,Result.andThen,Tryz.elemOfP,Tryz.mkD]
theorem Tryz.partsDa(a:Addr)(w:zW):(ReflectliteValue.parts (.agg #[.pointer (some ⟨4,180,none⟩),.pointer (some a),.int .u64 409])).run prog w=.ok (some (180,a,409)) w:=by kernel_rfl
theorem Tryz.partsD(a:Addr)(w:zW):(ReflectliteValue.parts (.agg #[.pointer (some ⟨4,180,none⟩),.pointer (some a),.int .u64 153])).run prog w=.ok (some (180,a,153)) w:=by kernel_rfl
theorem Tryz.directD(w:zW):(Rtype.directlyAssignable 180 180).run prog w=.ok true w:=by kernel_rfl
namespace Dr
theorem zZ{p:Prop}(h:p):Hid p:=h
def Row(w:zW)(B:Nat)(a:Option Addr)(len:Nat):Prop :=
 len=0∨∃b off,a=some ⟨b,off,none⟩/\b<B/\∀i,i<len->∃z:Int,w.cell? ⟨b,off+i,none⟩=some (.int .u8 z)/\0<=z/\z<=255
def Src(w:zW)(B:Nat)(a:Option Addr)(len cap:Nat):Prop :=
 Row w B a len/\∃at_ mix size:Int,w.heap[B]?=some (.cells #[.slice a len cap,.int .i64 at_,.int .u64 mix,.int .i64 size] 91 (0,0)) /\
  0<=at_/\at_<=len/\0<=mix/\mix<=18446744073709551615/\0<=size/\size<=12
theorem QK(x:Int):0<=IntKind.u64.wrap x/\IntKind.u64.wrap x<=18446744073709551615:=by rw[Nv];omega
theorem zv9(x y:Int)(a:0<=x)(c:x<=18446744073709551615)(b:0<=y)(d:y<=18446744073709551615): 0<=bits BinOp.xor IntKind.u64 x y/\bits BinOp.xor IntKind.u64 x y<=18446744073709551615:=by obtain⟨m,rfl⟩:=Em a;obtain⟨n,rfl⟩:=Em b;rw[Ve m n (by omega) (by omega)];have:=Nat.xor_lt_two_pow (n:=64) (x:=m) (y:=n) (by omega) (by omega);omega
theorem sc1{W:zW}{p:Addr}{x:Value}(h:W.cell? p=some x)(v:Value):(W.setCell p v).cell? p=some v:=by exact Sr W p v h
theorem sc2{W:zW}{p:Addr}{x:Value}(h:W.cell? p=some x)(v a:Value):((W.setCell p v).setCell p a).cell? p=some a:=sc1 (sc1 h v) a
theorem sc3{W:zW}{p:Addr}{x:Value}(h:W.cell? p=some x)(v b a:Value):(((W.setCell p v).setCell p b).setCell p a).cell? p=some a:=sc1 (sc2 h v b) a
def zaV(B:Nat)(w w':zW):Prop:=w'.os=w.os/\w'.tape=w.tape/\w'.output=w.output/\w'.heap.size=w.heap.size/\∀k,k≠B->w'.heap[k]?=w.heap[k]?
theorem zaV.refl(B:Nat)(w:zW):zaV B w w:=⟨rfl,rfl,rfl,rfl,fun _ _=>rfl⟩
theorem zaV.drew{B:Nat}{w w':zW}(h:zaV B w w'):zaV B w w'.drew:=h
theorem zaV.drewN{B:Nat}(w:zW)(n:Nat):zaV B w (w.drewN n):=⟨rfl,rfl,rfl,rfl,fun _ _=>rfl⟩
theorem zaV.set{B:Nat}{w w':zW}(h:zaV B w w')(o:Nat)(v:Value):zaV B w (w'.setCell ⟨B,o,none⟩ v) :=
 ⟨h.1,h.2.1,h.2.2.1,by simpa [World.setCell] using h.2.2.2.1,fun k a=>(Et w' ⟨B,o,none⟩ k v a).trans (h.2.2.2.2 k a)⟩
theorem zaV.trans{B:Nat}{a b c:zW}(h:zaV B a b)(k:zaV B b c):zaV B a c :=
 ⟨k.1.trans h.1,k.2.1.trans h.2.1,k.2.2.1.trans h.2.2.1,k.2.2.2.1.trans h.2.2.2.1,fun i d=>(k.2.2.2.2 i d).trans (h.2.2.2.2 i d)⟩
theorem zaV.below{B C:Nat}{w0 w w':zW}(a:Below C w0 w)(h:zaV B w w')(b:C<=B):Below C w0 w' :=
 a.trans ⟨h.1,h.2.1,h.2.2.1,by rw[h.2.2.2.1];exact Ea _,fun k c=>h.2.2.2.2 k (by omega)⟩
theorem zaV.row{B:Nat}{w w':zW}{a:Option Addr}{len:Nat}(h:zaV B w w')(k:Row w B a len):Row w' B a len:=by rcases k with d|⟨b,off,rfl,c,g⟩;{exact .inl d};{refine .inr ⟨b,off,rfl,c,fun i j=>?_⟩;obtain⟨z,l,e,f⟩:=g i j;exact⟨z,(Nk (w:=w) (a:=⟨b,off+i,none⟩) (h.2.2.2.2 b (Vb c))).trans l,e,f⟩}
theorem zmP(y ZV:Int)(a:0<=y)(d:1<ZV)(e:ZV<=9223372036854775807):0<=wrap64 (y.tmod ZV)/\wrap64 (y.tmod ZV)<ZV:=by rw[Lw a];have b:=Int.emod_nonneg y (show ZV≠0 by omega);have c:=Int.emod_lt_of_pos y (show 0<ZV by omega);simp only[wrap64];omega
theorem zrG{w w':zW}{B:Nat}{a:Option Addr}{len d:Nat}{b c size:Int}(l:Row w B a len)(k:zaV B w w')
  (j:w'.heap[B]?=some (.cells #[.slice a len d,.int .i64 b,.int .u64 c,.int .i64 size] 91 (0,0)))
  (f:0<=b) (g:b<=len) (e:0<=c/\c<=18446744073709551615) (h:0<=size) (i:size<=12):Src w' B a len d :=
 ⟨k.row l,b,c,size,j,f,g,e.1,e.2,h,i⟩
theorem zcx{W:zW}{B:Nat}{a b d c:Value}{T:TypeId}(h:W.heap[B]?=some (.cells #[a,b,d,c] T (0,0)))(v:Value): (W.setCell ⟨B,2,none⟩ v).heap[B]?=some (.cells #[a,b,v,c] T (0,0)):=by rw[Ep W B 2 _ T v h];rfl
theorem zmh{W:zW}{B:Nat}{a d b c:Value}{T:TypeId}(h:W.heap[B]?=some (.cells #[a,d,b,c] T (0,0)))(v:Value): (W.setCell ⟨B,1,none⟩ v).heap[B]?=some (.cells #[a,v,b,c] T (0,0)):=by rw[Ep W B 1 _ T v h];rfl
theorem zsR(m:Int)(h:0<=m/\m<=18446744073709551615)(y:Int):0<=bits BinOp.xor IntKind.u64 m (IntKind.u64.wrap y)/\bits BinOp.xor IntKind.u64 m (IntKind.u64.wrap y)<=18446744073709551615 :=
 zv9 m _ h.1 h.2 (QK y).1 (QK y).2
theorem zy2(m:Int)(h:0<=m/\m<=18446744073709551615):0<=bits BinOp.xor IntKind.u64 m (m/128)/\bits BinOp.xor IntKind.u64 m (m/128)<=18446744073709551615 :=
 zv9 m _ h.1 h.2 (by omega) (by omega)
theorem zyz(B:Nat)(a:Option Addr)(len d:Nat)(ZV c b size:Int)(w:zW)(j:1<ZV)(h:ZV<=9223372036854775807)(k:Row w B a len)(g:w.heap[B]?=some (.cells #[.slice a len d,.int .i64 c,.int .u64 b,.int .i64 size] 91 (0,0)))(q:0<=c)(D:¬c<len)(i:c<=len)(s:0<=b)(t:b<=18446744073709551615)(u:0<=size)(v:size<=12): Calls prog 43 #[.pointer (some ⟨B,0,none⟩),.int .i64 ZV] w fun e w'=>∃r,e=.returned (.int .i64 r)/\0<=r/\r<ZV/\Src w' B a len d/\zaV B w w':=by have c0:w.cell? ⟨B,0,none⟩=some (.slice a len d):=by{rw[El w B 0 _ _ _ g];rfl};have c1:w.cell? ⟨B,1,none⟩=some (.int .i64 c):=by{rw[El w B 1 _ _ _ g];rfl};have c2:w.cell? ⟨B,2,none⟩=some (.int .u64 b):=by{rw[El w B 2 _ _ _ g];rfl};have f:=fun o=>Ee w B o _ _ g;have l:=zZ g;have m:=zZ k;clear g k;have E:=fun n=>sc1 (W:=w.drewN n) (p:=⟨B,2,none⟩) (x:=.int .u64 b) (by simpa using c2);have F:=fun n=>sc2 (W:=w.drewN n) (p:=⟨B,2,none⟩) (x:=.int .u64 b) (by simpa using c2);have G:=fun n=>sc3 (W:=w.drewN n) (p:=⟨B,2,none⟩) (x:=.int .u64 b) (by simpa using c2);go_enter func43,ntmps43;go_wp2;(go_quiet (fail));go_wp2;(go_region);go_wp2;(go_region);go_wp2;(go_region);go_wp2;go_ret;have y:=zsR b ⟨s,t⟩ (b*8192);have z:=zy2 _ y;have C:=zsR _ z (bits BinOp.xor IntKind.u64 (bits BinOp.xor IntKind.u64 b (IntKind.u64.wrap (b*8192))) (bits BinOp.xor IntKind.u64 b (IntKind.u64.wrap (b*8192))/128)*131072);exact⟨_,rfl,(zmP _ ZV (QK _).1 j h).1,(zmP _ ZV (QK _).1 j h).2,zrG m.o ((((zaV.drewN w _).set 2 _).set 2 _).set 2 _).drew.drew (zcx (zcx (zcx (W:=w.drewN _) l.o _) _) _) q i C u v,((((zaV.drewN w _).set 2 _).set 2 _).set 2 _).drew.drew⟩
theorem zua{W:zW}{B:Nat}{x:Value}(h:W.cell? ⟨B,2,none⟩=some x)(v:Value):(W.setCell ⟨B,1,none⟩ v).cell? ⟨B,2,none⟩=some x :=
 (Ph W _ _ _ (by simp)).trans h
theorem zuu(B b off i:Nat)(len c:Nat)(ZV z a size:Int)(w:zW)(O:len<=1048576)(s:1<ZV)(g:ZV<=9223372036854775807)(t:Row w B (some ⟨b,off,none⟩) len)(d:w.heap[B]?=some (.cells #[.slice (some ⟨b,off,none⟩) len c,.int .i64 (i:Int),.int .u64 a,.int .i64 size] 91 (0,0)))(M:i<len)(y:0<=a)(C:a<=18446744073709551615)(D:0<=size)(E:size<=12)(F:w.cell? ⟨b,off+i,none⟩=some (.int .u8 z))(G:0<=z)(H:z<=255): Calls prog 43 #[.pointer (some ⟨B,0,none⟩),.int .i64 ZV] w fun e w'=>∃r,e=.returned (.int .i64 r)/\0<=r/\r<ZV/\Src w' B (some ⟨b,off,none⟩) len c/\zaV B w w':=by have c0:w.cell? ⟨B,0,none⟩=some (.slice (some ⟨b,off,none⟩) len c):=by{rw[El w B 0 _ _ _ d];rfl};have c1:w.cell? ⟨B,1,none⟩=some (.int .i64 (i:Int)):=by{rw[El w B 1 _ _ _ d];rfl};have c2:w.cell? ⟨B,2,none⟩=some (.int .u64 a):=by{rw[El w B 2 _ _ _ d];rfl};have f:=fun o=>Ee w B o _ _ d;have n:=zZ d;have u:=zZ t;clear d t;have g1:(i:Int)<(len:Int):=by{omega};go_enter func43,ntmps43;go_wp2;(go_quiet (fail));obtain⟨h,rfl⟩:∃q,q=nq:=⟨_,rfl⟩;go_wp2;(go_quiet (fail));go_wp2;have j:((w.drewN (h+nq)).setCell ⟨B,1,none⟩ (.int .i64 ((i:Int)+1))).cell? ⟨B,2,none⟩=some (.int .u64 a):=zua (by simpa using c2) _;have v:∀o,((w.drewN (h+nq)).setCell ⟨B,1,none⟩ (.int .i64 ((i:Int)+1))).frozen? ⟨B,o,none⟩=false:=fun o=>Ee _ B o _ _ (zmh (W:=w.drewN _) n.o _);have m:=zZ (zmh (W:=w.drewN (h+nq)) n.o (.int .i64 ((i:Int)+1)));have k:=zZ ((zaV.drewN (B:=B) w (h+nq)).set 1 (.int .i64 ((i:Int)+1)));generalize (w.drewN (h+nq)).setCell ⟨B,1,none⟩ (.int .i64 ((i:Int)+1))=l at j v m k ⊢;clear c0 c1 c2 f F;have P:=sc1 (W:=l) (p:=⟨B,2,none⟩) (x:=.int .u64 a) j;have Q:=sc2 (W:=l) (p:=⟨B,2,none⟩) (x:=.int .u64 a) j;have R:=sc3 (W:=l) (p:=⟨B,2,none⟩) (x:=.int .u64 a) j;(go_region);go_wp2;(go_region);go_wp2;(go_region);go_wp2;go_ret;have I:=zsR a ⟨y,C⟩ (a*8192);have K:=zy2 _ I;have L:=zsR _ K (bits BinOp.xor IntKind.u64 (bits BinOp.xor IntKind.u64 a (IntKind.u64.wrap (a*8192))) (bits BinOp.xor IntKind.u64 a (IntKind.u64.wrap (a*8192))/128)*131072);exact⟨_,rfl,(zmP _ ZV (QK _).1 s g).1,(zmP _ ZV (QK _).1 s g).2,zrG u.o (((k.o.set 2 _).set 2 _).set 2 _).drew.drew.drew (zcx (zcx (zcx m.o _) _) _) (by omega) (by omega) L D E,(((k.o.set 2 _).set 2 _).set 2 _).drew.drew.drew⟩
theorem ZW(B:Nat)(a:Option Addr)(len c:Nat)(ZV:Int)(w:zW)(H:len<=1048576)(f:ZV<=9223372036854775807)(q:Src w B a len c): Calls prog 43 #[.pointer (some ⟨B,0,none⟩),.int .i64 ZV] w fun e w'=>∃r,e=.returned (.int .i64 r)/\0<=r/\(r<ZV∨r=0)/\Src w' B a len c/\zaV B w w':=by by_cases D:1<ZV;{obtain⟨E,d,g,size,y,s,G,t,u,v,x⟩:=q;by_cases o:d<len;{obtain⟨i,rfl⟩:=Em s;rcases E with h|⟨b,off,rfl,p,C⟩;{exfalso;omega};{obtain⟨z,I,K,L⟩:=C i (by omega);exact(zuu B b off i len c ZV z g size w H D f (.inr ⟨b,off,rfl,p,C⟩) y (by omega) t u v x I K L).mono fun e w' ⟨r,j,k,l,m,n⟩=>⟨r,j,k,.inl l,m,n⟩}};{exact(zyz B a len c ZV d g size w D f E y s o G t u v x).mono fun e w' ⟨r,j,k,l,m,n⟩=>⟨r,j,k,.inl l,m,n⟩}};{have F:=zZ q;clear q;go_enter func43,ntmps43;go_wp2;go_ret;exact⟨0,rfl,Vg _,.inr rfl,F.o,zaV.refl _ _⟩}
end Dr
end Go.Proofs.YtoojegpaofdbfaaGreatDoor
