import Derived.Test.YtoojegpaofdbfaaGreatDoorKz22
import Derived.RangeFuncNested
import Derived.RangeFuncBound
import Derived.RangeFuncCalls
import Derived.RangeFuncLeaves
import Derived.RangeFuncBox
import Derived.Shelf.RegionOpen
import Derived.LoopNIn
import Derived.LoopIn
import Derived.Maps.AppendAt
import Derived.Stop.RegionWithIn
import Derived.Lib.Strings
set_option maxRecDepth 100000
set_option maxHeartbeats 8000000
set_option linter.unusedSimpArgs false
namespace Go.Proofs.YtoojegpaofdbfaaGreatDoor
open Go.RowKit
open Go.Proofs.Tryz
namespace So
open Go.RowKit Go.Sort Go.Proofs Go.Shelf
attribute [local go_sem] Oper.semAt_some
def jU(t:zY)(x:Nat):zY:=t.extract x t.size++t.extract 0 x
theorem zgL(F:Fence)(n:Nat)(b:F.fn 248)(a:F.round=none)(t:zY)(w:zW): CallsIn F n prog 248 #[.string t] w fun e w'=>e=.returned (.func (.func 267) #[] #[.pointer (some ⟨w.heap.size,0,none⟩)])/\w'=w.alloc (.cells #[.string t] 9):=by refine callsIn_of_wp func248 rfl b ?_ a;simp only[ntmps248,Ke,Fm,Ko,Nat.reduceAdd,Nat.reduceSub,Rf,Rg,Sp,Rn,Mg,Mm];gi_wp2;go_ret;exact⟨rfl,rfl⟩
def zn1(Bn:Nat)(W W':zW):Prop:=W'.cell? ⟨Bn,0,none⟩=W.cell? ⟨Bn,0,none⟩
theorem zn1.trans{a:Nat}{A B C:zW}(b:zn1 a A B)(c:zn1 a B C):zn1 a A C:=Rs c b
theorem zp5(n:Nat)(l a:Nat)(t:zY)(Q:t.size<=1048576)(J r:List Nat->zW->Prop)(G:∀pre x W,J pre W->pre.length<t.size->YieldAt Fence.wide (n-1) prog l #[.agg #[.int .i64 (x:Nat),.string (jU t x)]] W fun e W'=>(e=.returned (.bool true)/\J (pre++[x]) W'/\zn1 a W W')∨(e=.returned (.bool false)/\r (pre++[x]) W'))(E:∀s A B,J s A->A.grownBy B none->J s B)(W:zW)(g:W.cell? ⟨a,0,none⟩=some (.string t))(D:J [] W): CallsIn Fence.wide n prog 267 #[.func (.yield l) #[] #[],.pointer (some ⟨a,0,none⟩)] W fun e W'=>(∃v,e=.returned v) /\ ((∃C,C=List.range t.size/\J C W')∨(∃pre,pre <+: List.range t.size/\r pre W')):=by have mixed:=mixed;refine callsIn_of_wp func267 rfl trivial ?_ rfl;simp only[ntmps267,Ke,Fm,Ko,Nat.reduceAdd,Nat.reduceSub,Rf,Rg,Sp,Rn,Mg,Mm];gi_wp2;gi_loopw [6] (fun p wr=>∃k:Nat,p=.int .i64 k/\k<=t.size/\wr.cell? ⟨a,0,none⟩=some (.string t)/\J (List.range k) wr) (fun p _=>t.size-(intOf p).toNat);(case atStart=>exact⟨0,rfl,En _,g,D⟩);(case round=>obtain⟨k,rfl,P,H,y⟩:=hrel;by_cases c:k<t.size;{obtain⟨O,tmps,f,w,q,F⟩:=G (List.range k) k wr.drew (E _ _ _ y ⟨rfl,rfl,rfl,Ea _,fun _ _ _=>rfl⟩) (by simpa using c);unfold jU at q;have i:wr.drew.cell? ⟨a,0,none⟩=some (.string t):=H;have z:(k:Int)<(t.size:Int):=by{omega};have I:(k:Int)<=(t.size:Int):=by{omega};have m:¬(t.size:Int)<(k:Int):=by{omega};have d:(t.extract k t.size).size+(t.extract 0 k).size<=9223372036854775807:=by{simp;omega};gi_wp2;refine zaZ 10 mixed (by kernel_rfl) ?_;simp only[List.take,List.drop];(repeat still_step);generalize t.extract k t.size=A at d q ⊢;generalize t.extract 0 k=B at d q ⊢;have K:¬A.size+B.size > 9223372036854775807:=by{omega};have L:¬9223372036854775807<A.size+B.size:=by{omega};(repeat still_step);refine Pq ?_;gi_wp2;refine⟨fun M=>(by cases M),F.mono ?_⟩;rintro e u (⟨rfl,h,o⟩|⟨rfl,b⟩);{have j:u.cell? ⟨a,0,none⟩=some (.string t):=(show u.cell? ⟨a,0,none⟩=wr.drew.cell? ⟨a,0,none⟩ from o).trans i;gi_wp2;(go_roundw);(case rel=>exact⟨k+1,by go_num,by omega,j,by rw[Kx];exact h⟩);(case measure=>simp[intOf];omega)};{gi_wp2;refine Ec (results_none rfl _ _ _) rfl ?_;refine⟨⟨_,rfl⟩,.inr ⟨List.range k++[k],?_,b⟩⟩;rw[<-Kx];exact List.prefix_iff_eq_take.2 (by rw[N8,List.take_range,Lg c])}};{obtain rfl:k=t.size:=by{omega};have m:¬(t.size:Int)<(t.size:Int):=by{omega};gi_wp2;go_end0;exact⟨⟨_,rfl⟩,.inl y⟩})
theorem zlT(n a:Nat)(t:zY)(m:t.size<=1048576)(w:zW)(b:a<w.heap.size)(k:w.cell? ⟨a,0,none⟩=some (.string t)):
  SeqStopsK Fence.wide n prog 267 #[.pointer (some ⟨a,0,none⟩)] (fun x:Nat=>#[Value.agg #[.int .i64 (x:Nat),.string (jU t x)]]) (zn1 a) (fun o=>o=List.range t.size) (fun pre=>pre <+: List.range t.size) t.size w:=fun l J c W i h _ j d=>
 zp5 n l a t m J c j (fun s A B f g=>h s A B none f g (fun r e=>by cases e)) W ((i.cell (p:=⟨a,0,none⟩) b).trans k) d
def zgj(t:zY)(l:List Nat):Prop:=l.Perm (List.range t.size)/\l.Pairwise (lx (clT (jU t)))
theorem zo3{t:zY}{l b:List Nat}(h:zgj t l)(a:zgj t b):l=b :=
 Ob (fun _ _ _ _ c d=>(ziA (Zq _) c d).elim) h.2 a.2 (h.1.trans a.1.symm)
open Classical in
noncomputable def ord(t:zY):List Nat:=if h:∃l,zgj t l then Classical.choose h else []
theorem zqM{t:zY}{l:List Nat}(h:zgj t l):ord t=l:=by have a:∃l,zgj t l:=⟨l,h⟩;unfold ord;rw[Uh a];exact zo3 (Ov a) h
def ints(l:List Nat):List Int:=l.map fun x=>((x:Nat):Int)
theorem qj(l:List Nat):(ints l).length=l.length:=by simp[ints]
theorem zgi(l:List Nat)(x:Nat):ints (l++[x])=ints l++[(x:Int)]:=by simp[ints]
noncomputable def zAh(t:zY):List Int:=if t.size<=48 then ints (ord t) else []
theorem zl3(f:Nat->Nat)(a b:Nat):(seg f a b).length=b-a:=by simp[seg]
theorem zen{b:Nat->Nat->Bool}{f:Nat->Nat}{n:Nat}(h:Ris b 0 n f):(seg f 0 n).Pairwise (lx b):=by rw[N1];intro i j c d a;rw[zl3]at c d;have e:∀k (g:k<(seg f 0 n).length),(seg f 0 n)[k]=f k:=fun k g=>by{simp[seg]};rw[e,e];exact h i j (En _) a (by omega)
theorem zxC{t:zY}{f:Nat->Nat}(a:(seg f 0 t.size).Perm (List.range t.size))(b:Ris (clT (jU t)) 0 t.size f):zgj t (seg f 0 t.size):=⟨a,zen b⟩
theorem zlg{c:Nat->Nat->Bool}(t:zsK c){l:List Nat}{k p:Nat}(r:l.Perm (List.range k))(q:l.Pairwise (lx c))(z:p<=l.length)(i:∀j (h:j<l.length),p<=j->c k l[j]=true)(n:p=0∨∃h:p-1<l.length,c k l[p-1]=false): (l.take p++[k]++l.drop p).Perm (List.range (k+1))/\(l.take p++[k]++l.drop p).Pairwise (lx c):=by refine⟨?_,?_⟩;{rw[Kx];have f:(l.take p++[k]++l.drop p).Perm (l.take p++l.drop p++[k]):=by{rw[Fa,Fa];exact List.Perm.append_left _ Oq};rw[Lr]at f;exact f.trans (List.Perm.append_right _ r)};{have o:∀x∈l,x<k:=fun x b=>by{have:=r.mem_iff.1 b;simpa using this};have d:∀x∈l.take p,lx c x k:=by{intro x b;rcases n with u|⟨f,v⟩;{subst u;simp at b};{obtain⟨j,m,rfl⟩:=Fn b;have w:j<p:=by{simp at m;omega};rw[Lk];have s:lx c l[p-1] k:=zgw v (o _ (Er _));rcases Ky j (p-1) with e|e;{exact zdc t (N1.1 q j (p-1) (by omega) f e) s};{have:j=p-1:=by{omega};subst this;exact s}}};have a:∀x∈l.drop p,lx c k x:=by{intro x b;obtain⟨j,m,rfl⟩:=Fn b;rw[Mq];simp at m;exact zcq (i (p+j) (by omega) (by omega))};rw[Fa,Ni];refine⟨q.sublist (Sn _ _),?_,?_⟩;{rw[Uw,Na];exact⟨a,q.sublist (List.drop_sublist _ _)⟩};{intro x b y g;rw[Uw]at g;rcases Ex.1 g with e|g;{rw[e];exact d x b};{exact zdc t (d x b) (a y g)}}}
end So
namespace So
open Sh (bt ZB zba ZX qE)
def zcC(t:zY)(x:Nat):Nat:=bt t ((x+t.size-1)%t.size)
theorem zos(t:zY)(x:Nat)(a:x<=t.size):(jU t x).size=t.size:=by unfold jU;rw[Ew,E9,E9];omega
theorem zdV(t:zY)(x:Nat):(jU t x).data.toList=t.data.toList.drop x++t.data.toList.take x:=by unfold jU;simp[K8,Mu];rw[Ez (by simp)]
theorem zo8(t:zY)(x:Nat)(c:x<t.size):bt (jU t x) (t.size-1)=zcC t x:=by unfold zcC bt;rw[zdV];have b:t.data.toList.length=t.size:=by{simp};simp only[Eg];by_cases a:x=0;{subst a;rw[Nz,Lu,Kj,Ff,Fw (by omega)]};{rw[Fx (by rw[Fy];omega),Fy,b,Fd (by omega)];have e:(x+t.size-1)%t.size=x-1:=by{rw[show x+t.size-1=(x-1)+t.size by omega,Py,Fw (by omega)]};rw[e,show t.size-1-(t.size-x)=x-1 by omega]}
def atK(f:Nat->Nat):Nat->Nat
 |0=>0
 |k+1=>if f k=0 then k else atK f k
theorem znK(f:Nat->Nat)(k:Nat):atK f k<=k:=by induction k with|zero=>{exact Ea _}|succ k a=>{unfold atK;split<;>omega}
theorem zpu{f g:Nat->Nat}{n:Nat}(h:∀j,j<n->f j=g j):∀k,k<=n->atK f k=atK g k:=by intro k;induction k with|zero=>{intro _;rfl}|succ k b=>{intro a;unfold atK;rw[h k a,b (by omega)]}
noncomputable def Jt(t:zY):Nat->Nat:=fun j=>(ord t).getD j 0
theorem ztG{t:zY}{f:Nat->Nat}(h:zgj t (seg f 0 t.size))(j:Nat)(a:j<t.size):Jt t j=f j:=by unfold Jt;rw[zqM h,Eg,Ef (by rw[zl3];omega)];simp[seg]
theorem QH{t:zY}{l:List Nat}(h:zgj t l)(j:Nat)(a:j<l.length):Jt t j=l[j]:=by unfold Jt;rw[zqM h,Eg,Ef a];rfl
noncomputable def Za(t:zY):zY:=if t.size<=48 then ZX t.size (fun j=>zcC t (Jt t j)) else ⟨#[]⟩
noncomputable def ZK(t:zY):Nat:=if t.size<=48 then atK (Jt t) t.size else 0
def zop(t:zY):Nat:=if 8000<t.size then 2 else if 48<t.size then 1 else 0
theorem zsH{t:zY}{f:Nat->Nat}(a:t.size<=48)(h:∀j,j<t.size->Jt t j=f j):Za t=ZX t.size (fun j=>zcC t (f j))/\ZK t=atK f t.size/\zop t=0:=by unfold Za ZK zop;rw[Ei a,Ei a,Eh (by omega),Eh (by omega)];exact⟨qE _ _ _ fun j b=>by rw[h j b],zpu h _ (Ea _),rfl⟩
theorem zng{t:zY}(a:48<t.size):Za t=⟨#[]⟩/\ZK t=0:=by unfold Za ZK;rw[Eh (by omega),Eh (by omega)];exact⟨rfl,rfl⟩
def zfi(t:zY)(f:Nat->Nat)(k:Nat):Nat->Nat:=fun j=>if j<k then zcC t (f j) else 0
theorem ztp(t:zY)(f:Nat->Nat)(k j:Nat):zfi t f k j<256:=by unfold zfi;split;{exact zba _ _};{omega}
theorem zoq(t:zY)(f:Nat->Nat)(k:Nat)(j:Nat):Sh.upd (fun j=>((zfi t f k j:Nat):Int)) k ((zcC t (f k):Nat):Int) j=((zfi t f (k+1) j:Nat):Int):=by unfold Sh.upd zfi;by_cases e:j=k;{subst e;rw[Ei rfl,Ei (by omega)]};{rw[Eh e];by_cases h:j<k;{have a:j<k+1:=by{omega};simp only[h,a,Ue]};{have a:¬j<k+1:=by{omega};simp only[h,a,Sz]}}
theorem zqB(t:zY)(f:Nat->Nat)(n:Nat):ZX n (zfi t f n)=ZX n (fun j=>zcC t (f j)):=qE _ _ _ fun j a=>by
 unfold zfi;rw[Ei a]
end So
namespace Bi
open Sh (bt ZX zap qo zge qE zba)
def wd(l:List Int)(i:Nat):Nat:=(l.getD i 0).toNat
theorem zcP{l:List Int}{i:Nat}(a:i<l.length):l.getD i 0=l[i]:=by rw[Eg,Ef a];rfl
def start(l:List Int)(i:Nat):Nat:=zrA l i*2 ^ (12-wd l i)
theorem start_eq(l:List Int)(i:Nat)(b:1<=wd l i)(c:wd l i<=12):start l i=low l (wd l i-1)+cnt (l.take i) (wd l i:Nat)*2 ^ (12-wd l i):=by have a:=zh8 l (wd l i-1) (by omega);unfold start zrA zd2;rw[<-a];show (2*outN l (wd l i-1)+cnt (l.take i) ((wd l i:Nat):Int))*2 ^ (12-wd l i)=_;rw[Nj,show 12-(wd l i-1)=12-wd l i+1 by omega,Kb,Lc 2 (outN l (wd l i-1)),Ng,Lc 2]
theorem znB{l:List Int}{i:Nat}(h:0<l.getD i 0):l.getD i 0=((wd l i:Nat):Int):=by unfold wd;omega
theorem zu6(l:List Int)(a b:Nat)(h:a<=b):low l a<=low l b:=by induction b with|zero=>{rw[show a=0 by omega];exact Ea _}|succ b c=>{by_cases e:a=b+1;{rw[e];exact Ea _};{have:=c (by omega);have d:=zh4 l b;omega}}
theorem zsG(l:List Int)(i:Nat)(a:i<l.length)(c:0<l.getD i 0)(f:wd l i<=12):start l i+2 ^ (12-wd l i)<=low l (wd l i):=by have d:1<=wd l i:=by{unfold wd;omega};have e:l[i]=((wd l i:Nat):Int):=by{rw[<-zcP a];exact znB c};have g:=znG a e;have b:=zh4 l (wd l i-1);rw[show wd l i-1+1=wd l i by omega]at b;rw[start_eq l i d f,b];have:(cnt (l.take i) ((wd l i:Nat):Int)+1)*2 ^ (12-wd l i)<=cnt l ((wd l i:Nat):Int)*2 ^ (12-wd l i):=Pb _ g;rw[Nj,Pd]at this;omega
theorem zaK(l:List Int)(i j:Nat)(d:i<l.length)(f:0<l.getD i 0)(g:0<l.getD j 0)(c:wd l i<=12)(a:wd l j<=12)(h:wd l i<wd l j∨(wd l i=wd l j/\i<j))(_hj:j<l.length): start l i+2 ^ (12-wd l i)<=start l j:=by have b:1<=wd l j:=by{unfold wd;omega};have k:1<=wd l i:=by{unfold wd;omega};rcases h with h|⟨h,m⟩;{have n:=zsG l i d f c;have o:=zu6 l (wd l i) (wd l j-1) (by omega);have p:=start_eq l j b a;omega};{have e:l[i]=((wd l i:Nat):Int):=by{rw[<-zcP d];exact znB f};have c1:=zeL d ((wd l i:Nat):Int);rw[Ei e]at c1;have c2:cnt (l.take (i+1)) ((wd l i:Nat):Int)<=cnt (l.take j) ((wd l i:Nat):Int):=by{have:=zne (l.take j) ((wd l i:Nat):Int) (i+1);rw[Pw,Lg (by omega)]at this;exact this};rw[start_eq l i k c,start_eq l j b a,<-h];have:(cnt (l.take i) ((wd l i:Nat):Int)+1)*2 ^ (12-wd l i)<=cnt (l.take j) ((wd l i:Nat):Int)*2 ^ (12-wd l i):=Pb _ (by omega);rw[Nj,Pd]at this;omega}
theorem zoR(t:zY)(a b j:Nat)(d:a+j<b)(_hb:b<=t.size):bt (t.extract a b) j=bt t (a+j):=by unfold bt;have c:(t.extract a b).data.toList=(t.data.toList.take b).drop a:=by{rw[Mu,N9];simp[M7,List.drop_take]};rw[c,Eg,Eg,Mi,Fd d]
def val(t:zY):Nat->Nat
 |0=>0
 |r+1=>2*val t r+(bt t r-48)
theorem zx6(t:zY)(n v:Nat)(a:n<2 ^ v)(h:∀j,j<v->bt t j=zcS n (v-1-j)):∀r,r<=v->val t r=n/2 ^ (v-r):=by intro r;induction r with|zero=>{intro _;rw[Pg,Nat.div_eq_of_lt a];rfl}|succ r b=>{intro c;simp only[val];rw[b (by omega),h r (by omega)];unfold zcS;rw[show v-r=v-(r+1)+1 by omega,Kb,<-Mo,show v-1-r=v-(r+1) by omega];omega}
def mt(l:List Int)(t:zY)(i:Nat):Prop:=i<l.length/\0<l.getD i 0/\wd l i<=t.size/\t.extract 0 (wd l i)=qk l i
theorem zrs{l:List Int}(c:j8 l<=4096){i:Nat}(a:i<l.length)(b:0<l.getD i 0)(f:wd l i<=12):zrA l i<2 ^ wd l i:=by have d:1<=wd l i:=by{unfold wd;omega};have e:l[i]=((wd l i-1+1:Nat):Int):=by{rw[show wd l i-1+1=wd l i by omega,<-zcP a];exact znB b};have:=ziN c (v:=wd l i-1) (by omega) a e;rw[show wd l i-1+1=wd l i by omega]at this;exact this
theorem zv5{l:List Int}(g:j8 l<=4096){t:zY}{i:Nat}(h:mt l t i)(a:wd l i<=12):∀r,r<=wd l i->val t r=zrA l i/2 ^ (wd l i-r):=by obtain⟨e,b,k,d⟩:=h;refine zx6 t (zrA l i) (wd l i) (zrs g e b a) fun j f=>?_;have c:=zoR t 0 (wd l i) j (by omega) k;rw[Ff,d]at c;rw[<-c];unfold qk;rw[Ei b];exact zap _ _ j f (zfE _ _)
theorem zeK{l:List Int}(f:j8 l<=4096){t:zY}{i j:Nat}(k:mt l t i)(m:mt l t j)(b:wd l i<=12)(a:wd l j<=12)(h:wd l i<=wd l j):start l j<start l i+2 ^ (12-wd l i):=by have c:=zv5 f k b (wd l i) (Ea _);have d:=zv5 f m a (wd l i) h;rw[Lq,Nat.pow_zero,Nat.div_one]at c;rw[c]at d;have g:zrA l j<(zrA l i+1)*2 ^ (wd l j-wd l i):=by{rw[d];exact Nat.lt_mul_of_div_lt (Nd _) (Og (by decide))};unfold start;have e:zrA l j*2 ^ (12-wd l j)<(zrA l i+1)*2 ^ (wd l j-wd l i)*2 ^ (12-wd l j):=Rp g (Og (by decide));rw[Ng,<-Po,show wd l j-wd l i+(12-wd l j)=12-wd l i by omega,Nj,Pd]at e;exact e
theorem zv4{l:List Int}(g:j8 l<=4096)(o:∀x∈l,0<=x/\x<=12){t:zY}{i j:Nat}(c:mt l t i)(d:mt l t j):i=j:=by have f:∀k,k<l.length->wd l k<=12:=fun k p=>by{have:=o _ (Er p);unfold wd;rw[zcP p];omega};have a:=f i c.1;have b:=f j d.1;rcases Oy (wd l i) (wd l j) with h|h|h;{have m:=zaK l i j c.1 c.2.1 d.2.1 a b (Or.inl h) d.1;have n:=zeK g c d a b (by omega);omega};{rcases Oy i j with e|e|e;{have m:=zaK l i j c.1 c.2.1 d.2.1 a b (Or.inr ⟨h,e⟩) d.1;have n:=zeK g c d a b (by omega);omega};{exact e};{have m:=zaK l j i d.1 d.2.1 c.2.1 b a (Or.inr ⟨h.symm,e⟩) c.1;have n:=zeK g d c b a (by omega);omega}};{have m:=zaK l j i d.1 d.2.1 c.2.1 b a (Or.inl h) c.1;have n:=zeK g d c b a (by omega);omega}
instance (l:List Int) (t:zY) (i:Nat):Decidable (mt l t i):=inferInstanceAs (Decidable (_/\_/\_/\_))
def sym(l:List Int)(t:zY):Option Nat:=(List.range l.length).find? fun i=>decide (mt l t i)
def wth(l:List Int)(t:zY):Bool:=(List.range l.length).any fun i=>decide (0<l.getD i 0) && Lib.hasPrefix (qk l i).data.toList t.data.toList
theorem zjr{l:List Int}{t:zY}{i:Nat}(h:sym l t=some i):mt l t i:=by unfold sym at h;have:=List.find?_some h;simpa using this
theorem zsv{l:List Int}(c:j8 l<=4096)(a:∀x∈l,0<=x/\x<=12){t:zY}{i:Nat}(h:mt l t i):sym l t=some i:=by cases b:sym l t with|none=>{have:=Pn.1 b i (Kr.2 h.1);simp[h]at this}|some j=>{rw[zv4 c a (zjr b) h]}
theorem znO{l:List Int}{t:zY}(h:∀i,¬mt l t i):sym l t=none:=by cases a:sym l t with|none=>{rfl}|some j=>{exact absurd (zjr a) (h j)}
theorem zyU{l:List Int}{t:zY}{i:Nat}(b:i<l.length)(a:0<l.getD i 0)(c:Lib.hasPrefix (qk l i).data.toList t.data.toList=true):wth l t=true:=by unfold wth;rw[P8];exact⟨i,Kr.2 b,by rw[Eo a,c];rfl⟩
theorem zxd{l:List Int}{t:zY}(h:wth l t=true):∃i,i<l.length/\0<l.getD i 0/\Lib.hasPrefix (qk l i).data.toList t.data.toList=true:=by unfold wth at h;rw[P8]at h;obtain⟨i,b,a⟩:=h;rw[Fp]at a;exact⟨i,Kr.1 b,Fh a.1,a.2⟩
def rst(t:zY)(at_:Nat):zY:=t.extract at_ t.size
theorem ziw(t:zY)(a:Nat):(rst t a).size=t.size-a:=by unfold rst;rw[E9];omega
def why(l:List Int)(t:zY):Int:=if wth l t=true then 4 else 3
def st(l:List Int)(t:zY):Nat->Int ⊕ (List Int × Nat)
 |0=>.inr ([],0)
 |k+1=>match st l t k with
  |.inl e=>.inl e
  |.inr (xs,p)=>match sym l (rst t p) with
   |some i=>.inr (xs++[(i:Int)],p+wd l i)
   |none=>.inl (why l (rst t p))
theorem ziv{l:List Int}{t:zY}{k p i:Nat}{xs:List Int}(h:st l t k=.inr (xs,p))(a:sym l (rst t p)=some i):st l t (k+1)=.inr (xs++[(i:Int)],p+wd l i):=by simp only[st,h,a]
theorem zqP{l:List Int}{t:zY}{k p:Nat}{xs:List Int}(h:st l t k=.inr (xs,p))(a:sym l (rst t p)=none):st l t (k+1)=.inl (why l (rst t p)):=by simp only[st,h,a]
theorem zqu{l:List Int}{t:zY}{k:Nat}{e:Int}(h:st l t k=.inl e):∀d,st l t (k+d)=.inl e:=by intro d;induction d with|zero=>{exact h}|succ d a=>{rw[<-Oa];simp only[st,a]}
theorem zhZ{l:List Int}{t:zY}:∀(k p:Nat) (xs:List Int),st l t k=.inr (xs,p)->p<=t.size/\xs.length=k:=by intro k;induction k with|zero=>{intro p xs h;simp only[st,Sum.inr.injEq,Prod.mk.injEq]at h;rw[<-h.1,<-h.2];simp}|succ k f=>{intro p xs h;cases a:st l t k with|inl e=>{simp only[st,a]at h;cases h}|inr q=>{obtain⟨g,r⟩:=q;obtain⟨j,c⟩:=f r g a;cases b:sym l (rst t r) with|none=>{rw[zqP a b]at h;cases h}|some i=>{rw[ziv a b]at h;simp only[Sum.inr.injEq,Prod.mk.injEq]at h;have d:=(zjr b).2.2.1;rw[ziw]at d;rw[<-h.1,<-h.2];simp[c];omega}}}
def zdX(x:Int ⊕ (List Int × Nat)):List Int × Int × Int:=match x with
 |.inl e=>([],0,e)
 |.inr (xs,p)=>(xs,(p:Int),0)
def zgr(l:List Int)(t:zY)(m:Int):List Int × Int × Int :=
 if 400<l.length∨8000<t.size then ([],0,2)
 else if whole l=false∨ze7 t=false∨m<0∨400<m then ([],0,1)
 else zdX (st l t m.toNat)
theorem zdu{l:List Int}{t:zY}{m:Int}(h:400<l.length∨8000<t.size):zgr l t m=([],0,2):=Ei h
theorem Jo{l:List Int}{t:zY}{m:Int}(h:¬(400<l.length∨8000<t.size))(a:whole l=false∨ze7 t=false∨m<0∨400<m):zgr l t m=([],0,1):=by unfold zgr;rw[Eh h,Ei a]
theorem zlf{l:List Int}{t:zY}{m:Nat}(h:¬(400<l.length∨8000<t.size))(a:whole l=true)(b:ze7 t=true)(c:m<=400):zgr l t m=zdX (st l t m):=by unfold zgr;rw[Eh h,Eh (by rw[a,b];simp;omega)];rfl
theorem zfU(l:List Int)(t:zY)(m:Int):(zgr l t m).1.length<=400:=by unfold zgr;split;{simp};{split;{simp};{rename_i h;cases a:st l t m.toNat with|inl e=>{simp[zdX]}|inr q=>{obtain⟨xs,p⟩:=q;have:=(zhZ _ _ _ a).2;simp only[zdX];have b:¬400<m:=fun x=>h (Or.inr (Or.inr (Or.inr x)));omega}}}
end Bi
namespace So
open Sh (bt ZB zba ZX qo)
def zzs(t:zY)(l:List Nat):Prop:=l.Perm (List.range t.size)/\l.Pairwise (lx (clI t))
theorem zrR{t:zY}{l b:List Nat}(h:zzs t l)(a:zzs t b):l=b :=
 Ob (fun _ _ _ _ c d=>(ziA (Qa _) c d).elim) h.2 a.2 (h.1.trans a.1.symm)
def plB(t:zY)(b k:Nat):List Nat:=(List.range k).filter fun j=>bt t j==b
def plK(t:zY)(b:Nat):List Nat:=(List.range b).flatMap fun c=>plB t c t.size
def pl(t:zY):List Nat:=plK t 256
theorem zm6(t:zY)(b:Nat):plK t (b+1)=plK t b++plB t b t.size:=by unfold plK;rw[Kx,Mc];simp
theorem zwP(t:zY)(b k:Nat)(h:bt t k=b):plB t b (k+1)=plB t b k++[k]:=by unfold plB;rw[Kx,On];simp[h]
theorem zx4(t:zY)(b k:Nat)(h:bt t k≠b):plB t b (k+1)=plB t b k:=by unfold plB;rw[Kx,On];simp[h]
theorem zrU(t:zY)(b k:Nat):(plB t b k).length<=k:=by have:=List.length_filter_le (fun j=>bt t j==b) (List.range k);simpa [plB] using this
theorem zwF(t:zY)(b:Nat):(plK t b).length<=b*t.size:=by induction b with|zero=>{simp[plK]}|succ b a=>{rw[zm6,Ek,Nat.succ_mul];have:=zrU t b t.size;omega}
theorem zl6(t:zY):zzs t (pl t):=by have a:(pl t).Pairwise (lx (clI t)):=by{unfold pl plK;rw[List.pairwise_flatMap];refine⟨fun b _=>?_,?_⟩;{unfold plB;have m:(List.range t.size).Pairwise (· < ·):=Ui;have o:=m.sublist (List.filter_sublist (p:=fun j=>bt t j==b));refine o.imp_of_mem fun{x y} k l i=>?_;have d:bt t x=b:=by{have:=(My.1 k).2;simpa using this};have f:bt t y=b:=by{have:=(My.1 l).2;simpa using this};exact zgw (by simp[clI,d,f]) i};{refine(Ui (n:=256)).imp fun{b c} g x k y l=>?_;have d:bt t x=b:=by{have:=(My.1 k).2;simpa using this};have f:bt t y=c:=by{have:=(My.1 l).2;simpa using this};exact zcq (by simp[clI,d,f,g])}};refine⟨?_,a⟩;refine(Sa ?_ List.nodup_range).2 fun x=>?_;{exact a.imp fun{x y} h e=>by{subst e;exact ziA (Qa t) h h}};{simp only[pl,plK,plB,List.mem_flatMap,My,Kr];constructor;{rintro⟨b,_,h,_⟩;exact h};{intro h;exact⟨bt t x,zba _ _,h,by simp⟩}}
theorem zj1(t:zY):(pl t).length=t.size:=by have:=(zl6 t).1.length_eq;simpa using this
def plF(t:zY):Nat->Nat:=fun j=>(pl t).getD j 0
theorem zxp{t:zY}{f:Nat->Nat}(a:(seg f 0 t.size).Perm (List.range t.size))(b:Ris (clI t) 0 t.size f)(j:Nat)(c:j<t.size):f j=plF t j:=by have h:seg f 0 t.size=pl t:=zrR ⟨a,zen b⟩ (zl6 t);unfold plF;rw[<-h,Eg,Ef (by rw[zl3];omega)];simp[seg]
theorem zlP(t:zY)(j:Nat)(a:j<(pl t).length):(pl t)[j]=plF t j:=by unfold plF;rw[Eg,Ef a];rfl
theorem zwa(t:zY)(j:Nat)(b:j<t.size):plF t j<t.size:=by have a:j<(pl t).length:=by{rw[zj1];exact b};rw[<-zlP t j a];have:=(zl6 t).1.mem_iff.1 (Er a);simpa using this
def itR(t:zY)(a:Nat):Nat->Nat
 |0=>a
 |k+1=>plF t (itR t a k)
theorem ziZ(t:zY)(a k:Nat)(b:a<t.size):itR t a k<t.size:=by induction k with|zero=>{exact b}|succ k c=>{exact zwa t _ c}
def zac(t:zY)(a:Nat):zY:=ZX t.size fun j=>bt t (itR t a (j+1))
theorem zdI(t:zY)(a:Nat):(zac t a).size=t.size:=qo _ _
def zia(t:zY)(a k:Nat):Nat->Nat:=fun j=>if j<k then bt t (itR t a (j+1)) else 0
theorem zuR(t:zY)(a k j:Nat):zia t a k j<256:=by unfold zia;split;{exact zba _ _};{omega}
theorem zn5(t:zY)(a k j:Nat):Sh.upd (fun j=>((zia t a k j:Nat):Int)) k ((bt t (itR t a (k+1)):Nat):Int) j=((zia t a (k+1) j:Nat):Int):=by unfold Sh.upd zia;by_cases e:j=k;{subst e;rw[Ei rfl,Ei (by omega)]};{rw[Eh e];by_cases h:j<k;{have b:j<k+1:=by{omega};simp only[h,b,Ue]};{have b:¬j<k+1:=by{omega};simp only[h,b,Sz]}}
theorem zsB(t:zY)(a:Nat):ZX t.size (zia t a t.size)=zac t a:=Sh.qE _ _ _ fun j b=>by
 unfold zia;rw[Ei b]
def blK(t:zY)(a k:Nat):List UInt8:=(List.range k).map fun j=>UInt8.ofNat (bt t (itR t a (j+1)))
theorem zxl(t:zY)(a k:Nat):(blK t a k).length=k:=by simp[blK]
theorem zuc(t:zY)(a k:Nat):blK t a (k+1)=blK t a k++[UInt8.ofNat (((bt t (itR t a (k+1)):Nat):Int)).toNat]:=by unfold blK;rw[Kx,Fg];rfl
theorem zxx(t:zY)(a:Nat):(⟨(blK t a t.size).toArray⟩:zY)=zac t a:=rfl
def QT(t:zY)(a c:Int):Value:=.agg #[.string t,.int .i64 a,.int .i64 c]
theorem Zi(a b:zY):(a.toList==b.toList)=decide (a=b):=by by_cases h:a=b;{rw[h];simp};{rw[Ed h,Es];intro e;apply h;rw[K9,K9]at e;have c:a.data=b.data:=by{rw[<-Ln (xs:=a.data),e,Ln]};cases a;cases b;simpa using c}
open Classical in
noncomputable def unR(t:zY)(a:Int):Value :=
 if 8000<t.size then QT ⟨#[]⟩ 0 2 else if 48<t.size∨a<0∨((t.size:Int)<=a/\0<a) then QT ⟨#[]⟩ 0 1
 else if Za (zac t a.toNat)=t/\(ZK (zac t a.toNat):Int)=a then QT (zac t a.toNat) 0 0 else QT ⟨#[]⟩ 0 3
theorem zqd{t:zY}{a:Int}(h:8000<t.size):unR t a=QT ⟨#[]⟩ 0 2:=by unfold unR;rw[Ei h]
theorem zeO{t:zY}{a:Int}(b:¬8000<t.size)(h:48<t.size∨a<0∨((t.size:Int)<=a/\0<a)):unR t a=QT ⟨#[]⟩ 0 1:=by unfold unR;rw[Eh b,Ei h]
theorem zlc{t:zY}{a:Nat}(b:t.size<=48)(c:a<t.size∨a=0)(h:Za (zac t a)=t/\ZK (zac t a)=a):unR t a=QT (zac t a) 0 0:=by unfold unR;rw[Eh (by omega),Eh (by omega),Kf,Ei ⟨h.1,by rw[h.2]⟩]
theorem zwb{t:zY}{a:Nat}(b:t.size<=48)(c:a<t.size∨a=0)(h:¬(Za (zac t a)=t/\ZK (zac t a)=a)):unR t a=QT ⟨#[]⟩ 0 3:=by unfold unR;rw[Eh (by omega),Eh (by omega),Kf,Eh (fun q=>h ⟨q.1,by omega⟩)]
theorem zds(t:zY)(a:Int):∃b c,unR t a=(vT b 0 c):=by unfold unR QT;split;{exact⟨_,_,rfl⟩};{split;{exact⟨_,_,rfl⟩};{split<;>exact⟨_,_,rfl⟩}}
end So
namespace So
open Sh (bt ZB zba ZX qo zap)
theorem zyV(b:Nat->Nat->Bool)(l:List Nat)(k:Nat):∀p,p<=l.length->(∀j (h:j<l.length),p<=j->b k l[j]=true) -> ∃a,a<=l.length/\(∀j (h:j<l.length),a<=j->b k l[j]=true)/\(a=0∨∃h:a - 1<l.length,b k l[a - 1]=false):=by intro p;induction p with|zero=>{intro d h;exact⟨0,d,h,.inl rfl⟩}|succ p i=>{intro d h;cases e:b k l[p] with|false=>{exact⟨p+1,d,h,.inr ⟨by simp;omega,e⟩⟩}|true=>{refine i (by omega) fun j g f=>?_;rcases N0 f with c|c;{subst c;exact e};{exact h j g c}}}
theorem Jh(t:zY):zgj t (ord t):=by have:∀k,∃l:List Nat,l.Perm (List.range k)/\l.Pairwise (lx (clT (jU t))):=by{intro k;induction k with|zero=>{exact⟨[],by simp,List.Pairwise.nil⟩}|succ k m=>{obtain⟨l,g,i⟩:=m;obtain⟨p,b,c,d⟩:=zyV (clT (jU t)) l k l.length (Ea _) (fun j e h=>absurd e (by omega));exact⟨_,zlg (Zq _) g i b c d⟩}};obtain⟨l,f⟩:=this t.size;have a:zgj t l:=f;rw[zqM a];exact a
def rl(l:List UInt8)(x:Nat):List UInt8:=l.drop x++l.take x
theorem zgK(l:List UInt8)(x:Nat):(rl l x).length=l.length:=by unfold rl;rw[Ek,Fy,E7];omega
theorem znw(l:List UInt8)(x i:Nat)(b:x<l.length)(a:i<l.length):(rl l x)[i]'(by rw[zgK];exact a)=l[(x+i)%l.length]'(Pa _ (by omega)):=by unfold rl;by_cases h:x+i<l.length;{rw[List.getElem_append_left (by rw[Fy];omega),Mq];congr 1;rw[Fw h]};{rw[List.getElem_append_right (by rw[Fy];omega),Lk];congr 1;rw[Fy,show x+i=(x+i-l.length)+l.length by omega,Py,Fw (by omega)];omega}
theorem zyB{l:List UInt8}{x y:Nat}(b:x<l.length)(c:y<l.length)(h:rl l x=rl l y)(i:Nat)(a:i<l.length):l[(x+i)%l.length]'(Pa _ (by omega))=l[(y+i)%l.length]'(Pa _ (by omega)):=by rw[<-znw l x i b a,<-znw l y i c a];congr 1
def prv(n x:Nat):Nat:=(x+n-1)%n
theorem zbh{n x:Nat}(h:0<n):prv n x<n:=Pa _ h
theorem znh{n:Nat}(h:0<n):prv n 0=n-1:=by unfold prv;rw[Ff,Fw (by omega)]
theorem zmY{n x:Nat}(h:x+1<n+1):prv n (x+1)=x%n:=by unfold prv;rw[show x+1+n-1=x+n by omega,Py]
theorem zeS{n x:Nat}(a:x<n):(prv n x+1)%n=x:=by cases x with|zero=>{rw[znh (by omega),show n-1+1=n by omega,Nat.mod_self]}|succ x=>{rw[zmY (by omega),Fw (show x<n by omega),Fw a]}
theorem zyR(l:List UInt8)(x:Nat)(b:x<l.length):rl l (prv l.length x)=l[prv l.length x]'(zbh (by omega)) :: (rl l x).dropLast:=by apply Li;{rw[zgK,Fm,List.length_dropLast,zgK];omega};{intro i a c;rw[zgK]at a;rw[znw l _ i (zbh (by omega)) a];cases i with|zero=>{simp only[List.getElem_cons_zero,Ms];congr 1;exact Fw (zbh (by omega))}|succ i=>{rw[List.getElem_cons_succ,List.getElem_dropLast,znw l x i b (by omega)];congr 1;have:=zeS b;rw[show prv l.length x+(i+1)=(prv l.length x+1)+i by omega,Vh,this,Fw (show i<l.length by omega)]}}
theorem zqf:∀(a b:List UInt8) (x y:UInt8),a.length=b.length->a<b->a++[x]<b++[y]
 |[],[],_,_,_,h=>absurd h (U0 _)
 |[],_ :: _,_,_,h,_=>by simp at h
 |_ :: _,[],_,_,h,_=>by simp at h
 |u :: a,v :: b,x,y,hl,h=>by
  rw[Ot]at h;rw[Mm,Mm,Ot]
  rcases h with h|⟨c,d⟩
  ·exact .inl h
  ·exact .inr ⟨c,zqf a b x y (by simpa using hl) d⟩
theorem zli{a b:List UInt8}(d:a.length=b.length)(h:¬b<a):¬b.dropLast<a.dropLast:=by intro c;by_cases e:a=[];{subst e;simp at c};{have f:b≠[]:=by{intro g;subst g;simp at d;exact e d};apply h;rw[<-Rk e,<-Rk f];exact zqf _ _ _ _ (by simp;omega) c}
end So
namespace So
open Sh (bt ZB zba ZX qo zap qE)
def ch(t:zY)(y:Nat):Nat:=bt t (y%t.size)
theorem zhN(t:zY)(j:Nat)(h:j<t.data.toList.length):bt t j=(t.data.toList[j]).toNat:=by unfold bt;rw[Eg,Ef h];rfl
theorem zbv(t:zY):t.data.toList.length=t.size:=by simp
theorem zzA{t:zY}{x y:Nat}(c:x<t.size)(d:y<t.size)(h:rl t.data.toList x=rl t.data.toList y)(i:Nat):ch t (x+i)=ch t (y+i):=by have e:∀z,ch t (z+i)=ch t (z+i%t.size):=fun z=>by{unfold ch;rw[Nat.add_mod_mod]};have a:=zbv t;rw[e x,e y];have b:i%t.size<t.size:=Pa _ (by omega);unfold ch;rw[zhN t _ (by rw[a];exact Pa _ (by omega)),zhN t _ (by rw[a];exact Pa _ (by omega))];have:=zyB (by rw[a];exact c) (by rw[a];exact d) h (i%t.size) (by rw[a];exact b);simp only[a]at this;rw[this]
theorem zyn(t:zY)(x i:Nat)(a:x<t.size):ch t (prv t.size x+(i+1))=ch t (x+i):=by unfold ch;rw[show prv t.size x+(i+1)=(prv t.size x+1)+i by omega,Vh,zeS a,Vh x i,Fw a]
theorem zeX(t:zY)(x y:Nat):clT (jU t) x y=decide (rl t.data.toList x<rl t.data.toList y):=by unfold clT;rw[zdp,K9,K9,zdV,zdV];rfl
theorem zrB(f:Nat->Nat):∀n,(∃k,k<n/\f k=0)->atK f n<n/\f (atK f n)=0:=by intro n;induction n with|zero=>{rintro⟨k,h,_⟩;omega}|succ n d=>{rintro⟨k,e,b⟩;by_cases a:f n=0;{rw[atK,Ei a];exact⟨by omega,a⟩};{rw[atK,Eh a];have c:k<n:=by{rcases Ky k n with h|h;{exact h};{have:k=n:=by{omega};subst this;exact absurd b a}};have:=d ⟨k,c,b⟩;exact⟨by omega,this.2⟩}}
theorem zcy(t:zY):(ord t).length=t.size:=by have:=(Jh t).1.length_eq;simpa using this
theorem zwX(t:zY):(List.range t.size).map (Jt t)=ord t:=by apply Li;{simp[zcy]};{intro i b a;rw[Lj,Ny,QH (Jh t) i a]}
theorem zlm(t:zY)(j:Nat)(b:j<t.size):Jt t j<t.size:=by have a:j<(ord t).length:=by{rw[zcy];exact b};rw[QH (Jh t) j a];have:=(Jh t).1.mem_iff.1 (Er a);simpa using this
theorem zt7(n:Nat):((List.range n).map (prv n)).Perm (List.range n):=by refine(Sa ?_ List.nodup_range).2 fun y=>?_;{unfold List.Nodup;rw[Sq];refine List.nodup_range.imp_of_mem fun{x y} b c a e=>a ?_;have d:=zeS (Kr.1 b);have f:=zeS (Kr.1 c);rw[e]at d;omega};{rw[Ft,Kr];constructor;{rintro⟨x,b,rfl⟩;exact zbh (by have:=Kr.1 b;omega)};{intro c;by_cases h:y+1<n;{exact⟨y+1,Kr.2 h,by rw[zmY (by omega),Fw c]⟩};{exact⟨0,Kr.2 (by omega),by rw[znh (by omega)];omega⟩}}}
theorem JV{t:zY}(a:t.size<=48):(Za t).size=t.size:=by unfold Za;rw[Ei a,qo]
theorem zqS{t:zY}(b:t.size<=48)(j:Nat)(a:j<t.size):bt (Za t) j=bt t (prv t.size (Jt t j)):=by unfold Za;rw[Ei b,zap t.size (fun j=>zcC t (Jt t j)) j a (zba _ _)];rfl
theorem zvL{a b:List UInt8}(h:a<b):¬b<a:=fun c=>U0 _ (List.lt_trans h c)
theorem zyI{t:zY}{j a:Nat}(h:j<a)(d:a < t.size):¬rl t.data.toList (Jt t a)<rl t.data.toList (Jt t j):=by have b:j<(ord t).length:=by{rw[zcy];omega};have c:a < (ord t).length:=by{rw[zcy];omega};have:=N1.1 (Jh t).2 j a b c h;rw[<-QH (Jh t) j b,<-QH (Jh t) a c]at this;rcases this with e|⟨e,_⟩;{rw[zeX]at e;exact zvL (Fh e)};{rw[zeX]at e;exact Le e}
theorem step{t:zY}(D:t.size<=48)(j:Nat)(C:j<t.size):rl t.data.toList (prv t.size (Jt t (plF (Za t) j)))=rl t.data.toList (Jt t j):=by have c:=zbv t;have s:=JV D;have n:0<t.size:=by{omega};have B:∀x,x<t.size->∀(h:prv t.size (Jt t x)<t.data.toList.length),bt (Za t) x=(t.data.toList[prv t.size (Jt t x)]).toNat:=fun x p h=>by{rw[zqS D x p,zhN t _ h]};have o:∀x,x<t.size->rl t.data.toList (prv t.size (Jt t x))=t.data.toList[prv t.size (Jt t x)]'(by rw[c];exact zbh n) :: (rl t.data.toList (Jt t x)).dropLast:=fun x p=>by{have:=zyR t.data.toList (Jt t x) (by rw[c];exact zlm t x p);simp only[c]at this;exact this};have F:((pl (Za t)).map fun j=>rl t.data.toList (prv t.size (Jt t j))).Pairwise (fun a b=>¬b<a):=by{rw[Sq];refine(zl6 (Za t)).2.imp_of_mem fun{x y} p K v=>?_;have q:x<t.size:=by{have:=(zl6 (Za t)).1.mem_iff.1 p;rw[s]at this;simpa using this};have f:y<t.size:=by{have:=(zl6 (Za t)).1.mem_iff.1 K;rw[s]at this;simpa using this};rw[o x q,o y f];intro d;rw[Ot]at d;have bx:=B x q (by rw[c];exact zbh n);have g:=B y f (by rw[c];exact zbh n);rcases v with e|⟨e,m⟩;{have i:bt (Za t) x<bt (Za t) y:=Fh e;rw[bx,g]at i;rcases d with h|⟨h,_⟩;{have:(t.data.toList[prv t.size (Jt t y)]'(by rw[c];exact zbh n)).toNat<(t.data.toList[prv t.size (Jt t x)]'(by rw[c];exact zbh n)).toNat:=h;omega};{rw[h]at i;omega}};{have i:¬bt (Za t) y<bt (Za t) x:=Le e;rw[bx,g]at i;rcases d with h|⟨_,h⟩;{exact i h};{exact zli (by rw[zgK,zgK]) (zyI m f) h}}};have G:((ord t).map (rl t.data.toList)).Pairwise (fun a b=>¬b<a):=by{rw[Sq];refine(Jh t).2.imp fun{x y} h=>?_;rcases h with e|⟨e,_⟩;{rw[zeX]at e;exact zvL (Fh e)};{rw[zeX]at e;exact Le e}};have I:((pl (Za t)).map fun j=>rl t.data.toList (prv t.size (Jt t j))).Perm ((ord t).map (rl t.data.toList)):=by{have r:((pl (Za t)).map fun j=>prv t.size (Jt t j)).Perm ((List.range t.size).map fun j=>prv t.size (Jt t j)):=by{have:=(zl6 (Za t)).1;rw[s]at this;exact this.map _};have u:((List.range t.size).map fun j=>prv t.size (Jt t j))=(ord t).map (prv t.size):=by{rw[<-zwX t,Pz];rfl};rw[u]at r;have E:=(r.trans ((Jh t).1.map (prv t.size))).trans ((zt7 t.size).trans (Jh t).1.symm);have w:=E.map (rl t.data.toList);rw[Pz]at w;exact w};have H:((pl (Za t)).map fun j=>rl t.data.toList (prv t.size (Jt t j)))=(ord t).map (rl t.data.toList):=by{refine Ob ?_ F G I;intro a b _ _ r u;exact List.le_antisymm (show a<=b from r) (show b<=a from u)};have l:j<(pl (Za t)).length:=by{rw[zj1,s];exact C};have k:j<(ord t).length:=by{rw[zcy];exact C};have z:((pl (Za t)).map fun j=>rl t.data.toList (prv t.size (Jt t j)))[j]'(by simpa using l)=((ord t).map (rl t.data.toList))[j]'(by simpa using k):=by{simp only[H]};rw[Lj,Lj,zlP _ j l,<-QH (Jh t) j k]at z;exact z
theorem zge(t:zY):ZX t.size (bt t)=t:=by have:((List.range t.size).map fun j=>UInt8.ofNat (bt t j))=t.data.toList:=by{apply Li;{simp};{intro i b a;rw[Lj,Ny,zhN t i a];simp}};unfold ZX;rw[this]
theorem zt3{t:zY}(g:t.size<=48):zac (Za t) (ZK t)=t:=by have d:=JV g;unfold zac;rw[d];refine Rs (qE _ _ _ fun k p=>?_) (zge t);have l:0<t.size:=by{omega};have c:ZK t<t.size/\Jt t (ZK t)=0:=by{unfold ZK;rw[Ei g];apply zrB;have o:0∈ord t:=(Jh t).1.mem_iff.2 (Kr.2 l);obtain⟨i,n,e⟩:=Fn o;exact⟨i,by rw[<-zcy];exact n,by rw[QH (Jh t) i n];exact e⟩};have a:∀k,itR (Za t) (ZK t) k<t.size:=fun k=>by{have:=ziZ (Za t) (ZK t) k (by rw[d];exact c.1);rw[d]at this;exact this};have f:∀j,j<t.size->∀i,ch t (prv t.size (Jt t (plF (Za t) j))+i)=ch t (Jt t j+i):=fun j h i=>by{have r:plF (Za t) j<t.size:=by{have:=zwa (Za t) j (by rw[d];exact h);rw[d]at this;exact this};exact zzA (zbh l) (zlm t j h) (step g j h) i};have m:∀k,∀i,ch t (Jt t (itR (Za t) (ZK t) k)+i)=ch t (k+i):=by{intro k;induction k with|zero=>{intro i;show ch t (Jt t (ZK t)+i)=_;rw[c.2]}|succ k q=>{intro i;have b:=f (itR (Za t) (ZK t) k) (a k) (i+1);rw[zyn t (Jt t (plF (Za t) (itR (Za t) (ZK t) k))) i (zlm t _ (a (k+1))),q (i+1)]at b;rw[show k+1+i=k+(i+1) by omega];exact b}};rw[zqS g _ (a (k+1))];have b:=f (itR (Za t) (ZK t) k) (a k) 0;rw[m k 0]at b;simp only[Ms]at b;unfold ch at b;rw[Fw p,Fw (zbh l)]at b;exact b
theorem zr0{t:zY}(a:t.size<=48):unR (Za t) ((ZK t:Nat):Int)=QT t 0 0:=by have d:=zt3 a;have g:=JV a;have h:ZK t<=t.size:=by{unfold ZK;rw[Ei a];exact znK _ _};have b:ZK t<(Za t).size∨ZK t=0:=by{rw[g];by_cases c:t.size=0;{right;omega};{left;unfold ZK;rw[Ei a];refine(zrB _ _ ?_).1;have c:0∈ord t:=(Jh t).1.mem_iff.2 (Kr.2 (by omega));obtain⟨i,f,e⟩:=Fn c;exact⟨i,by rw[<-zcy];exact f,by rw[QH (Jh t) i f];exact e⟩}};rw[zlc (by omega) b (by rw[d];exact⟨rfl,rfl⟩),d]
end So
namespace Bi
open In (Ints)
def zy3(l:List Int):Int × Int:=if right l=true then ((j8 l:Nat),(zJ l:Nat)) else (-1,0)
theorem znc{l:List Int}(h:right l=true):zy3 l=(((j8 l:Nat):Int),((zJ l:Nat):Int)):=Ei h
theorem zhP{l:List Int}(h:right l=false):zy3 l=(-1,0):=Eh (by rw[h];decide)
theorem zyF{l:List Int}{k:Nat}(c:l.length<=k)(h:∀j (a:j<l.length),j<k->0<=l[j]/\l[j]<=12):∀x∈l,0<=x/\x<=12:=by intro x b;obtain⟨j,a,rfl⟩:=Fn b;exact h j a (by omega)
theorem zr5{l:List Int}{k:Nat}(d:k<l.length)(h:∀j (a:j<l.length),j<k->0<=l[j]/\l[j]<=12)(b:0<=l[k]/\l[k]<=12):∀j (a:j<l.length),j<k+1->0<=l[j]/\l[j]<=12:=by intro j a c;by_cases e:j=k;{subst e;exact b};{exact h j a (by omega)}
theorem ztM(l:List Int)(a:Option Addr)(R B:Nat)(w:zW)(hi:Ints w B a l)(hn:l.length<=400): Calls prog 258 #[.slice a l.length R] w fun e w'=>e=.returned (.tuple #[.int .i64 (zy3 l).1,.int .i64 (zy3 l).2])/\w'=w:=by have HS:=zf hi;clear hi;obtain⟨n,E⟩:∃n,n=l.length:=⟨_,rfl⟩;have g:=zf E;rw[<-E]at hn ⊢;clear E;have o:=zf (zh7 12 w (by decide));obtain⟨r,X⟩:∃r,r=zy3 l:=⟨_,rfl⟩;rw[<-X];have K:=zf X;clear X;go_enter func258,ntmps258;(go_wp2_with fail);(go_loopw [6,4,5] (fun i v u wr=>∃k s c:Nat,i=.int .i64 k/\v=.int .i64 s/\u=.int .i64 c/\k<=n/\s=j8 (l.take k)/\c=zJ (l.take k)/\s<=4096*k/\c<=k/\(∀j (hj:j<l.length),j<k->0<=l[j]/\l[j]<=12)/\wr=w) (fun i _ _ _=>n-(intOf i).toNat));(case atStart=>exact⟨0,0,0,rfl,rfl,rfl,En _,by simp[j8],by simp[zJ],by omega,by omega,fun j hj p=>absurd p (Kd j),rfl⟩);(case round=>obtain⟨k,s,c,rfl,rfl,rfl,hk,hs,G,ag,ac,q,F⟩:=hrel;subst F;have M:=zf hs;have P:=zf G;have Z:=zf q;clear hs G q;by_cases V:k<n;{have h:k<l.length:=by{rw[<-g.o];exact V};obtain⟨b,off,rfl,hb,hc⟩:=HS.o.some (by omega);have ci:=hc k h;have Q:=zf (zkT h);have z:=zf (zdW h);have y:=zf (zr5 h Z.o);obtain⟨x,Y⟩:∃x,x=l[k]:=⟨_,rfl⟩;have HX:=zf Y;rw[<-Y]at ci Q z y;clear hc Y;by_cases p:0<=x/\x<=12;{have H:=zf (ZA x 0 12 wr p.1 p.2);by_cases f:0<x;{obtain⟨m,rfl,ae,af,L⟩:=znd x f p.2;obtain⟨d,hd⟩:∃d:Nat,d=12-m:=⟨_,rfl⟩;have ad:(12:Int)-m=d:=by{omega};have HQ:=zf (zh7 d wr (by omega));rw[<-hd]at L;have W:2 ^ d<=4096:=by{have:=zpg (m:Int);rw[L]at this;exact this};have I:=zf L;have C:Hid (zJ (l.take (k+1))=c+1):=by{unfold Hid;rw[z.o,Ei f,P.o]};clear L hd;generalize 2 ^ d=pm at W I HQ;(go_wp2_with fail);refine H.o.mono ?_;rintro e w' ⟨rfl,F⟩;subst w';(go_wp2_with fail);refine HQ.o.mono ?_;rintro e w' ⟨rfl,F⟩;subst w';(go_wp2_with fail);(go_roundw);(case rel=>exact⟨k+1,s+pm,c+1,by go_num,by go_num,by go_num,by omega,by rw[Q.o,I.o,M.o],C.o.symm,by omega,by omega,y.o p,trivial⟩);(case measure=>simp[intOf];omega)};{have I:=zf (zkv x f);have C:Hid (zJ (l.take (k+1))=c):=by{unfold Hid;rw[z.o,Eh f,P.o];rfl};(go_wp2_with fail);refine H.o.mono ?_;rintro e w' ⟨rfl,F⟩;subst w';(go_wp2_with fail);(go_roundw);(case rel=>exact⟨k+1,s,c,by go_num,rfl,rfl,by omega,by rw[Q.o,I.o,M.o];rfl,C.o.symm,by omega,by omega,y.o p,trivial⟩);(case measure=>simp[intOf];omega)}};{have H:=zf (JR x 0 12 wr (by omega));have t:Hid (r=(-1,0)):=by{unfold Hid;rw[K.o];exact zhP (zc5 (Or.inl (zhG (m:=12) h (by rw[<-HX.o];omega))))};clear p;(go_wp2_with fail);refine H.o.mono ?_;rintro e w' ⟨rfl,F⟩;subst w';(go_wp2_with fail);go_ret2;exact⟨by rw[t.o];rfl,rfl⟩}};{have D:Hid (s=j8 l):=by{unfold Hid;rw[M.o,Ez (by have:=g.o;omega)]};have O:Hid (c=zJ l):=by{unfold Hid;rw[P.o,Ez (by have:=g.o;omega)]};have HG:=zf (zyF (by have:=g.o;omega) Z.o);by_cases U:257<n;{have t:Hid (r=(-1,0)):=by{unfold Hid;rw[K.o];exact zhP (zc5 (Or.inl (zcw (by have:=g.o;omega))))};have S:(257:Int)<n:=by{omega};(go_wp2_with fail);go_ret2;exact⟨by rw[t.o];rfl,rfl⟩};{have S:decide ((257:Int)<n)=false:=Ed (by omega);have HW:Hid (within l 12=true):=J5 (by have:=g.o;omega) HG.o;by_cases aa:4096<s;{have t:Hid (r=(-1,0)):=by{unfold Hid;rw[K.o];exact zhP (zc5 (Or.inr (by rw[<-D.o];omega)))};(go_wp2_with fail);refine o.o.mono ?_;rintro e w' ⟨rfl,F⟩;subst w';(go_wp2_with fail);go_ret2;exact⟨by rw[t.o];rfl,rfl⟩};{have t:Hid (r=((s:Int),(c:Int))):=by{unfold Hid;rw[K.o,D.o,O.o];exact znc (znH HW.o (by rw[<-D.o];omega))};have ab:decide ((4096:Int)<s)=false:=Ed (by omega);(go_wp2_with fail);refine o.o.mono ?_;rintro e w' ⟨rfl,F⟩;subst w';(go_wp2_with fail);go_ret2;exact⟨by rw[t.o];rfl,rfl⟩}}})
theorem zdZ{l:List Int}(h:right l=true)(a:j8 l=4096):whole l=true:=by unfold whole;rw[h,Eo a];rfl
theorem zhn{l:List Int}(h:right l=true)(a:zJ l=1)(b:j8 l=2048):whole l=true:=by unfold whole;rw[h,Eo a,Eo b];simp
theorem zi8{l:List Int}(a:¬j8 l=4096)(b:¬zJ l=1):whole l=false:=by unfold whole;rw[Ed a,Ed b];simp
theorem zjH{l:List Int}(a:¬j8 l=4096)(b:¬j8 l=2048):whole l=false:=by unfold whole;rw[Ed a,Ed b];simp
theorem zkw(l:List Int)(a:Option Addr)(k B:Nat)(w:zW)(q:Ints w B a l)(j:l.length<=400): Calls prog 225 #[.slice a l.length k] w fun e w'=>e=.returned (.bool (whole l))/\w'=w:=by have b:=zf (ztM l a k B w q j);have c:=zf (zh7 12 w (by decide));have g:=zf (zh7 11 w (by decide));clear q;cases o:right l with|false=>{have d:=zf (zh9 o);rw[zhP o]at b;generalize l.length=n at b j ⊢;generalize whole l=p at d ⊢;go_enter func225,ntmps225;(go_wp2_with fail);refine b.o.mono ?_;rintro e w' ⟨rfl,f⟩;subst w';(go_wp2_with fail);refine c.o.mono ?_;rintro e w' ⟨rfl,f⟩;subst w';(go_wp2_with fail);go_ret;exact⟨zO d.o.symm,rfl⟩}|true=>{rw[znc o]at b;by_cases h:j8 l=4096;{have d:=zf (zdZ o h);rw[h]at b;generalize l.length=n at b j ⊢;generalize whole l=p at d ⊢;generalize zJ l=r at b;clear h;go_enter func225,ntmps225;(go_wp2_with fail);refine b.o.mono ?_;rintro e w' ⟨rfl,f⟩;subst w';(go_wp2_with fail);refine c.o.mono ?_;rintro e w' ⟨rfl,f⟩;subst w';(go_wp2_with fail);go_ret;exact⟨zO d.o.symm,rfl⟩};{by_cases i:zJ l=1;{by_cases m:j8 l=2048;{have d:=zf (zhn o i m);rw[m,i]at b;generalize l.length=n at b j ⊢;generalize whole l=p at d ⊢;clear h i m;go_enter func225,ntmps225;(go_wp2_with fail);refine b.o.mono ?_;rintro e w' ⟨rfl,f⟩;subst w';(go_wp2_with fail);refine c.o.mono ?_;rintro e w' ⟨rfl,f⟩;subst w';(go_wp2_with fail);refine g.o.mono ?_;rintro e w' ⟨rfl,f⟩;subst w';(go_wp2_with fail);go_ret;exact⟨zO d.o.symm,rfl⟩};{have d:=zf (zjH h m);rw[i]at b;have g1:(((j8 l:Nat):Int)==4096)=false:=Es.2 (by omega);have g3:(((j8 l:Nat):Int)==2048)=false:=Es.2 (by omega);generalize l.length=n at b j ⊢;generalize whole l=p at d ⊢;generalize j8 l=s at b g1 g3;clear h i m;go_enter func225,ntmps225;(go_wp2_with fail);refine b.o.mono ?_;rintro e w' ⟨rfl,f⟩;subst w';(go_wp2_with fail);refine c.o.mono ?_;rintro e w' ⟨rfl,f⟩;subst w';(go_wp2_with fail);refine g.o.mono ?_;rintro e w' ⟨rfl,f⟩;subst w';(go_wp2_with fail);go_ret;exact⟨zO d.o.symm,rfl⟩}};{have d:=zf (zi8 h i);have g1:(((j8 l:Nat):Int)==4096)=false:=Es.2 (by omega);have g2:(((zJ l:Nat):Int)==1)=false:=Es.2 (by omega);generalize l.length=n at b j ⊢;generalize whole l=p at d ⊢;generalize j8 l=s at b g1;generalize zJ l=r at b g2;clear h i;go_enter func225,ntmps225;(go_wp2_with fail);refine b.o.mono ?_;rintro e w' ⟨rfl,f⟩;subst w';(go_wp2_with fail);refine c.o.mono ?_;rintro e w' ⟨rfl,f⟩;subst w';(go_wp2_with fail);go_ret;exact⟨zO d.o.symm,rfl⟩}}}
theorem zbY(l:List Int)(a:Option Addr)(c B:Nat)(w:zW)(r:Ints w B a l)(p:l.length<=1048576): Calls prog 223 #[.slice a l.length c] w fun e w'=>e=.returned (.bool (whole l))/\w'=w:=by have d:=zf (ZU l a c B w r p);have j:=zf (Qu l a c B w r p);have h:=zf (zh0 l 1 a c B w r p);cases f:right l with|false=>{have b:=zf (zh9 f);rw[f]at d;clear r;generalize l.length=n at d p ⊢;generalize whole l=s at b ⊢;go_enter func223,ntmps223;(go_wp2_with fail);refine d.o.mono ?_;rintro e w' ⟨rfl,g⟩;subst w';(go_wp2_with fail);go_ret;exact⟨zO b.o.symm,rfl⟩}|true=>{have k:=zf (zmG l a c B w r (zH f).1);rw[f]at d;clear r;by_cases o:zJ l=1;{rw[alone l o]at h;rw[o]at j;by_cases q:j8 l=2048;{have b:=zf (zhn f o q);rw[Eo q]at h;generalize l.length=n at d j h k p ⊢;generalize whole l=s at b ⊢;clear o q f k;go_enter func223,ntmps223;(go_wp2_with fail);refine d.o.mono ?_;rintro e w' ⟨rfl,g⟩;subst w';(go_wp2_with fail);refine j.o.mono ?_;rintro e w' ⟨rfl,g⟩;subst w';(go_wp2_with fail);refine h.o.mono ?_;rintro e w' ⟨rfl,g⟩;subst w';(go_wp2_with fail);go_ret;exact⟨zO b.o.symm,rfl⟩};{have b:Hid (whole l=decide (j8 l=4096)):=by{unfold Hid;by_cases i:j8 l=4096;{rw[zdZ f i,Eo i]};{rw[zjH i q,Ed i]}};rw[Ed q]at h;have m:Hid (((((j8 l:Nat):Int))==4096)=decide (j8 l=4096)):=by{unfold Hid;rw[Bool.eq_iff_iff];simp;omega};generalize decide (j8 l=4096)=u at b m;generalize l.length=n at d j h k p ⊢;generalize whole l=s at b ⊢;generalize j8 l=t at k m;clear o q f;go_enter func223,ntmps223;(go_wp2_with fail);refine d.o.mono ?_;rintro e w' ⟨rfl,g⟩;subst w';(go_wp2_with fail);refine j.o.mono ?_;rintro e w' ⟨rfl,g⟩;subst w';(go_wp2_with fail);refine h.o.mono ?_;rintro e w' ⟨rfl,g⟩;subst w';(go_wp2_with fail);refine k.o.mono ?_;rintro e w' ⟨rfl,g⟩;subst w';(go_wp2_with fail);go_ret;exact⟨zO (m.o.trans b.o.symm),rfl⟩}};{have b:Hid (whole l=decide (j8 l=4096)):=by{unfold Hid;by_cases i:j8 l=4096;{rw[zdZ f i,Eo i]};{rw[zi8 i o,Ed i]}};have g2:(((zJ l:Nat):Int)==1)=false:=Es.2 (by omega);have m:Hid (((((j8 l:Nat):Int))==4096)=decide (j8 l=4096)):=by{unfold Hid;rw[Bool.eq_iff_iff];simp;omega};generalize decide (j8 l=4096)=u at b m;generalize l.length=n at d j h k p ⊢;generalize whole l=s at b ⊢;generalize j8 l=t at k m;generalize zJ l=v at j g2;clear o f h;go_enter func223,ntmps223;(go_wp2_with fail);refine d.o.mono ?_;rintro e w' ⟨rfl,g⟩;subst w';(go_wp2_with fail);refine j.o.mono ?_;rintro e w' ⟨rfl,g⟩;subst w';(go_wp2_with fail);refine k.o.mono ?_;rintro e w' ⟨rfl,g⟩;subst w';(go_wp2_with fail);go_ret;exact⟨zO (m.o.trans b.o.symm),rfl⟩}}
end Bi
namespace St
def Jw(w:zW)(lo hi:Nat)(v:Value)(l:List zY):Prop :=
 (v=.slice none 0 0/\l=[])∨∃g cap,v=.slice (some ⟨g,0,none⟩) l.length cap/\lo<=g/\g<hi/\IsO w g 9 l
def zzW(w:zW)(lo hi:Nat)(v:Value)(n:Nat):Prop:=Jw w lo hi v (marks 1 n)
end St
namespace So
open Go.RowKit Go.Sort Go.Proofs
theorem zlB(T:zY)(Q:Nat)(blk a7 a b:Nat)(d:Array Nat)(w:zW)(hH:HoldsK encI 1 w blk 0 d)(D:blk<w.heap.size)(a8:a<=b)(hb:b<=d.size)(bg:d.size<=1048576)(M:Cap w Q T)(Z:Q≠blk)(ap:∀i,dF d i<T.size)
  (P:∀i j,a<=i->i<j->j<b->dF d i<dF d j) :
  Calls prog 289 #[.slice (some ⟨blk,0,none⟩) d.size a7,.int .i64 a,.int .i64 b,.func (.func 280) #[] #[.pointer (some ⟨Q,0,none⟩)]] w fun e w'=>
   e=.returned (.tuple #[])/\∃n d' os,w'=sortWorldK encI 1 w blk 0 n d' os/\d'.size=d.size/\qt a b (dF d) (dF d')/\Ris (clI T) a b (dF d'):=by
 have mixed:=mixed;have am:=zc (qH hH);have HH:=zc hH;have a0:Hid (∀(m:Nat) (I:Array Nat) (os:Array Obj),Cap (sortWorldK encI 1 w blk 0 m I os) Q T):=fun m I os=>M.block (Zf m I os M.lt Z);have az:=zc ap;clear M Z ap;have a4:=zc P;clear hH P;obtain⟨z,hz⟩:∃z,z=d.size:=⟨_,rfl⟩;have HZ:=zc hz;rw[<-hz]at hb bg ⊢;clear hz;by_cases hE:a=b
 ·subst hE
  go_enter func289,ntmps289
  go_wp2_with fail
  go_loopw [8] (fun i wr=>i=.int .i64 ((a:Int)+1)/\wr=w) (fun _ _=>0)
  case atStart=>exact⟨by go_num,rfl⟩
  case round=>
   obtain⟨rfl,rfl⟩:=hrel
   go_wp2_with fail
   refine Ku (v:=.tuple #[]) (by simp[results,results289,go_sem]) rfl ⟨rfl,0,d,#[],am.o,HZ.o.symm,qt.refl _ _ _,fun i j G K h3=>absurd h3 (by omega)⟩
 ·have bj:a<b:=by omega
  clear hE a8;go_enter func289,ntmps289
  go_wp2_with fail
  go_loopw [8] (fun vi wr=>∃(i n:Nat) (I:Array Nat) (os:Array Obj),vi=.int .i64 i/\a<i/\i<=b/\I.size=z/\qt a i (dF d) (dF I)/\Ris (clI T) a i (dF I)/\wr=sortWorldK encI 1 w blk 0 n I os) (fun vi _=>b-(intOf vi).toNat)
  case atStart=>exact⟨a+1,0,d,#[],by go_num,by omega,by omega,HZ.o.symm,qt.refl _ _ _,fun i j G K h3=>absurd h3 (by omega),am.o⟩
  case round=>
   obtain⟨i,n,I,os,rfl,a9,bl,ay,O,ab,s⟩:=hrel;have al:=zc ay;have F:=zc O;have R:=zc ab;have HW:=zc s;clear ay O ab s;by_cases be:i<b
   ·obtain⟨f,hf⟩:∃f,f=dF I:=⟨_,rfl⟩
    rw[<-hf]at F R;have a2:=zc hf;have ai:Hid (∀i,f i<T.size):=F.o.bd az.o
    have a3:Hid (∀k,a<=k->k<i->f k<f i):=fun k G K=>by
     have e:f i=dF d i:=F.o.2 i (Or.inr (Ea _));rw[e];exact F.o.all (p:=fun v=>v<dF d i) (fun j h3 h4=>a4.o j i h3 h4 be) k G K
    clear hf;(go_wp2_with fail)
    go_loopw [9] (fun vj bh=>∃(j m:Nat) (g:Array Nat) (H:Array Obj),vj=.int .i64 j/\a<=j/\j<=i/\g.size=z/\dF g=qO j i (i+1) f/\(∀k,j<=k->k<i->clI T (f i) (f k)=true)/\bh=sortWorldK encI 1 w blk 0 m g H) (fun vj _=>(intOf vj).toNat)
    case atStart=>exact⟨i,n,I,os,rfl,by omega,Ea _,al.o,by rw[zdj];exact a2.o.symm,fun k G K=>absurd K (by omega),HW.o⟩
    case round=>
     obtain⟨j,m,g,H,rfl,ao,Y,ax,au,aq,s⟩:=hrel;have h:=zc ax;have E:=zc au;have aj:=zc aq;have bk:=zc s
     -- the end of the inner loop
     have an:Hid ((∀k,a<=k->k<j->lx (clI T) (f k) (f i))->qt a (i+1) (dF d) (dF g)/\Ris (clI T) a (i+1) (dF g)):=fun bc=>by
      rw[E.o];refine⟨?_,?_⟩
      ·have G:=F.o.mono (Ea a) (Fo a9) (Mz i)
       exact G.trans ((zaD f Y (Mz i)).mono ao (by omega) (Ea _))
      ·exact zfa (Qa T) R.o ao Y bc (fun k G K=>zcq (aj.o k G K))
     clear ax au aq;by_cases bm:a<j
     ·obtain⟨c,aw⟩:∃c,j=c+1:=⟨j-1,by omega⟩
      have l:=zc aw;have S:HoldsK encI 1 wr blk 0 g:=(by rw[s];exact zt HH.o D m g H (h.o.trans HZ.o));have V:blk<wr.heap.size:=(by rw[s];exact Ey D (zX m g H));obtain⟨B,ag⟩:=Zl S (i:=j) (by have:=h.o;omega);obtain⟨C,ah⟩:=Zl S (i:=c) (by have:=h.o;omega)
      have ex:g[j]! =f i:=by
       have:dF g j=f i:=by
        rw[E.o,J3 f j (Ea _) (by omega)]
        congr 1
        omega
       exact this
      have ey:g[c]! =f c:=by
       have:dF g c=f c:=by rw[E.o,zcA f c (Or.inl (by omega)) Y (Mz i)]
       exact this
      rw[ex]at B;rw[ey]at C;obtain⟨x,hx⟩:∃x,x=f i:=⟨_,rfl⟩;obtain⟨y,hy⟩:∃y,y=f c:=⟨_,rfl⟩;have t:Hid (x=f i/\y=f c):=⟨hx,hy⟩;rw[<-hx]at B;rw[<-hy]at C;have g0:=fun n' u=>cell_grown (a:=⟨blk,j,none⟩) V B n' u;have g2:=fun n' u=>cell_grown (a:=⟨blk,c,none⟩) V C n' u;have ae:wr.cell? ⟨Q,0,none⟩=some (.string T):=(by rw[s];exact a0.o _ _ _);have ar:Q<wr.heap.size:=Cap.lt ae;have gc:=fun n' u=>cell_grown (a:=⟨Q,0,none⟩) ar ae n' u;clear ae ar;have ac:Hid (∀W,Cap W Q T->Calls prog 280 #[.int .i64 x,.int .i64 y,.pointer (some ⟨Q,0,none⟩)] W fun e w'=>e=.returned (.int .i64 (cfI T x y))/\∃q u,w'=grow (W.drewN q) u):=fun W hW=>zuj T Q x y W hW (by rw[t.o.1];exact ai.o _) (by rw[t.o.2];exact ai.o _);have o:=zhW T x y;obtain⟨r,hr⟩:∃r,r=cfI T x y:=⟨_,rfl⟩;rw[<-hr]at o ac;have e1:(j:Int)-1=(c:Int):=(by omega);have bn:IntKind.i64.wrap (c:Int)=(c:Int):=(by rw[E1];omega);have jz:(j:Int)<(z:Int):=(by omega);have bo:(c:Int)<(z:Int):=(by omega);have aa:(a:Int)<(j:Int):=(by omega);have av:decide ((a:Int)<(j:Int))=true:=Eo aa;have L:=zc (fun n' u=>sortWorldK_grown_c encI 1 w blk 0 m n' g H u);rw[<-s]at L;clear hr ex ey hx hy aw s
      cases X:clI T x y with
      |true=>
       rw[X]at o;have bf:r<0:=Fh o;clear o;(go_wp2_with fail)
       go_quiet_grown (first|(go_at_call 280;refine Calls.grown_of (ac.o _ (gc _ _))))
       have U:grow (wr.drewN nq) osq=sortWorldK encI 1 w blk 0 (m+nq) g (H++osq):=L.o nq osq;dsimp only;clear g0 g2 gc B ag C ah S V;generalize grow (wr.drewN nq) osq=W2 at U ⊢;have ad:HoldsK encI 1 W2 blk 0 g:=(by rw[U];exact zt HH.o D (m+nq) g (H++osq) (h.o.trans HZ.o));obtain⟨B,ag⟩:=Zl ad (i:=j) (by have:=h.o;omega);obtain⟨C,ah⟩:=Zl ad (i:=c) (by have:=h.o;omega)
       have ex:g[j]! =x:=by
        have:dF g j=x:=by
         rw[t.o.1,E.o,J3 f j (Ea _) (by omega)]
         congr 1
         omega
        exact this
       have ey:g[c]! =y:=by
        have:dF g c=y:=by rw[t.o.2,E.o,zcA f c (Or.inl (by have:=l.o;omega)) Y (Mz i)]
        exact this
       have af:=sortWorldK_swp_c encI 1 w blk 0 ze5 (m+nq) g (H++osq) D j c (by have:=h.o;omega) (by have:=h.o;omega);rw[ex,ey,<-U,Ff,Ff,K3,K3]at af;rw[ex]at B;rw[ey]at C;have a5:=zc af;have bi:c<j:=(by have:=l.o;omega)
       have ak:Hid (So.swp (qO j i (i+1) f) j c=qO c i (i+1) f):=by
        unfold Hid;rw[l.o];exact ze4 c i f (by have:=l.o;omega)
       clear U ad ex ey af;(go_wp2_with fail)
       go_region
       all_goals (try go_wp2_with fail)
       all_goals go_roundw
       case rel=>
        refine⟨c,m+nq+1,Go.Sort.swp g j c,H++osq,rfl,by have:=l.o;omega,by omega,by rw[Nc];exact h.o,?_,fun k G K=>?_,a5.o⟩
        ·rw[zej g j c (by have:=h.o;omega) (by have:=h.o;omega),E.o]
         exact ak.o
        ·rcases N0 G with e|e
         ·rw[<-e,<-t.o.1,<-t.o.2]
          exact X
         ·exact aj.o k (by have:=l.o;omega) K
       case measure=>have:=l.o;simp[intOf];omega
      |false=>
       rw[X]at o;have bf:¬r<0:=Le o
       have HO:=zc (an.o (fun k G K=>by
        have bb:lx (clI T) (f c) (f i):=by
         rw[<-t.o.1,<-t.o.2];refine zgw X ?_;rw[t.o.1,t.o.2];exact a3.o c (by have:=l.o;omega) (by have:=l.o;omega)
        exact R.o.le G (show k<=c by have:=l.o;omega) (by have:=l.o;omega) (Qa T) bb))
       clear o;(go_wp2_with fail)
       go_quiet_grown (first|(go_at_call 280;refine Calls.grown_of (ac.o _ (gc _ _))))
       have a6:Hid (grow (wr.drewN nq) osq=sortWorldK encI 1 w blk 0 (m+nq) g (H++osq)):=L.o nq osq;dsimp only;clear g0 g2 gc B ag C ah S V;(go_wp2_with fail)
       go_roundw
       case rel=>exact⟨i+1,m+nq,g,H++osq,by go_num,by omega,by omega,h.o,HO.o.1,HO.o.2,a6.o⟩
       case measure=>simp[intOf];omega
     ·have av:decide ((a:Int)<(j:Int))=false:=Ed (by omega)
      have aa:¬(a:Int)<(j:Int):=by omega
      have HO:=zc (an.o (fun k G K=>absurd K (by omega)))
      have a1:Hid (wr.drew=sortWorldK encI 1 w blk 0 (m+1) g H):=by
       unfold Hid;rw[s];rfl
      clear s;(go_wp2_with fail)
      go_region
      all_goals (try go_wp2_with fail)
      all_goals go_roundw
      case rel=>exact⟨i+1,m+1,g,H,by go_num,by omega,by omega,h.o,HO.o.1,HO.o.2,a1.o⟩
      case measure=>simp[intOf];omega
   ·obtain rfl:i=b:=by omega
    (go_wp2_with fail);refine Ku (v:=.tuple #[]) (by simp[results,results289,go_sem]) rfl ⟨rfl,n,I,os,HW.o,al.o,F.o,R.o⟩
end So
namespace So
open Go.RowKit Go.Sort Go.Proofs
def cvT:Value:=.func (.func 250) #[] #[]
theorem zlN(T:Nat->zY)(blk a3 a b:Nat)(d:Array Nat)(w:zW)(hH:HoldsK (qU T) 2 w blk 0 d)(F:blk<w.heap.size)(a4:a<=b)(hb:b<=d.size)(bb:d.size<=1048576)
  (Q:∀i j,a<=i->i<j->j<b->dF d i<dF d j) :
  Calls prog 282 #[.slice (some ⟨blk,0,none⟩) d.size a3,.int .i64 a,.int .i64 b,.func (.func 250) #[] #[]] w fun e w'=>
   e=.returned (.tuple #[])/\∃n d' os,w'=sortWorldK (qU T) 2 w blk 0 n d' os/\d'.size=d.size/\qt a b (dF d) (dF d')/\Ris (clT T) a b (dF d'):=by
 have mixed:=mixed;have am:=zc (qH hH);have HH:=zc hH;have a0:=zc Q;clear hH Q;obtain⟨z,hz⟩:∃z,z=d.size:=⟨_,rfl⟩;have HZ:=zc hz;rw[<-hz]at hb bb ⊢;clear hz;by_cases hE:a=b
 ·subst hE
  go_enter func282,ntmps282
  go_wp2_with fail
  go_loopw [8] (fun i wr=>i=.int .i64 ((a:Int)+1)/\wr=w) (fun _ _=>0)
  case atStart=>exact⟨by go_num,rfl⟩
  case round=>
   obtain⟨rfl,rfl⟩:=hrel
   go_wp2_with fail
   refine Ku (v:=.tuple #[]) (by simp[results,results282,go_sem]) rfl ⟨rfl,0,d,#[],am.o,HZ.o.symm,qt.refl _ _ _,fun i j H L h3=>absurd h3 (by omega)⟩
 ·have bf:a<b:=by omega
  clear hE a4;go_enter func282,ntmps282
  go_wp2_with fail
  go_loopw [8] (fun vi wr=>∃(i n:Nat) (Z:Array Nat) (os:Array Obj),vi=.int .i64 i/\a<i/\i<=b/\Z.size=z/\qt a i (dF d) (dF Z)/\Ris (clT T) a i (dF Z)/\wr=sortWorldK (qU T) 2 w blk 0 n Z os) (fun vi _=>b-(intOf vi).toNat)
  case atStart=>exact⟨a+1,0,d,#[],by go_num,by omega,by omega,HZ.o.symm,qt.refl _ _ _,fun i j H L h3=>absurd h3 (by omega),am.o⟩
  case round=>
   obtain⟨i,n,Z,os,rfl,a5,bh,aw,P,ab,t⟩:=hrel;have al:=zc aw;have O:=zc P;have R:=zc ab;have HW:=zc t;clear aw P ab t;by_cases a8:i<b
   ·obtain⟨f,hf⟩:∃f,f=dF Z:=⟨_,rfl⟩
    rw[<-hf]at O R;have ay:=zc hf
    have az:Hid (∀k,a<=k->k<i->f k<f i):=fun k H L=>by
     have e:f i=dF d i:=O.o.2 i (Or.inr (Ea _));rw[e];exact O.o.all (p:=fun v=>v<dF d i) (fun j h3 h4=>a0.o j i h3 h4 a8) k H L
    clear hf;(go_wp2_with fail)
    go_loopw [9] (fun vj bc=>∃(j m:Nat) (g:Array Nat) (K:Array Obj),vj=.int .i64 j/\a<=j/\j<=i/\g.size=z/\dF g=qO j i (i+1) f/\(∀k,j<=k->k<i->clT T (f i) (f k)=true)/\bc=sortWorldK (qU T) 2 w blk 0 m g K) (fun vj _=>(intOf vj).toNat)
    case atStart=>exact⟨i,n,Z,os,rfl,by omega,Ea _,al.o,by rw[zdj];exact ay.o.symm,fun k H L=>absurd L (by omega),HW.o⟩
    case round=>
     obtain⟨j,m,g,K,rfl,ao,X,av,aq,ap,t⟩:=hrel;have h:=zc av;have G:=zc aq;have aj:=zc ap;have bg:=zc t
     -- the end of the inner loop
     have an:Hid ((∀k,a<=k->k<j->lx (clT T) (f k) (f i))->qt a (i+1) (dF d) (dF g)/\Ris (clT T) a (i+1) (dF g)):=fun a7=>by
      rw[G.o];refine⟨?_,?_⟩
      ·have H:=O.o.mono (Ea a) (Fo a5) (Mz i)
       exact H.trans ((zaD f X (Mz i)).mono ao (by omega) (Ea _))
      ·exact zfa (Zq T) R.o ao X a7 (fun k H L=>zcq (aj.o k H L))
     clear av aq ap;by_cases bi:a<j
     ·obtain⟨c,au⟩:∃c,j=c+1:=⟨j-1,by omega⟩
      have l:=zc au;have S:HoldsK (qU T) 2 wr blk 0 g:=(by rw[t];exact zt HH.o F m g K (h.o.trans HZ.o));have I:blk<wr.heap.size:=(by rw[t];exact Ey F (zX m g K));obtain⟨B,af,C,ag⟩:=Zn S (i:=j) (by have:=h.o;omega);obtain⟨D,ah,E,ai⟩:=Zn S (i:=c) (by have:=h.o;omega)
      have ex:g[j]! =f i:=by
       have:dF g j=f i:=by
        rw[G.o,J3 f j (Ea _) (by omega)]
        congr 1
        omega
       exact this
      have ey:g[c]! =f c:=by
       have:dF g c=f c:=by rw[G.o,zcA f c (Or.inl (by omega)) X (Mz i)]
       exact this
      rw[ex]at B C;rw[ey]at D E;obtain⟨x,hx⟩:∃x,x=f i:=⟨_,rfl⟩;obtain⟨y,hy⟩:∃y,y=f c:=⟨_,rfl⟩;have u:Hid (x=f i/\y=f c):=⟨hx,hy⟩;rw[<-hx]at B C;rw[<-hy]at D E;have g0:=fun Y s=>cell_grown (a:=⟨blk,j*2,none⟩) I B Y s;have g1:=fun Y s=>cell_grown (a:=⟨blk,j*2+1,none⟩) I C Y s;have g2:=fun Y s=>cell_grown (a:=⟨blk,c*2,none⟩) I D Y s;have g3:=fun Y s=>cell_grown (a:=⟨blk,c*2+1,none⟩) I E Y s;have ac:Hid (∀W,Calls prog 250 #[.agg #[.int .i64 x,.string (T x)],.agg #[.int .i64 y,.string (T y)]] W fun e w'=>e=.returned (.int .i64 (cfT T x y))/\∃q s,w'=grow (W.drewN q) s):=fun W=>ztt T x y W;have o:=zid T x y;obtain⟨r,hr⟩:∃r,r=cfT T x y:=⟨_,rfl⟩;rw[<-hr]at o ac;have e1:(j:Int)-1=(c:Int):=(by omega);have bj:IntKind.i64.wrap (c:Int)=(c:Int):=(by rw[E1];omega);have jz:(j:Int)<(z:Int):=(by omega);have bk:(c:Int)<(z:Int):=(by omega);have aa:(a:Int)<(j:Int):=(by omega);have ar:decide ((a:Int)<(j:Int))=true:=Eo aa;have M:=zc (fun Y s=>sortWorldK_grown_c (qU T) 2 w blk 0 m Y g K s);rw[<-t]at M;clear hr ex ey hx hy au t
      cases V:clT T x y with
      |true=>
       rw[V]at o;have a9:r<0:=Fh o;clear o;(go_wp2_with fail)
       go_quiet_grown (first|(go_at_call 250;refine Calls.grown_of (ac.o _)))
       have U:grow (wr.drewN nq) osq=sortWorldK (qU T) 2 w blk 0 (m+nq) g (K++osq):=M.o nq osq;dsimp only;clear g0 g1 g2 g3 B af C ag D ah E ai S I;generalize grow (wr.drewN nq) osq=W2 at U ⊢;have ad:HoldsK (qU T) 2 W2 blk 0 g:=(by rw[U];exact zt HH.o F (m+nq) g (K++osq) (h.o.trans HZ.o));obtain⟨B,af,C,ag⟩:=Zn ad (i:=j) (by have:=h.o;omega);obtain⟨D,ah,E,ai⟩:=Zn ad (i:=c) (by have:=h.o;omega)
       have ex:g[j]! =x:=by
        have:dF g j=x:=by
         rw[u.o.1,G.o,J3 f j (Ea _) (by omega)]
         congr 1
         omega
        exact this
       have ey:g[c]! =y:=by
        have:dF g c=y:=by rw[u.o.2,G.o,zcA f c (Or.inl (by have:=l.o;omega)) X (Mz i)]
        exact this
       have ae:=sortWorldK_swp_c (qU T) 2 w blk 0 (zcd T) (m+nq) g (K++osq) F j c (by have:=h.o;omega) (by have:=h.o;omega);rw[ex,ey,<-U,Ff,Ff]at ae;rw[ex]at B C;rw[ey]at D E;have a1:=zc ae;have be:c<j:=(by have:=l.o;omega)
       have ak:Hid (So.swp (qO j i (i+1) f) j c=qO c i (i+1) f):=by
        unfold Hid;rw[l.o];exact ze4 c i f (by have:=l.o;omega)
       clear U ad ex ey ae;(go_wp2_with fail)
       go_region
       all_goals (try go_wp2_with fail)
       all_goals go_roundw
       case rel=>
        refine⟨c,m+nq+1,Go.Sort.swp g j c,K++osq,rfl,by have:=l.o;omega,by omega,by rw[Nc];exact h.o,?_,fun k H L=>?_,a1.o⟩
        ·rw[zej g j c (by have:=h.o;omega) (by have:=h.o;omega),G.o]
         exact ak.o
        ·rcases N0 H with e|e
         ·rw[<-e,<-u.o.1,<-u.o.2]
          exact V
         ·exact aj.o k (by have:=l.o;omega) L
       case measure=>have:=l.o;simp[intOf];omega
      |false=>
       rw[V]at o;have a9:¬r<0:=Le o
       have HO:=zc (an.o (fun k H L=>by
        have a6:lx (clT T) (f c) (f i):=by
         rw[<-u.o.1,<-u.o.2];refine zgw V ?_;rw[u.o.1,u.o.2];exact az.o c (by have:=l.o;omega) (by have:=l.o;omega)
        exact R.o.le H (show k<=c by have:=l.o;omega) (by have:=l.o;omega) (Zq T) a6))
       clear o;(go_wp2_with fail)
       go_quiet_grown (first|(go_at_call 250;refine Calls.grown_of (ac.o _)))
       have a2:Hid (grow (wr.drewN nq) osq=sortWorldK (qU T) 2 w blk 0 (m+nq) g (K++osq)):=M.o nq osq;dsimp only;clear g0 g1 g2 g3 B af C ag D ah E ai S I;(go_wp2_with fail)
       go_roundw
       case rel=>exact⟨i+1,m+nq,g,K++osq,by go_num,by omega,by omega,h.o,HO.o.1,HO.o.2,a2.o⟩
       case measure=>simp[intOf];omega
     ·have ar:decide ((a:Int)<(j:Int))=false:=Ed (by omega)
      have aa:¬(a:Int)<(j:Int):=by omega
      have HO:=zc (an.o (fun k H L=>absurd L (by omega)))
      have ax:Hid (wr.drew=sortWorldK (qU T) 2 w blk 0 (m+1) g K):=by
       unfold Hid;rw[t];rfl
      clear t;(go_wp2_with fail)
      go_region
      all_goals (try go_wp2_with fail)
      all_goals go_roundw
      case rel=>exact⟨i+1,m+1,g,K,by go_num,by omega,by omega,h.o,HO.o.1,HO.o.2,ax.o⟩
      case measure=>simp[intOf];omega
   ·obtain rfl:i=b:=by omega
    (go_wp2_with fail);refine Ku (v:=.tuple #[]) (by simp[results,results282,go_sem]) rfl ⟨rfl,n,Z,os,HW.o,al.o,O.o,R.o⟩
end So
namespace So
open Go.RowKit Go.Sort Go.Proofs
theorem zsX(T:Nat->zY)(blk ax a m:Nat)(d:Array Nat)(w:zW)(hH:HoldsK (qU T) 2 w blk 0 d)(o:blk<w.heap.size)(a7:a+1<m)(hb:m+1<=d.size)(a3:d.size<=1048576)(ak:Ris (clT T) a m (dF d))(R:Sep a m (m+1) (dF d)): Calls prog 283 #[.slice (some ⟨blk,0,none⟩) d.size ax,.int .i64 a,.int .i64 m,.int .i64 (m+1:Nat),.func (.func 250) #[] #[]] w fun e w'=>e=.returned (.tuple #[])/\∃n d' os,w'=sortWorldK (qU T) 2 w blk 0 n d' os/\d'.size=d.size/\qt a (m+1) (dF d) (dF d')/\Ris (clT T) a (m+1) (dF d'):=by have mixed:=mixed;have au:=zc (qH hH);have HH:=zc hH;have F:=zc ak;have X:=zc R;clear hH ak R;obtain⟨z,hz⟩:∃z,z=d.size:=⟨_,rfl⟩;have HZ:=zc hz;rw[<-hz]at hb a3 ⊢;clear hz;obtain⟨f,hf⟩:∃f,f=dF d:=⟨_,rfl⟩;have U:=zc hf;rw[<-hf]at F X ⊢;clear hf;obtain⟨b,hm⟩:∃b,b=m+1:=⟨_,rfl⟩;have ay:(b:Int)-(m:Int)=1:=by{omega};have a0:((m:Int)-(a:Int)==1)=false:=Es.2 (by omega);rw[<-hm]at hb X ⊢;have HM:=zc hm;have a1:m<b:=by{omega};clear hm;go_enter func283,ntmps283;(go_wp2_with fail);clear ay a0;(go_loopw [14,15] (fun u v wr=>∃(i j n:Nat) (os:Array Obj),u=.int .i64 i/\v=.int .i64 j/\a<=i/\i<=j/\j<=m/\(a<i->lx (clT T) (f (i-1)) (f m))/\(j<m->lx (clT T) (f m) (f j))/\wr=sortWorldK (qU T) 2 w blk 0 n d os) (fun u v _=>(intOf v).toNat-(intOf u).toNat));(case atStart=>exact⟨a,m,0,#[],rfl,rfl,Ea _,by omega,Ea _,fun h=>absurd h (by omega),fun h=>absurd h (by omega),au.o⟩);(case round=>obtain⟨i,j,n,os,rfl,rfl,I,bc,M,ah,af,g⟩:=hrel;have ad:=zc ah;have ac:=zc af;have HW:=zc g;clear ah af;by_cases bh:i<j;{obtain⟨h,hh⟩:∃h,h=(i+j)/2:=⟨_,rfl⟩;have e1:((i:Int)+(j:Int))/2=(h:Int):=by{omega};have a8:h<z:=by{omega};have bb:i<=h:=by{omega};have a9:h<j:=by{omega};have aa:HoldsK (qU T) 2 wr blk 0 d:=by{rw[g];exact zt HH.o o n d os rfl};have t:blk<wr.heap.size:=by{rw[g];exact Ey o (zX n d os)};obtain⟨B,al,C,am⟩:=Zn aa (i:=m) (by have:=HZ.o;omega);obtain⟨D,an,E,ao⟩:=Zn aa (i:=h) (by have:=HZ.o;omega);obtain⟨x,hx⟩:∃x,x=d[m]!:=⟨_,rfl⟩;obtain⟨y,hy⟩:∃y,y=d[h]!:=⟨_,rfl⟩;have H:Hid (x=f m/\y=f h):=⟨by rw[hx,U.o];rfl,by rw[hy,U.o];rfl⟩;rw[<-hx]at B C;rw[<-hy]at D E;have g0:=fun P l=>cell_grown (a:=⟨blk,m*2,none⟩) t B P l;have g1:=fun P l=>cell_grown (a:=⟨blk,m*2+1,none⟩) t C P l;have g2:=fun P l=>cell_grown (a:=⟨blk,h*2,none⟩) t D P l;have g3:=fun P l=>cell_grown (a:=⟨blk,h*2+1,none⟩) t E P l;have S:Hid (∀W,Calls prog 250 #[.agg #[.int .i64 x,.string (T x)],.agg #[.int .i64 y,.string (T y)]] W fun e w'=>e=.returned (.int .i64 (cfT T x y))/\∃q l,w'=grow (W.drewN q) l):=fun W=>ztt T x y W;have c:=zid T x y;obtain⟨r,hr⟩:∃r,r=cfT T x y:=⟨_,rfl⟩;rw[<-hr]at c S;have bl:(h:Int)<(z:Int):=by{omega};have bm:(m:Int)<(z:Int):=by{omega};have s:=zc (fun P l=>sortWorldK_grown_c (qU T) 2 w blk 0 n P d os l);rw[<-g]at s;clear hr hx hy g hh B al C am D an E ao aa t;cases K:clT T x y with|false=>{rw[K]at c;have az:¬r<0:=Le c;have ai:decide (r<0)=false:=c;have V:Hid (lx (clT T) (f h) (f m)):=by{unfold Hid;have aj:=X.o h m (by omega) (by omega) (Ea _) a1;rw[<-H.o.1,<-H.o.2]at aj ⊢;exact zgw K aj};clear c;(go_wp2_with fail);(go_quiet_grown (first|(go_at_call 250;refine Calls.grown_of (S.o _))));have Y:Hid (grow (wr.drewN nq) osq=sortWorldK (qU T) 2 w blk 0 (n+nq) d (os++osq)):=s.o nq osq;dsimp only;clear g0 g1 g2 g3;(go_wp2_with fail);(go_roundw);(case rel=>exact⟨h+1,j,n+nq,os++osq,by go_num,rfl,by omega,by omega,M,fun _=>V.o,ac.o,Y.o⟩);(case measure=>simp[intOf];omega)}|true=>{rw[K]at c;have az:r<0:=Fh c;have ai:decide (r<0)=true:=c;have V:Hid (lx (clT T) (f m) (f h)):=by{unfold Hid;rw[<-H.o.1,<-H.o.2];exact zcq K};clear c;(go_wp2_with fail);(go_quiet_grown (first|(go_at_call 250;refine Calls.grown_of (S.o _))));have Y:Hid (grow (wr.drewN nq) osq=sortWorldK (qU T) 2 w blk 0 (n+nq) d (os++osq)):=s.o nq osq;dsimp only;clear g0 g1 g2 g3;(go_wp2_with fail);(go_roundw);(case rel=>exact⟨i,h,n+nq,os++osq,rfl,rfl,I,by omega,by omega,ad.o,fun _=>V.o,Y.o⟩);(case measure=>simp[intOf];omega)}};{obtain rfl:i=j:=by{omega};have ar:Hid (Ris (clT T) a b (qO i m b f)):=by{unfold Hid;have a2:=HM.o;rw[a2];exact zfa (Zq T) F.o I M (fun k h1 h2=>F.o.le h1 (show k<=i-1 by omega) (by omega) (Zq T) (ad.o (by omega))) (fun k h1 h2=>F.o.ge I h1 h2 (Zq T) (ac.o (by omega)))};have aq:Hid (qt a b f (qO i m b f)):=(zaD f M (by omega)).mono I (by omega) (Ea _);clear g;(go_wp2_with fail);(go_loopw [17] (fun u a4=>∃(k n:Nat) (p:Array Nat) (os:Array Obj),u=.int .i64 k/\i<=k/\k<=m/\p.size=z/\dF p=qO k m b f/\a4=sortWorldK (qU T) 2 w blk 0 n p os) (fun u _=>(intOf u).toNat));(case atStart=>exact⟨m,n,d,os,rfl,M,Ea _,HZ.o.symm,by rw[HM.o,zdj];exact U.o.symm,HW.o⟩);(case round=>obtain⟨k,n2,p,Q,rfl,be,bf,O,L,g⟩:=hrel;have G:=zc O;have ap:=zc L;by_cases a5:i<k;{obtain⟨q,hq⟩:∃q,k=q+1:=⟨k-1,by omega⟩;have a6:(k:Int)-1=(q:Int):=by{omega};have Z:HoldsK (qU T) 2 wr blk 0 p:=by{rw[g];exact zt HH.o o n2 p Q (O.trans HZ.o)};obtain⟨B,al,C,am⟩:=Zn Z (i:=k) (by omega);obtain⟨D,an,E,ao⟩:=Zn Z (i:=q) (by omega);obtain⟨x,hx⟩:∃x,x=p[k]!:=⟨_,rfl⟩;obtain⟨y,hy⟩:∃y,y=p[q]!:=⟨_,rfl⟩;have ab:=sortWorldK_swp_c (qU T) 2 w blk 0 (zcd T) n2 p Q o k q (by omega) (by omega);rw[<-hx,<-hy,<-g,Ff,Ff]at ab;rw[<-hx]at B C;rw[<-hy]at D E;have av:=zc ab;have bg:(k:Int)<(z:Int):=by{omega};have bk:(q:Int)<(z:Int):=by{omega};have bj:IntKind.i64.wrap (q:Int)=(q:Int):=by{rw[E1];omega};have ag:(i:Int)<(k:Int):=by{omega};have bi:q<k:=by{omega};have HQ:=zc hq;have ae:Hid (So.swp (qO k m b f) k q=qO q m b f):=by{unfold Hid;rw[HM.o,hq];exact ze4 q m f (by omega)};clear g Z hx hy ab O L hq;(go_wp2_with fail);(go_region);(all_goals (try go_wp2_with fail));(all_goals go_roundw);(case rel=>refine⟨q,n2+1,Go.Sort.swp p k q,Q,rfl,by have:=HQ.o;omega,by omega,by rw[Nc];exact G.o,?_,av.o⟩;rw[zej p k q (by have:=G.o;omega) (by have:=G.o;omega),ap.o,ae.o]);(case measure=>simp[intOf];omega)};{have ag:¬(i:Int)<(k:Int):=by{omega};have aw:=zc g;have HE:Hid (dF p=qO i m b f):=by{unfold Hid;rw[L,show k=i by omega]};clear g O L;(go_wp2_with fail);refine Ec (v:=.tuple #[]) (by simp[results,results283,go_sem]) rfl ⟨rfl,n2,p,⟨Q,aw.o⟩,G.o,by rw[HE.o];exact aq.o,by rw[HE.o];exact ar.o⟩})})
end So
namespace St
end St
namespace Qs
open Go
open Go.Sort (grow grow_empty)
def upS(P:Program)(C:zW->Prop)(w:zW)(K:Value->zW->Prop):Result Next->Prop
 |.ok (.value u) w'=>C w'/\K u w'
 |.ok .skip w'=>C w'/\K undef w'
 |.ok (.enter f args) w'=>w'=w/\Calls P f args w (fun e w''=>∃v,e=.returned v/\C w''/\K v w'')
 |_=>False
theorem ziK{P:Program}{C:zW->Prop}{w:zW}{K a:Value->zW->Prop}(h:∀v w',C w'->K v w'->a v w'):∀{r:Result Next},upS P C w K r->upS P C w a r
 |.ok (.value _) _,⟨e,k⟩=>⟨e,h _ _ e k⟩
 |.ok .skip _,⟨e,k⟩=>⟨e,h _ _ e k⟩
 |.ok (.enter _ _) _,⟨e,k⟩=>⟨e,k.mono fun _ _ ⟨v,c,b,d⟩=>⟨v,c,b,h _ _ b d⟩⟩
def sOp(P:Program)(ops:Array Oper)(C:zW->Prop)(i:Nat)(K:Act->zW->Prop)(a:Act)(w:zW):Prop :=
 match ops[i]? with
 |none=>K a w
 |some o=>if Region.wanted o (yielded ops a.tmps) then upS P C w (fun v w'=>K (a.put o.dst v) w') ((execOp a.eval o).run P w) else K (a.put o.dst undef) w
theorem zmV{P:Program}{d:Array Oper}{C:zW->Prop}{i:Nat}{a:Act}{w:zW}{K e:Act->zW->Prop}(f:C w)(h:∀a w',C w'->K a w'->e a w')(c:sOp P d C i K a w):sOp P d C i e a w:=by unfold sOp at *;split at c;{exact h _ _ f c};{split;{rename_i b;rw[Ei b]at c;exact ziK (C:=C) (fun v w' g k=>h _ w' g k) c};{rename_i b;rw[Eh b]at c;exact h _ _ f c}}
def wpS(P:Program)(md:Region.Mode)(ops:Array Oper)(C:zW->Prop)(Q:Act->zW->Prop):Nat->Array Bool->Act->zW->Prop
 |0,listed,a,w=>Region.ready md ops listed=[]/\Q a w
 |n+1,listed,a,w=>(Region.ready md ops listed=[]->Q a w)/\∀i∈Region.ready md ops listed,sOp P ops C i (wpS P md ops C Q n (listed.setIfInBounds i true)) a w
theorem zqQ{P:Program}{C:zW->Prop}{o:Oper}{a:Act}{w:zW}{b:Act->zW->Prop}{Q':Exit->Act->zW->Prop}(h:upS P C w (fun v w'=>b (a.put o.dst v) w') ((execOp a.eval o).run P w)):o.wp P a w b Q':=by unfold Oper.wp;generalize (execOp a.eval o).run P w=r at *;cases r with|ok n w'=>{cases n<;>simp only[upS]at h<;>simp only[Oper.upon];(case value u=>exact h.2);(case skip=>exact h.2);(case enter f args=>obtain⟨rfl,h⟩:=h;exact h.mono fun e g ⟨v,c,_,d⟩=>by subst c;exact d)}|halt x w'=>{simp only[upS]at h}
theorem zhp{P:Program}{c:Array Oper}{md:Region.Mode}{C:zW->Prop}{Q:Act->zW->Prop}{Q':Exit->Act->zW->Prop}(d:∀a w,Q a w->Q' .normal a w):∀(n:Nat) (listed:Array Bool) (a:Act) (w:zW),C w->wpS P md c C Q n listed a w->wpAny P md c Q' n listed a w
 |0,_,_,_,_,h=>⟨h.1,d _ _ h.2⟩
 |n+1,listed,a,w,hw,h=>⟨fun g=>d _ _ (h.1 g),fun i l=>by
  have b:=zmV hw (fun a' w' j k=>zhp d n _ a' w' j k) (h.2 i l);unfold sOp at b;unfold wpOp
  split
  ·rename_i e
   simp only[e]at b;exact b
  ·rename_i o e
   simp only[e]at b
   split
   ·rename_i f
    rw[Ei f]at b;exact .inl (zqQ b)
   ·rename_i f
    rw[Eh f]at b
    exact b⟩
def zbA(P:Program)(ops:Array Oper)(C:zW->Prop)(o:Oper)(v:Value)(a:Act):Prop :=
 (Region.wanted o (yielded ops a.tmps)=true/\∀w,C w->((execOp a.eval o).run P w=.ok (.value v) w∨((execOp a.eval o).run P w=.ok .skip w/\v=undef)))∨(Region.wanted o (yielded ops a.tmps)=false/\v=undef)
theorem zbA.of_same{P:Program}{b:Array Oper}{C:zW->Prop}{o:Oper}{v:Value}{a a':Act}(e:zbA P b C o v a)(c:execOp a'.eval o=execOp a.eval o)(d:Region.wanted o (yielded b a'.tmps)=Region.wanted o (yielded b a.tmps)):zbA P b C o v a':=by unfold zbA at *;rw[c,d];exact e
theorem zbA.sOp{P:Program}{b:Array Oper}{C:zW->Prop}{i:Nat}{o:Oper}{v:Value}{a:Act}{w:zW}(g:b[i]?=some o)(k:zbA P b C o v a)(d:C w){K:Act->zW->Prop}(h:K (a.put o.dst v) w):sOp P b C i K a w:=by unfold Qs.sOp;simp only[g];rcases k with⟨e,j⟩|⟨e,rfl⟩;{rw[Ei e];rcases j w d with c|⟨c,f⟩;{rw[c];exact⟨d,h⟩};{subst f;rw[c];exact⟨d,h⟩}};{rw[Eh (by rw[e];decide)];exact h}
theorem zwM{P:Program}{c:Array Oper}{C:zW->Prop}{j:Nat}{oi d:Oper}{v:Value}(p:c[j]?=some d)(f:oi.apart c d=true)(g:∀e b,oi.op≠.select e b)(i:∀e b,d.op≠.select e b){K:Act->zW->Prop}{a:Act}{w:zW}(q:zbA P c C oi v a)(h:sOp P c C j K (a.put oi.dst v) w):sOp P c C j (fun a' w'=>zbA P c C oi v a'/\K (a'.put oi.dst v) w') a w:=by obtain⟨m,n,o⟩:=Oper.apart_spec f;have keep:∀u,zbA P c C oi v (a.put d.dst u):=fun u=>q.of_same (execOp_put oi g a d.dst u o) (wanted_put oi a d.dst u o);unfold sOp at *;simp only[p]at *;rw[wanted_put d a oi.dst v m,execOp_put d i a oi.dst v m]at h;split;{rename_i l;rw[Ei l]at h;exact ziK (fun u w' _ k=>⟨keep u,by rw[<-Act.put_comm a v u n];exact k⟩) h};{rename_i l;rw[Eh l]at h;exact⟨keep _,by rw[<-Act.put_comm a v undef n];exact h⟩}
theorem zrM{P:Program}{f:Array Oper}{md:Region.Mode}{C:zW->Prop}{Q:Act->zW->Prop}{i:Nat}{oi:Oper}{v:Value}(G:f[i]?=some oi)(m:∀(j:Nat) (o:Oper) t b,f[j]?=some o->o.op≠.select t b): ∀(n:Nat) (c:Array Bool) (a:Act) (w:zW),C w -> (∀j s,f[j]?=some s->j≠i->c.getD j true=false->(∀e∈s.after,Region.binds md e=true->e.on≠i)->oi.apart f s=true) -> i∈Region.ready md f c->zbA P f C oi v a -> wpS P md f C Q n (c.setIfInBounds i true) (a.put oi.dst v) w->wpS P md f C Q (n+1) c a w:=by intro n;induction n with|zero=>{intro c a w D _ r E H;refine⟨fun h=>(by rw[h]at r;cases r),fun j B=>?_⟩;by_cases d:j=i;{subst d;exact E.sOp G D H};{have:=ready_mono B d;rw[H.1]at this;cases this}}|succ n X=>{intro c a w D g r E H;refine⟨fun h=>(by rw[h]at r;cases r),fun j B=>?_⟩;by_cases d:j=i;{subst d;exact E.sOp G D H};{have p:=H.2 j (ready_mono B d);obtain⟨l,s,q,u⟩:=mem_ready.1 B;have y:∀e∈s.after,Region.binds md e=true->e.on≠i:=fun e V S F=>by{have p:=u e V S;have M:=(mem_ready.1 r).1;rw[F]at p;rcases Ky i c.size with L|L;{simp[L]at M p;rw[M]at p;cases p};{simp[Kz L]at p}};have R:=zwM q (g j s q d l y) (fun t b=>m i oi t b G) (fun t b=>m j s t b q) E p;refine zmV D (fun a' w' U O=>X (c.setIfInBounds j true) a' w' U (fun k Y W I z K=>?_) (ready_mono r (Ne.symm d)) O.1 ?_) R;{refine g k Y W I ?_ K;by_cases x:j=k;{subst x;exact l};{rw[getD_set_ne true x]at z;exact z}};{rw[Array.setIfInBounds_comm _ _ d];exact O.2}}}
def readsB(o:Oper):Bool :=
 match o.op with
 |.move _|.assign _|.pick _ _ _|.load _ _|.build _ _|.binOp _ _ _ _ _|.unOp _ _ _|.fieldAddr _ _ _|.field _ _ _|.indexAddr _ _ _|.slice _ _ _ _ _|.extract _ _=>true
 |.call c=>match c.callee with
  |.builtin .len=>true
  |_=>false
 |_=>false
theorem zrv{P:Program}{α:Type}(s:Sem α)(g:α->Value)(w:zW)(f:FuncId)(args:Array Value)(w':zW):(Sem.bind s fun x=>Sem.pure (Next.value (g x))).run P w≠.ok (.enter f args) w':=by rw[Sem.run_bind'];cases s.run P w with|ok x a=>{simp[Sem.run]}|halt x a=>{simp}
theorem ztB{P:Program}{o:Oper}(h:readsB o=true)(ρ:Operand->Value)(w:zW)(f:FuncId)(args:Array Value)(w':zW):(execOp ρ o).run P w≠.ok (.enter f args) w':=by unfold readsB at h;unfold execOp;cases a:o.op;(all_goals simp only[a]at h ⊢);(all_goals first|exact zrv _ (fun x=>x) w f args w'|exact zrv (asBool _) (fun b=>if b then _ else _) w f args w'|(simp[Sem.run,Pure.pure];done)|exact absurd h Kc|skip);rename_i c;split at h;{rename_i d;unfold resolve;simp only[d];exact zrv _ (fun x=>x) w f args w'};{cases h}
def okFrom(md:Region.Mode)(ops:Array Oper):List Nat->Array Bool->Bool
 |[],listed=>(Region.ready md ops listed).isEmpty
 |i :: rest,listed=>(match ops[i]? with
   |some o=>if readsB o then (Region.ready md ops listed).contains i && Region.free md ops listed i else Region.ready md ops listed == [i]
   |none=>false) && okFrom md ops rest (listed.setIfInBounds i true)
def walkI(P:Program)(ops:Array Oper)(C:zW->Prop)(Q:Act->zW->Prop):List Nat->Act->zW->Prop
 |[],a,w=>Q a w
 |i :: rest,a,w=>match ops[i]? with
  |none=>False
  |some o=>if readsB o then wpQuiet P ops C (fun a'=>walkI P ops C Q rest a' w) [o] a else if Region.wanted o (yielded ops a.tmps) then upS P C w (fun v w'=>walkI P ops C Q rest (a.put o.dst v) w') ((execOp a.eval o).run P w) else walkI P ops C Q rest (a.put o.dst undef) w
theorem zu8{P:Program}{c:Array Oper}{C:zW->Prop}{o:Oper}{a:Act}{Q:Act->Prop}(j:readsB o=true)(h:wpQuiet P c C Q [o] a):∃v,zbA P c C o v a/\Q (a.put o.dst v):=by unfold wpQuiet at h;split at h;{rename_i e;obtain⟨v,g,i⟩:=h;refine⟨v,.inl ⟨e,fun w k=>?_⟩,i⟩;have b:=g w k;unfold Oper.quietAt at b;have d:=fun f args w'=>ztB (P:=P) j a.eval w f args w';generalize (execOp a.eval o).run P w=r at *;cases r with|ok n w'=>{cases n<;>simp only[Oper.quietUpon]at b;(case value u=>obtain⟨rfl,rfl⟩:=b;exact .inl rfl);(case skip=>obtain⟨rfl,rfl⟩:=b;exact .inr ⟨rfl,rfl⟩);(case enter f args=>exact absurd rfl (d f args w'))}|halt x w'=>{simp only[Oper.quietUpon]at b}};{rename_i e;exact⟨undef,.inr ⟨by simpa using e,rfl⟩,h⟩}
theorem ze9{P:Program}{b:Array Oper}{md:Region.Mode}{C:zW->Prop}{Q:Act->zW->Prop}(e:Region.noSelect b=true):∀(order:List Nat) (listed:Array Bool) (a:Act) (w:zW),C w->okFrom md b order listed=true->walkI P b C Q order a w->wpS P md b C Q order.length listed a w
 |[],_,_,_,_,hB,h=>⟨by simpa [okFrom] using hB,h⟩
 |i :: rest,listed,a,w,hw,hB,h=>by
  simp only[okFrom,Fp]at hB;obtain⟨c,f⟩:=hB;unfold walkI at h
  cases d:b[i]? with
  |none=>simp only[d]at h
  |some o=>
   simp only[d]at h c;by_cases g:readsB o=true
   ·rw[Ei g]at h c
    simp only[Fp]at c;obtain⟨v,s,r⟩:=zu8 g h;exact zrM d (Region.noSelect_spec e) rest.length listed a w hw (Region.free_spec d c.2) (by simpa using c.1) s (ze9 e rest _ _ w hw f r)
   ·rw[Eh g]at h c
    have l:Region.ready md b listed=[i]:=by simpa using c
    refine⟨fun p=>(by rw[p]at l;cases l),fun j n=>?_⟩;rw[l]at n;obtain rfl:=Ej.1 n;unfold sOp;simp only[d]
    split
    ·rename_i m
     rw[Ei m]at h;exact ziK (fun v w' q k=>ze9 e rest _ _ w' q f k) h
    ·rename_i m
     rw[Eh m]at h;exact ze9 e rest _ _ w hw f h
theorem zbo{P:Program}{k:Nat}{Q:Exit->Act->zW->Prop}{a:Act}{w:zW}{l:List Oper}(b:List Nat)(j:P.follows .mixedOrders=true)(e:(Region.noSelect l.toArray && okFrom .any l.toArray b (Array.replicate l.length false) && b.length==l.length)=true)(h:∀w1,(∃p:Regrown,w1=grow (redrawn w p.d) p.os)->walkI P l.toArray (fun w'=>∃p:Regrown,w'=grow (redrawn w p.d) p.os) (fun a' w'=>Q .normal a' w') b a w1):(Code.region k l.toArray true).wp P Q a w:=by simp only[Fp,Lb]at e;obtain⟨⟨f,g⟩,i⟩:=e;have c:(fun w'=>∃p:Regrown,w'=grow (redrawn w p.d) p.os) { w with drawn:=w.drawn+1 }:=⟨⟨w.drawn+1,#[]⟩,by rw[grow_empty];rfl⟩;refine wp_region_any j (zhp (C:=fun w'=>∃p:Regrown,w'=grow (redrawn w p.d) p.os) (Q:=fun a' w'=>Q .normal a' w') (fun _ _ h=>h) _ _ _ _ c ?_);have:=ze9 (P:=P) (md:=.any) (C:=fun w'=>∃p:Regrown,w'=grow (redrawn w p.d) p.os) (Q:=fun a' w'=>Q .normal a' w') f b (Array.replicate l.length false) a _ c g (h _ c);rw[i]at this;simpa using this
theorem zlL{P:Program}{b:Nat}{d:Bool}{Q:Exit->Act->zW->Prop}{a:Act}{w:zW}{l c:List Oper}(h:l=c)(k:(Code.region b c.toArray d).wp P Q a w):(Code.region b l.toArray d).wp P Q a w:=by rw[h];exact k
theorem step_end{P:Program}{b:Array Oper}{C:zW->Prop}{Q:Act->zW->Prop}{a:Act}{w:zW}(h:Q a w):walkI P b C Q [] a w:=h
theorem za0{P:Program}{C:zW->Prop}{l:List Oper}{Q:Act->zW->Prop}{i:Nat}{rest:List Nat}{a:Act}{w:zW}(o:Oper)(c:l[i]?=some o)(b:readsB o=true)(h:wpQuiet P l.toArray C (fun a'=>walkI P l.toArray C Q rest a' w) [o] a):walkI P l.toArray C Q (i :: rest) a w:=by unfold walkI;rw[M8];simp only[c];rw[Ei b];exact h
theorem zd9{P:Program}{C:zW->Prop}{l:List Oper}{Q:Act->zW->Prop}{i:Nat}{rest:List Nat}{a:Act}{w:zW}(c:C w)(o:Oper)(q:l[i]?=some o)(m:readsB o=false)(h:wpQuiet P l.toArray C (fun a'=>∀w',C w'->walkI P l.toArray C Q rest a' w') [o] a):walkI P l.toArray C Q (i :: rest) a w:=by unfold walkI;rw[M8];simp only[q];rw[Eh (by rw[m];decide)];unfold wpQuiet at h;split;{rename_i g;rw[Ei g]at h;obtain⟨v,k,d⟩:=h;have b:=k w c;unfold Oper.quietAt at b;generalize (execOp a.eval o).run P w=r at *;cases r with|ok n w'=>{cases n<;>simp only[Oper.quietUpon]at b;(case value u=>obtain⟨rfl,rfl⟩:=b;exact⟨c,d _ c⟩);(case skip=>obtain⟨rfl,rfl⟩:=b;exact⟨c,d _ c⟩);(case enter f args=>obtain⟨rfl,b⟩:=b;exact⟨rfl,b.mono fun e s ⟨p,j⟩=>⟨v,p,j,d _ j⟩⟩)}|halt x w'=>{simp only[Oper.quietUpon]at b}};{rename_i g;rw[Eh g]at h;exact h _ c}
theorem zdh{P:Program}{b:Array Oper}{C:zW->Prop}{Q:Act->zW->Prop}{rest:List Nat}{t d:Array Value}{c a:List Deferred}{w:zW}(h:t=d)(e:c=a)(k:walkI P b C Q rest { tmps:=d,defers:=a } w):walkI P b C Q rest { tmps:=t,defers:=c } w:=by rw[h,e];exact k
theorem zdd{w w1:zW}(h:∃p:Regrown,w1=grow (redrawn w p.d) p.os):zU w w1:=by obtain⟨p,rfl⟩:=h;exact below_regrown _ _ _
theorem zr9{P:Program}{f:FuncId}{a:Func}(g:P.funcs[f]?=some a)(h:(a.name == "runtime.NumGoroutine")=false)(b:a.body.isNone=false)(args:Array Value)(w:zW):(callFunc f args).run P w=.ok (.enter f args) w:=by have c:¬a.name= "runtime.NumGoroutine":=by{simpa using h};have d:¬a.body=none:=fun e=>by{rw[e]at b;cases b};simp[callFunc,go_sem,g,c,d]
theorem zbw{P:Program}{C:zW->Prop}{l:List Oper}{Q:Act->zW->Prop}{i:Nat}{rest:List Nat}{a:Act}{w:zW}{o:Oper}{f:FuncId}{xs:List Operand}{c:Array TypeId}{g:Func}{d:Nat}(args:List Value)(q:l[i]?=some o)(b:o.op=.call { callee:=.value (.func f),args:=xs.toArray,argTypes:=c })(hd:o.dst=some d)(p:P.funcs[f]?=some g)(r:(g.name == "runtime.NumGoroutine")=false)(n:g.body.isNone=false)(t:Region.wanted o (yielded l.toArray a.tmps)=true)(u:xs.map a.eval=args)(h:Calls P f args.toArray w fun e w'=>∃v,e=.returned v/\C w'/\walkI P l.toArray C Q rest { a with tmps:=a.tmps.setIfInBounds d v } w'):walkI P l.toArray C Q (i :: rest) a w:=by unfold walkI;rw[M8];simp only[q];have s:readsB o=false:=by{unfold readsB;simp only[b]};rw[Eh (by rw[s];decide),Ei t];have e:(execOp a.eval o).run P w=.ok (.enter f args.toArray) w:=by{unfold execOp;simp only[b];show (callFunc f (#[]++xs.toArray.map a.eval++#[])).run P w=_;rw[zr9 p r n,Od,u];simp};rw[e];refine⟨rfl,h.mono fun _ _ ⟨v,j,k,m⟩=>⟨v,j,k,?_⟩⟩;rw[hd];exact m
end Qs
end Go.Proofs.YtoojegpaofdbfaaGreatDoor
