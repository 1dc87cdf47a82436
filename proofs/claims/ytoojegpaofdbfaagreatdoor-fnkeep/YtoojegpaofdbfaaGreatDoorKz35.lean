import Derived.Test.YtoojegpaofdbfaaGreatDoorKz3
import Derived.Test.YtoojegpaofdbfaaGreatDoorKz24
import Derived.Test.YtoojegpaofdbfaaGreatDoorKz31
import Derived.Test.YtoojegpaofdbfaaGreatDoorKz34
import Derived.Shelf.Strconv.Itoa0
set_option maxRecDepth 100000
set_option maxHeartbeats 8000000
set_option linter.unusedSimpArgs false
namespace Go.Proofs.YtoojegpaofdbfaaGreatDoor
open Go.RowKit
open Go.Proofs.Tryz
namespace Sh
def JU(w:zW):Prop:=IsV w 2 .u32 8 zeu/\IsV w 3 .u32 64 zxL
theorem JU.below{w w':zW}{B:Nat}(h:JU w)(b:Below B w w')(a:3 + 1<=B):JU w':=⟨h.1.below b (by omega),h.2.below b (by omega)⟩
theorem JU.two{w:zW}(h:JU w):3 + 1<=w.heap.size:=h.2.lt
theorem zzB:(#[.int .u32 0,.int .u32 0,.int .u32 0,.int .u32 0,.int .u32 0,.int .u32 0,.int .u32 0,.int .u32 0]:Array Value)=qN .u32 8 (fun _=>0):=by rfl
theorem zja(t:zY)(w:zW)(ht:t.size<=1048576)(r:JU w): Calls prog 164 #[.string t] w (zB w (.string (sha t))):=by have U:=zE r;have HF:=zE r.1;have HK:=zE r.2;have h2:=r.two;clear r;go_enter func164,ntmps164;(go_wp2_with (first|((with_reducible refine zgn HF.o underlying237 Tryz.size237 ?_ ?_);(· rfl))|((with_reducible refine jK (IsB.of_list w 237 .u32 8 (fun _=>0) _ zzB) Tryz.size237 zeu ?_ ?_ ?_);(· rfl);(· rfl);intro w2 s p z K;have n:=zE s;have H:=zE (show w2.heap.size=w.heap.size+1 by rw[z];simp);have o:=zE (((Eb w.heap.size w).alloc (Ea _) _).trans (p _ (Ea _)));clear s p z K)));have Y:=H.o;obtain⟨ch,f⟩:∃c,c=chunks t.size:=⟨_,rfl⟩;have hr:=Jl t.size;have L:=za3 t.size;refine(zuO t w2 ht).mono ?_;rw[Y,<-f];rw[<-f]at hr L;rintro e w3 ⟨rfl,h,g⟩;have D:=zE f;have E:=zE h;have F:=zE (n.o.below g (by omega));have G:=zE (o.o.trans (g.mono (by omega)));have I:=zE (show w.heap.size+2<=w3.heap.size from h.lt);clear h g f Y n o;(go_wp2_with fail);(go_loopw [5] (fun i wr=>∃k:Nat,i=.int .i64 (64*(k:Int))/\k<=ch/\IsB wr w.heap.size 237 .u32 8 (shaS t k)/\IsB wr (w.heap.size+1) 5 .u8 (ch*64) (fun j=>(pad t j:Nat))/\zU w wr/\w.heap.size+2<=wr.heap.size) (fun i _=>ch*64-(intOf i).toNat));(case atStart=>exact⟨0,rfl,En _,F.o,E.o,G.o,I.o⟩);(case round=>obtain⟨k,rfl,hk,V,W,d,ad⟩:=hrel;have C:=zE V;have R:=zE W;have S:=zE d;have GK:=zE (HK.o.below d (by omega));clear V W d;by_cases ac:k<ch;{have e1:64*(k:Int)<(ch:Int)*64:=by{omega};have e2:(64*(k:Int)).toNat=64*k:=by{omega};have e3:(64*(k:Int)+64).toNat=64*k+64:=by{omega};have e4:64*k+64-64*k=64:=by{omega};have e5:IntKind.i64.wrap (64*(k:Int)+64)=64*(k:Int)+64:=by{simp[IntKind.wrap,IntKind.bits,IntKind.signed];omega};have e6:64*(k:Int)+64<=(ch:Int)*64:=by{omega};have e7:0<=64*(k:Int)+64:=by{omega};have e8:0<=64*(k:Int):=by{omega};have e9:64*(k:Int)<=64*(k:Int)+64:=by{omega};have aa:¬ch*64=64*k:=by{omega};have HC:Hid (∀j,j<64->wr.cell? ⟨w.heap.size+1,64*k+j,none⟩=some (.int .u8 (zvF t k j:Nat))):=fun j hj=>R.o.cell (by omega);(go_wp2_with fail);refine wp_region_still_tail 6 Tryz.checked.mixed (by kernel_rfl) ?_;simp only[Np,Lu,Nq,Nz];refine zeA (show IsB _ w.heap.size 237 .u32 8 (shaS t k) from C.o) underlying237 Tryz.size237 rfl ?_;(repeat still_step);refine Pq ?_;(go_wp2_with fail);refine(zeH (shaS t k) (w.heap.size+1) (64*k) (ch*64-64*k) (zvF t k) wr.drew (zqF t k) (show w.heap.size+1<wr.heap.size by omega) HC.o (by omega) (show IsV wr 3 _ _ _ from GK.o)).mono ?_;rintro e w4 ⟨rfl,a⟩;have b:zU wr w4:=⟨a.os,a.tape,a.output,a.size,a.block⟩;have J1:=zE (C.o.below b (by omega));have JP:=zE (R.o.below b (by omega));have JW:=zE (S.o.trans (b.mono (by omega)));have X:w.heap.size+2<=w4.heap.size:=by{have:=b.size;omega};clear a b;(go_wp2_with ((with_reducible refine jK J1.o Tryz.size237 (blk (zvF t k) (shaS t k)) ?_ ?_ ?_);(· rfl);(· rfl);intro w5 u q O y;have L1:=zE u;have LP:=zE (JP.o.of_heap (y _ (by omega)));have LW:=zE (JW.o.trans (q _ (Ea _)));have LZ:=zE (show w.heap.size+2<=w5.heap.size by omega);clear u q O y));(go_roundw);(case rel=>exact⟨k+1,by go_num,by omega,L1.o,LP.o,LW.o,LZ.o⟩);(case measure=>simp[intOf];omega)};{have HS:Hid (shaS t k=shaS t (chunks t.size)):=by{unfold Hid;rw[<-D.o];congr 1;omega};have e1:¬64*(k:Int)<(ch:Int)*64:=by{omega};(go_wp2_with fail);(go_loopw [24] (fun i Q=>∃m:Nat,i=.int .i64 m/\m<=32/\IsB Q wr.heap.size 240 .u8 32 (fun j=>(zgu (shaS t k) m j:Nat))/\IsB Q w.heap.size 237 .u32 8 (shaS t k)/\zU w Q) (fun i _=>32-(intOf i).toNat));(case atStart=>exact⟨0,rfl,by omega,IsB.of_list wr 240 .u8 32 _ _ (by rfl),C.o.alloc _,S.o.alloc (by omega) _⟩);(case round=>obtain⟨m,rfl,hm,l,B,Z⟩:=hrel;have O1:=zE l;have O2:=zE B;by_cases v:m<32;{obtain⟨x,M⟩:∃x,x=shaS t k (m/4):=⟨_,rfl⟩;have U:Hid (x/2 ^ (24-8*(m%4))%256=((ziU (shaS t k) m:Nat):Int)):=by{unfold Hid;rw[M];exact zjb _ _};have d1:((m:Int)/4).toNat=m/4:=by{omega};have d2:(24-8*((m:Int)%4)).toNat=24-8*(m%4):=by{omega};have d3:0<=24-8*((m:Int)%4):=by{omega};have d4:(m:Int)/4<8:=by{omega};have d5:0<=(m:Int)/4:=by{omega};have cs:wr.cell? ⟨w.heap.size,m/4,none⟩=some (.int .u32 x):=by{rw[B.cell (by omega),M]};have co:=l.cell v;have cf:=l.frozen m;clear l B M;(go_wp2_with fail);(go_roundw);(case rel=>rw[U.o];exact⟨m+1,by go_num,by omega,IsB.congr (O1.o.set m _) (fun j _=>zfB _ m j _ rfl),O2.o.set_other _ _ (by simp;omega),Z.setCell (by simp;omega) _⟩);(case measure=>simp[intOf];omega)};{obtain rfl:m=32:=by{omega};have ab:=l.str (P:=prog) (src:=22) (dst:=9) 32 32 (Ea _) (fun j _=>zxg _ _ _) underlying22 underlying5 underlying9;have HR:=zE (zig (shaS t k));clear l B;(go_wp2_with fail);go_ret;refine⟨Nu.zr ?_,Z⟩;rw[HR.o,HS.o];rfl})})
end Sh
namespace Pk
open Hf (up zm zaw qR qg dep lenOf zgm syms ziC zaW)
open Bi (zff zhR zim QG okS whole zh9 zJ zdD j8 right zH zf0)
open Go.Proofs.YtoojegpaofdbfaaGreatDoor.So (Za ZK)
open Fr (Qj Ql)
open Ze (QL zb5 zbm zbO zdz j7 jQ Zv)
open Se (qs)
theorem znQ(l:List Int):∀x∈QL l,0<=x/\x<=256:=by intro x a;cases b:j7 l 255 with|false=>{rw[zbm b]at a;exact absurd a (Fk)}|true=>{cases c:j7 (QL l) 256 with|true=>{exact Zv (jQ c).2 x a}|false=>{have d:=zbO b;rw[zdz c]at d;subst d;have:=zb5 [];rw[Fu (show (QL []).length=0 by simpa using this)]at a;exact absurd a (Fk)}}
noncomputable def jC(b:zY):List Int:=QL (Qj (Za b).data.toList)
theorem zde(b:zY):∀x∈jC b,0<=x/\x<=256:=znQ _
theorem QU(b:zY):(jC b).length<=400:=Fe (zb5 _) (Ql _)
noncomputable def qm(b:zY):List Nat:=lenOf (qM (jC b))
noncomputable def zco(b:zY):List Int:=[(b.size:Int),((ZK b:Nat):Int),((jC b).length:Int),((zJ (up (qm b)):Nat):Int)]
noncomputable def Zz(b:zY):zY:=zf0 (zff (up (qm b)) (jC b))
noncomputable def Ji(b:zY):List UInt8:=[1]++(jE (zco b)++(jE (rowT (qm b) 257)++(Zz b).data.toList))
noncomputable def Qe(b:zY):zY:=⟨(Ji b).toArray⟩
noncomputable def zcv(b:zY):zY:=⟨(0 :: b.data.toList).toArray⟩
noncomputable def ZT(b:zY):zY:=if (Qe b).size<b.size+1 then Qe b else zcv b
noncomputable def ZF(b:zY):zY:=if 48<b.size then ⟨#[]⟩ else qs (ZT b)
theorem Qr(b:zY):(zcv b).size=b.size+1:=by show (0 :: b.data.toList).toArray.size=_;simp
theorem qZ(b:zY):(qm b).length=257/\(∀i,(qm b).getD i 0<=12)/\(∀i,0<(qm b).getD i 0↔i∈syms (qM (jC b)) 257)/\(0<(syms (qM (jC b)) 257).length->whole (up (qm b))=true):=by have h:=zgm (qM (jC b)) (by rw[j6];decide);rw[j6]at h;exact h
theorem zrr(s:List Nat):∀(d:List Nat) (j:Nat),(∀k∈s,k<d.length)->d.getD j 0<=(qR d s).getD j 0:=by unfold qR;induction s with|nil=>{intro d j _;exact Ea _}|cons k s c=>{intro d j h;have a:=h k (E6 ..);rw[No];refine Fe ?_ (c (d.set k (d.getD k 0+1)) j fun x b=>by rw[Kn];exact h x (E0 _ b));rw[Hf.zbL _ _ _ _ a];split;{rename_i e;subst e;omega};{exact Ea _}}
theorem zvq(s:List Nat):∀(d:List Nat) (j:Nat),(∀k∈s,k<d.length)->j∈s->0<(qR d s).getD j 0:=by induction s with|nil=>{intro d j _ a;exact absurd a (Fk)}|cons k s g=>{intro d j h a;have c:=h k (E6 ..);have b:∀x∈s,x<(d.set k (d.getD k 0+1)).length:=fun x f=>by{rw[Kn];exact h x (E0 _ f)};have e:qR d (k :: s)=qR (d.set k (d.getD k 0+1)) s:=rfl;rw[e];rcases Ex.1 a with rfl|a;{have:=zrr s (d.set j (d.getD j 0+1)) j b;rw[Hf.zbL _ _ _ _ c,Ei rfl]at this;omega};{exact g _ j b a}}
theorem zwS(s:List Int)(h:∀x∈s,0<=x/\x<=256):∀k∈zaW s,k<(Hf.zeros 257).length:=by intro k a;obtain⟨x,b,rfl⟩:=Ft.1 a;have:=h x b;rw[Zp];omega
theorem zhI(b:zY):∀x∈jC b,okS (up (qm b)) x:=by intro x c;have h:=zde b x c;obtain⟨d,f,e,_⟩:=qZ b;refine⟨h.1,by rw[zm,d];omega,?_⟩;have g:0<(qm b).getD x.toNat 0:=(e x.toNat).2 (ziC.2 ⟨by omega,zvq (zaW (jC b)) _ _ (zwS _ (zde b)) (Ft.2 ⟨x,c,rfl⟩)⟩);have a:x.toNat<(qm b).length:=by{omega};have:=zaw (qm b) x.toNat a;rw[Eg,Ef (show x.toNat<(up (qm b)).length by rw[zm];exact a),this];show (0:Int)<(((qm b).getD x.toNat 0:Nat):Int);omega
theorem zqO{l:List Int}(h:0<zJ l):∃x∈l,0<x:=by refine Ly fun b=>?_;have:zJ l=0:=by{unfold zJ;rw[U8];intro x c;simp only[Fz];exact fun a=>b ⟨x,c,a⟩};omega
theorem zb7(b:zY)(h:0<zJ (up (qm b))):whole (up (qm b))=true:=by obtain⟨_,_,d,e⟩:=qZ b;obtain⟨x,f,c⟩:=zqO h;obtain⟨j,a,rfl⟩:=Fn f;rw[zm]at a;rw[zaw _ _ a]at c;exact e (List.length_pos_of_mem ((d j).1 (by omega)))
theorem zkX(b:zY)(h:zJ (up (qm b))=0):zff (up (qm b)) (jC b)=⟨#[]⟩:=by refine zim (.inr ?_);obtain⟨a,_⟩:=zdD _ h;unfold whole;rw[h,a];simp
theorem zbu(b:zY)(h:0<zJ (up (qm b))):zff (up (qm b)) (jC b)=⟨(QG (up (qm b)) (jC b)).toArray⟩:=zhR (by have:=QU b;omega) (zb7 b h) (zhI b)
theorem zbg(b:zY):(zff (up (qm b)) (jC b)).size<=4800:=by by_cases h:zJ (up (qm b))=0;{rw[zkX b h];decide};{rw[zbu b (by omega)];have a:=Bi.zlM (up (qm b)) (Bi.zeW (zb7 b (by omega))) (jC b);have c:=QU b;show (QG (up (qm b)) (jC b)).toArray.size<=4800;rw[Ke];omega}
theorem zk4(b:zY):Hf.znT (up (qM (jC b)))=up (qm b):=by
 have d:zaW (up (qM (jC b)))=qM (jC b):=by
  unfold zaW up;rw[Pz]
  conv=>rhs;rw[<-List.map_id (qM (jC b))]
  exact Mw fun x _=>by simp
 unfold Hf.znT;rw[Ei,d]
 ·rfl
 ·refine Bi.J5 (by rw[zm,j6];decide) fun x f=>?_
  obtain⟨y,g,rfl⟩:=Ft.1 f;obtain⟨j,c,rfl⟩:=Fn g;have a:=zfW (jC b) (zde b) (zaW (jC b)).length j;rw[Fb]at a;have h:=QU b
  have e:(qM (jC b)).getD j 0=(qM (jC b))[j]:=by rw[Eg,Ef c];rfl
  have i:(qM (jC b)).getD j 0<=(jC b).length:=a;omega
end Pk
namespace Up
open Pk
open Hf (up zm zaw dep lenOf)
open Bi (zff QG okS whole zJ zf0 QV zam zgr ze7 zmR zqW ziM)
open Go.Proofs.YtoojegpaofdbfaaGreatDoor.So (Za ZK unR zr0 QT JV)
open Fr (Qj QM zhB Je QW Jr zas)
open Ze (QL ZM zbO j7 zcO)
def syL(d:List Nat)(k:Nat):List Nat:=(List.range k).filter fun i=>decide (0<d.getD i 0)
theorem zrI{d:List Nat}{k:Nat}:∀i∈syL d k,i<k:=fun _ a=>Kr.1 (My.1 a).1
theorem zpM(d:List Nat)(k:Nat):rowT d k=(syL d k).flatMap fun(i:Nat)=>[(i:Int),((d.getD i 0:Nat):Int)]:=by induction k with|zero=>{rfl}|succ k a=>{rw[rowT];unfold syL at a ⊢;rw[Kx,On,Mc,<-a];by_cases h:0<d.getD k 0;{rw[Ei h,List.filter_cons_of_pos (by simpa using h)];simp};{rw[Eh h,List.filter_cons_of_neg (by simpa using h)];simp}}
theorem zmQ(d:List Nat):zJ (up d)=(syL d d.length).length:=by
 have e:d=(List.range d.length).map fun i=>d.getD i 0:=by
  refine Li (by simp) fun i a b=>?_;rw[Lj,Ny,Eg,Ef a];rfl
 unfold zJ up syL;rw[List.countP_map,List.countP_eq_length_filter]
 conv=>lhs;rw[e]
 rw[List.filter_map,Fc]
 congr 1
 refine List.filter_congr fun i _=>?_;simp
def zjf(d a:List Nat)(s:List Nat):List Nat:=s.foldl (fun a i=>a.set i (d.getD i 0)) a
theorem zlD(d:List Nat)(s:List Nat):∀a,(zjf d a s).length=a.length:=by induction s with|nil=>{intro a;rfl}|cons i s b=>{intro a;show (zjf d (a.set i (d.getD i 0)) s).length=_;rw[b,Kn]}
theorem zkn(d a s:List Nat)(k:Nat)(h:k<s.length):zjf d a (s.take (k+1))=(zjf d a (s.take k)).set s[k] (d.getD s[k] 0):=by unfold zjf;rw[Kw h,K5];rfl
theorem zva(d:List Nat)(s:List Nat):∀(a:List Nat),(∀i∈s,i<a.length)->∀j,(zjf d a s).getD j 0=if j∈s then d.getD j 0 else a.getD j 0:=by induction s with|nil=>{intro a _ j;rw[Eh (Fk)];rfl}|cons i s g=>{intro a h j;have c:=h i (E6 ..);show (zjf d (a.set i (d.getD i 0)) s).getD j 0=_;rw[g _ (fun x f=>by rw[Kn];exact h x (E0 _ f)),Hf.zbL _ _ _ _ c];by_cases b:j∈s;{rw[Ei b,Ei (E0 _ b)]};{rw[Eh b];by_cases e:j=i;{subst e;rw[Ei rfl,Ei (E6 ..)]};{rw[Eh (by simpa using e),Eh (by simp[b,e])]}}}
theorem zni(d:List Nat)(h:d.length=257):zjf d (Hf.zeros 257) (syL d 257)=d:=by have g:(zjf d (Hf.zeros 257) (syL d 257)).length=257:=by{rw[zlD,Zp]};refine Li (by rw[g,h]) fun i c e=>?_;have a:=zva d (syL d 257) (Hf.zeros 257) (fun i f=>by rw[Zp];exact zrI i f) i;rw[Eg,Ef c]at a;have hd:d.getD i 0=d[i]:=by{rw[Eg,Ef e];rfl};have k:(Hf.zeros 257).getD i 0=0:=by{unfold Hf.zeros;rw[Eg,Nn];split<;>rfl};rw[hd,k]at a;rw[show (zjf d (Hf.zeros 257) (syL d 257))[i]=_ from a];split;{rfl};{rename_i j;have:¬0<d.getD i 0:=fun b=>j (My.2 ⟨Kr.2 (by omega),by simpa using b⟩);omega}
def Good(s b:zY):Prop:=b.size<=48/\s=Qe b/\(Qe b).size<b.size+1
theorem zoO(l:List UInt8)(h:l.length<=400):j7 (Qj l) 255=true:=by have d:=QW l l.length (Ea _);rw[Fb]at d;rw[Je h];have b:∀k,k<=l.length->∀x∈(Fr.zeG (l.take k)).1,0<=x/\x<=255:=by{intro k;induction k with|zero=>{intro _ x a;cases a}|succ k g=>{intro f x a;have e:=(QW l k (by omega)).1;obtain⟨i,_,_⟩:=Jr e (c:=l[k].toNat) (Mf _);rw[zas f]at a;rcases Fl.1 a with a|a;{exact g (by omega) x a};{rw[Ej.1 a];omega}}};have:=b l.length (Ea _);rw[Fb]at this;unfold j7;rw[Eo (by omega),zcO this];rfl
theorem zpF{b:zY}(h:b.size<=48):(Za b).data.toList.length=b.size:=by rw[Fq];exact JV h
theorem zus{b:zY}(h:b.size<=48):ZM (jC b)=Qj (Za b).data.toList:=zbO (zoO _ (by rw[zpF h];omega))
theorem zf2{b:zY}(h:b.size<=48):(⟨(QM (ZM (jC b))).toArray⟩:zY)=Za b:=by rw[zus h,zhB _ (by rw[zpF h];omega)]
theorem zgR{b:zY}(h:b.size<=48):unR ⟨(QM (ZM (jC b))).toArray⟩ ((ZK b:Nat):Int)=QT b 0 0:=by rw[zf2 h];exact zr0 h
theorem zvb{b:zY}(h:b.size<=48)(i:0<b.size):0<zJ (up (qm b)):=by cases g:jC b with|nil=>{exfalso;have a:=zf2 h;rw[g]at a;have c:=JV h;have e:(QM (ZM []))=[]:=by{have:ZM []=[]:=by{decide};rw[this];decide};rw[e]at a;rw[<-a]at c;have d:0=b.size:=c;omega}|cons x l=>{obtain⟨a,c,d⟩:=zhI b x (by rw[g];exact E6 ..);unfold zJ;rw[List.countP_pos_iff];have f:x.toNat<(up (qm b)).length:=by{omega};rw[Eg,Ef f]at d;exact⟨_,Er f,by simpa using d⟩}
theorem zuX{s b:zY}(h:Good s b):0<b.size:=by have a:=h.2.2;have c:1<=(Qe b).size:=by{show 1<=(Ji b).toArray.size;rw[Ke];unfold Ji;simp};omega
theorem zfN{s b:zY}(h:Good s b):zgr (up (qm b)) (zam (Zz b) (8*((Zz b).size:Int))) ((jC b).length:Int)=(jC b,((QG (up (qm b)) (jC b)).length:Int),0):=by have a:=zvb h.1 (zuX h);have e:Zz b=QV ⟨(QG (up (qm b)) (jC b)).toArray⟩:=by{unfold Zz;rw[zbu b a];have:=zbg b;rw[zbu b a]at this;exact Bi.zgs _ (by omega) (ziM _ _)};have g:(⟨(QG (up (qm b)) (jC b)).toArray⟩:zY).size<=4800:=by{have:=zbg b;rw[zbu b a]at this;exact this};obtain⟨z,c,d⟩:=zmR (ziM (up (qm b)) (jC b)) (by omega);rw[<-e]at c d;rw[show (8*((Zz b).size:Int))=((8*(Zz b).size:Nat):Int) by omega];refine zqW (zb7 b a) (zhI b) (QU b) (z:=z) (by rw[c]) ?_ d;have f:(Zz b).size<=601:=by{rw[e,Bi.zef];omega};have:(zam (Zz b) ((8*(Zz b).size:Nat):Int)).size<=8*(Zz b).size:=by{rw[Bi.zbq _ _ (by omega) (Ea _)];exact Rq (Sh.qo _ _)};omega
end Up
namespace Up
open Pk
open Hf (up zm)
open Bi (zJ)
open Go.Proofs.YtoojegpaofdbfaaGreatDoor.So (ZK)
open Nu (zcU zz jP)
open Gn (rd)
open Nm2 (zce qa)
noncomputable def zv(b:zY):List Int:=zco b++rowT (qm b) 257
noncomputable def ziY(b:zY)(k:Nat):Nat:=1+(jE ((zv b).take k)).length
theorem QF(a c:List Int):jE (a++c)=jE a++jE c:=by unfold jE;rw[Mc]
theorem short_list{s b:zY}(h:Good s b):s.data.toList=[1]++(jE (zv b)++(Zz b).data.toList):=by rw[h.2.1];show (Ji b).toArray.toList=_;unfold Ji zv;rw[QF];simp
theorem zf7{b:zY}(h:b.size<=48):ZK b<=b.size:=by unfold ZK;rw[Ei h];exact So.znK _ _
theorem zb2(b:zY):zJ (up (qm b))<=257:=by have h:=(qZ b).1;unfold zJ;refine Fe (P2) ?_;rw[zm,h];exact Ea _
theorem zgk{b:zY}(h:b.size<=48):∀x∈zv b,0<=x/\x<=400:=by intro x a;have c:=zf7 h;have d:=QU b;have e:=zb2 b;rcases Fl.1 a with a|a;{unfold zco at a;simp only[Ex,Fk,Sd]at a;omega};{have:=zfc (qm b) 12 (qZ b).2.1 257 x a;omega}
theorem zpC{s b:zY}(h:Good s b)(k:Nat)(a:k<(zv b).length):rd s (ziY b k:Int)=((zv b)[k],ziY b (k+1),0):=by
 have g:=zgk h.1 _ (Er a)
 have f:s.size<=8000:=by have:=h.2.2;have:=h.1;rw[h.2.1];omega
 have e:s.data.toList=([1]++jE ((zv b).take k))++(zcU (zz (zv b)[k])++(jE ((zv b).drop (k+1))++(Zz b).data.toList)):=by
  rw[short_list h]
  conv=>lhs;rw[<-Lr k (zv b),Ma a]
  rw[QF]
  have:jE ((zv b)[k] :: (zv b).drop (k+1))=zcU (zz (zv b)[k])++jE ((zv b).drop (k+1)):=by
   unfold jE;rw[K6];rfl
  rw[this];simp
 have:=zce s (zv b)[k] _ _ (by omega) (by omega) f e
 have c:(([1]++jE ((zv b).take k)).length:Nat)=ziY b k:=by unfold ziY;simp;omega
 rw[c]at this;rw[this]
 have d:ziY b k+(jP (zv b)[k]).size=ziY b (k+1):=by
  unfold ziY;rw[Kw a,QF,Ek]
  have:(jE [(zv b)[k]]).length=(jP (zv b)[k]).size:=by
   unfold jE;simp
  omega
 rw[d]
theorem zsV{f g:Nat->Int}(s:List Nat):∀(j:Nat) (a:j<s.length),(s.flatMap fun i=>[f i,g i])[2*j]?=some (f s[j])/\(s.flatMap fun i=>[f i,g i])[2*j+1]?=some (g s[j]):=by induction s with|nil=>{intro j a;exact absurd a (Kd _)}|cons x s b=>{intro j a;rw[K6];cases j with|zero=>{exact⟨rfl,rfl⟩}|succ j=>{have:=b j (by simpa using a);rw[show 2*(j+1)=2*j+2 by omega,show 2*j+2+1=2*j+1+2 by omega];simpa using this}}
theorem Jp(b:zY):(zv b).length=4+2*zJ (up (qm b)):=by unfold zv zco;rw[Ek,zpM,zmQ,(qZ b).1];generalize syL (qm b) 257=s;have:(s.flatMap fun(i:Nat)=>[(i:Int),(((qm b).getD i 0:Nat):Int)]).length=2*s.length:=by{induction s with|nil=>{rfl}|cons x s a=>{rw[K6,Ek,a];simp;omega}};rw[this];simp
theorem qG(b:zY):(zv b)[0]?=some (b.size:Int)/\(zv b)[1]?=some ((ZK b:Nat):Int)/\(zv b)[2]?=some ((jC b).length:Int)/\(zv b)[3]?=some ((zJ (up (qm b)):Nat):Int):=by unfold zv zco;exact⟨rfl,rfl,rfl,rfl⟩
theorem QD(b:zY)(j:Nat)(a:j<(syL (qm b) 257).length):(zv b)[4+2*j]?=some ((syL (qm b) 257)[j]:Int)/\(zv b)[4+2*j+1]?=some (((qm b).getD (syL (qm b) 257)[j] 0:Nat):Int):=by have h:=zsV (f:=fun i=>(i:Int)) (g:=fun i=>(((qm b).getD i 0:Nat):Int)) (syL (qm b) 257) j a;unfold zv zco;rw[zpM];rw[Fx (by simp),Fx (by simp;omega)];simp only[Fm,Ko];rw[show 4+2*j-(0+1+1+1+1)=2*j by omega,show 4+2*j+1-(0+1+1+1+1)=2*j+1 by omega];exact h
theorem zm8{s b:zY}(h:Good s b):ziY b (zv b).length<=s.size/\s.extract (ziY b (zv b).length) s.size=Zz b:=by have a:=short_list h;have c:s.size=1+(jE (zv b)).length+(Zz b).data.toList.length:=by{show s.data.size=_;rw[<-Fq,a];simp;omega};unfold ziY;rw[Fb];refine⟨by omega,Bi.ziy ?_⟩;rw[qa,a,<-Fa,List.drop_left' (by simp;omega),Ez];omega
end Up
namespace So
open Go.RowKit Go.Sort Go.Proofs
open Sh (bt ZB zba ZX IsB qB)
def zly(t:zY)(a c:Nat):Value:=.agg #[.string t,.int .i64 a,.int .i64 c]
def IsR(w:zW)(g:Nat):Prop:=w.heap[g]?=some (.cells #[.string ⟨#[]⟩,.int .i64 0,.int .i64 0] 205 (0,0))
theorem IsR.cells{w:zW}{g:Nat}(h:IsR w g):w.cell? ⟨g,0,none⟩=some (.string ⟨#[]⟩)/\w.cell? ⟨g,1,none⟩=some (.int .i64 0)/\w.cell? ⟨g,2,none⟩=some (.int .i64 0)/\(∀j,w.frozen? ⟨g,j,none⟩=false):=by refine⟨?_,?_,?_,fun j=>Ee w g j _ _ h⟩;{rw[El w g 0 _ _ (0,0) h];rfl};{rw[El w g 1 _ _ (0,0) h];rfl};{rw[El w g 2 _ _ (0,0) h];rfl}
theorem zmO(f:Nat->Nat)(k:Nat):(f k=0->atK f (k+1)=k)/\(f k≠0->atK f (k+1)=atK f k):=by constructor;{intro h;rw[atK,Ei h]};{intro h;rw[atK,Eh h]}
theorem ziF(t:zY)(w:zW)(hn:t.size<=1048576): Calls prog 175 #[.string t] w (zB w (zly (Za t) (ZK t) (zop t))):=by obtain⟨i0,ao,ar,au,av⟩:=E4 Nu.Tryz.infoJ5;by_cases B:8000<t.size;{have C:Hid (zly (Za t) (ZK t) (zop t)=zly ⟨#[]⟩ 0 2):=by{unfold Hid;rw[(zng (by omega)).1,(zng (by omega)).2,zop,Ei B]};go_enter func175,ntmps175;(go_wp2_with fail);refine Ec (v:=zly ⟨#[]⟩ 0 2) (by simp[results,zly,results175,go_sem]) rfl ⟨by rw[C.o],?_⟩;exact(Eb _ _).alloc (Ea _) _};{have al:¬(8000:Int)<(t.size:Int):=by{omega};by_cases E:48<t.size;{have C:Hid (zly (Za t) (ZK t) (zop t)=zly ⟨#[]⟩ 0 1):=by{unfold Hid;rw[(zng (by omega)).1,(zng (by omega)).2,zop,Eh B,Ei E]};go_enter func175,ntmps175;(go_wp2_with fail);refine Ec (v:=zly ⟨#[]⟩ 0 1) (by simp[results,zly,results175,go_sem]) rfl ⟨by rw[C.o],?_⟩;exact(Eb _ _).alloc (Ea _) _};{have aa:¬(48:Int)<(t.size:Int):=by{omega};obtain⟨w0,u⟩:∃w0,w0=w.alloc (.cells #[.string ⟨#[]⟩,.int .i64 0,.int .i64 0] 205):=⟨_,rfl⟩;have z0:w0.heap.size=w.heap.size+1:=by{rw[u];simp};have af:Hid (IsR w0 w.heap.size):=by{unfold Hid;rw[u];exact heap_alloc_last w _};have ab:Hid (zU w w0):=by{unfold Hid;rw[u];exact(Eb _ _).alloc (Ea _) _};go_enter func175,ntmps175;(go_wp2_with (at_make;rw[<-u];refine Fi _ rfl (.tmp 16) (.tmp 16) 22 rfl w0.heap.size 5 i0 (.int .u8 0) 1 underlying22 ao ar au .i64 .i64 _ _ t.size rfl rfl (by simp) (by simp) (by rw[av];omega) (by unfold maxLen;omega) (Ea _) ?_;intro w1 s f;have I:=zc (qB s);have D:=(Eb w0.heap.size w0).grown f (Ea _) (by simp);have ag:Hid (IsR w1 w.heap.size):=(D.block w.heap.size (by omega)).trans af.o;have H:=zc (ab.o.trans (D.mono (by omega)));have ax:=I.o.lt;clear s f D));refine(ztb t hn w1).mono ?_;rintro e S ⟨g,az,d,rfl,a1,am,hH,L,hp,hr,⟨a0,ap⟩,n⟩;have HH:=zc hH;have ae:=zc L;have ac:=zc (H.o.trans (n.mono H.o.size));have ah:Hid (IsR S w.heap.size):=(n.block w.heap.size (by omega)).trans ag.o;have ai:=zc (I.o.below n ax);have z2:=n.size;have ak:Hid (∀k,k<t.size->d[k]! < t.size):=fun k hk=>by{have:dF d k∈seg (dF d) 0 t.size:=by{rw[seg,Ft];exact⟨k,by simp;omega,by simp⟩};have:=hp.mem_iff.1 this;have Z:=Kr.1 this;exact Z};have HE:=zc (zsH (by omega) (ztG (zxC hp hr)));clear hH L hp hr n ap;(go_wp2_with fail);(go_loopw [21,4] (fun i a wr=>∃k:Nat,i=.int .i64 k/\k<=t.size/\a=.int .i64 (atK (dF d) k:Nat)/\IsB wr (w.heap.size+1) 5 .u8 t.size (fun j=>((zfi t (dF d) k j:Nat):Int))/\IsR wr w.heap.size/\wr.heap[g]?=S.heap[g]?/\zU w wr) (fun i _ _=>t.size-(intOf i).toNat));(case atStart=>exact⟨0,rfl,En _,rfl,by rw[<-z0];exact ai.o.congr (fun j _=>by simp[zfi]),ah.o,rfl,ac.o⟩);(case round=>obtain⟨k,rfl,hk,rfl,b,l,r,z⟩:=hrel;have T1:=zc b;have R1:=zc l;have GB:=zc z;have ad:=zc r;have a3:=b.lt;clear z;by_cases F:k<t.size;{obtain⟨aw,_,U,_⟩:=Zn (zfD HH.o r) (i:=k) (by rw[ae.o];exact F);have a2:(k:Int)<(t.size:Int):=by{omega};have Q:=ak.o k F;have HN:=zc (zoq t (dF d) k);have X:=zc (zmO (dF d) k);have HX:Hid (dF d k=d[k]!):=rfl;obtain⟨x,hx⟩:∃x,x=d[k]!:=⟨_,rfl⟩;rw[<-hx]at aw U Q HX;rw[HX.o]at HN X;obtain⟨p,hp⟩:∃p,t.size=p+1:=⟨t.size-1,by omega⟩;have e1:(t.size:Int)-1=(p:Int):=by{omega};have a4:IntKind.i64.wrap (p:Int)=(p:Int):=by{rw[E1];omega};have aq:=zos t x (by omega);have c:=zo8 t x Q;rw[show t.size-1=p by omega]at c;have O:p<(jU t x).size:=by{omega};obtain⟨y,hy,R⟩:∃y:UInt8,(jU t x)[p]=y/\y.toNat=zcC t x:=⟨_,rfl,(ZB _ _ O).trans c⟩;rw[<-R]at HN;generalize jU t x=tx at U O hy aq;have ay:(p:Int)<(tx.size:Int):=by{omega};have c2:=b.cell (j:=k) F;have f2:=b.frozen k;have an:g<wr.heap.size:=by{have:=GB.o.size;have Z:S.heap[g]?≠none:=by{rw[Lz am];simp};rw[<-r]at Z;exact Nat.lt_of_not_le fun h=>Z (Kz h)};have aj:=zc fun W (h:IsB W (w.heap.size+1) 5 .u8 t.size (fun j=>((zfi t (dF d) k j:Nat):Int)))=>(h.set k (y.toNat:Nat)).congr (fun j _=>HN.o j);obtain⟨m,M⟩:∃m,m=atK (dF d) k:=⟨_,rfl⟩;rw[<-M]at X ⊢;clear hx b l r c R M;have Y:=aj.o wr T1.o;have RS:IsR (wr.setCell ⟨w.heap.size+1,k,none⟩ (.int .u8 (y.toNat:Nat))) w.heap.size:=by{unfold IsR;rw[Et _ _ _ _ (by simp)];exact R1.o};have GS:(wr.setCell ⟨w.heap.size+1,k,none⟩ (.int .u8 (y.toNat:Nat))).heap[g]?=S.heap[g]?:=by{rw[Et _ _ _ _ (by simp;omega)];exact ad.o};have V:=GB.o.setCell (p:=⟨w.heap.size+1,k,none⟩) (by simp) (.int .u8 (y.toNat:Nat));have LS:g<(wr.setCell ⟨w.heap.size+1,k,none⟩ (.int .u8 (y.toNat:Nat))).heap.size:=by{simpa using an};have HS:Hid (∀o:Obj,IsB ((wr.setCell ⟨w.heap.size+1,k,none⟩ (.int .u8 (y.toNat:Nat))).alloc o) (w.heap.size+1) 5 .u8 t.size (fun j=>((zfi t (dF d) (k+1) j:Nat):Int))/\IsR ((wr.setCell ⟨w.heap.size+1,k,none⟩ (.int .u8 (y.toNat:Nat))).alloc o) w.heap.size/\((wr.setCell ⟨w.heap.size+1,k,none⟩ (.int .u8 (y.toNat:Nat))).alloc o).heap[g]?=S.heap[g]?/\zU w ((wr.setCell ⟨w.heap.size+1,k,none⟩ (.int .u8 (y.toNat:Nat))).alloc o)):=by{intro o;generalize wr.setCell ⟨w.heap.size+1,k,none⟩ (.int .u8 (y.toNat:Nat))=W at Y RS GS V LS ⊢;have ba:zU W (W.alloc o):=(Eb _ _).alloc (Ea _) _;have h1:=Y.lt;exact⟨Y.below ba h1,(ba.block _ (by omega)).trans RS,(ba.block _ LS).trans GS,V.trans (ba.mono V.size)⟩};clear Y RS GS V LS;by_cases G:x=0;{subst G;have HM:=zc (X.o.1 rfl);(go_wp2_with fail);(go_roundw);(case rel=>exact⟨k+1,by go_num,by omega,by rw[HM.o],HS.o _⟩);(case measure=>simp[intOf];omega)};{have HM:=zc (X.o.2 G);have a5:((x:Int)==0)=false:=by{simpa using G};(go_wp2_with fail);(go_roundw);(case rel=>exact⟨k+1,by go_num,by omega,by rw[HM.o],HS.o _⟩);(case measure=>simp[intOf];omega)}};{obtain rfl:k=t.size:=by{omega};have K:=b.str (P:=prog) (src:=22) (dst:=9) t.size t.size (Ea _) (fun j _=>ztp _ _ _ j) underlying22 underlying5 underlying9;rw[zqB]at K;obtain⟨c0,c1,c2,f0⟩:=l.cells;have C:Hid (zly (Za t) (ZK t) (zop t)=zly (ZX t.size (fun j=>zcC t (dF d j))) (atK (dF d) t.size) 0):=by{unfold Hid;rw[HE.o.1,HE.o.2.1,HE.o.2.2]};obtain⟨q,hq⟩:∃q,q=ZX t.size (fun j=>zcC t (dF d j)):=⟨_,rfl⟩;obtain⟨m,M⟩:∃m,m=atK (dF d) t.size:=⟨_,rfl⟩;rw[<-hq]at K C;rw[<-M]at C ⊢;clear b l r hq M;(go_wp2_with fail);refine Ec (v:=zly q m 0) (by simp[results,zly,results175,go_sem,c0,c1,c2]) rfl ⟨by rw[C.o],?_⟩;exact((GB.o.setCell (Ea _) _).setCell (Ea _) _).setCell (Ea _) _})}}
end So
namespace Sh
theorem zfJ(t:zY)(w:zW)(h:t.size<=1048576):
  Calls prog 112 #[.string t] w fun e w'=>e=.returned (.string (sha t))/\zU w w' :=
 all_of (fun s a c t w b d f g=>zpI s a c t w b d f g) t w h
def JN(t:zY):zY:=if t.size<=8000 then sha t else ⟨#[]⟩
theorem zaC(t:zY)(w:zW)(f:t.size<=maxLen)(c:JU w): Calls prog 125 #[.string t] w (zB w (.string (JN t))):=by unfold maxLen at f;have d:=zE c;clear c;by_cases h:8000<t.size;{have a:=zE (show JN t=⟨#[]⟩ by unfold JN;rw[Eh (by omega)]);go_enter func125,ntmps125;(go_wp2_with fail);go_ret;exact⟨Nu.zr a.o.symm,Eb _ _⟩};{have a:=zE (show JN t=sha t by unfold JN;rw[Ei (by omega)]);go_enter func125,ntmps125;(go_wp2_with fail);refine(zja t w (by omega) d.o).mono ?_;rintro e w1 ⟨rfl,b⟩;(go_wp2_with fail);go_ret;exact⟨Nu.zr a.o.symm,b⟩}
theorem zjh{w w1 c d:zW}(b:zU w w1)(e:zU w1 c)(f:zU c d):zU w d :=
 have a:=b.trans (e.mono b.size)
 a.trans (f.mono a.size)
def JI(t:zY):zY:=sha (⟨#[0]⟩++t)
def qT(a b:zY):zY:=sha (⟨#[1]⟩++a++b)
theorem zhv(t:zY):(JI t).size=32:=zeT _
theorem jN(a b:zY):(qT a b).size=32:=zeT _
theorem zd8(t:zY):((⟨#[0]⟩:zY)++t).size=1+t.size:=by rw[Ew];rfl
theorem zdJ(t:zY):((⟨#[1]⟩:zY)++t).size=1+t.size:=by rw[Ew];rfl
theorem Jk(t:zY)(w:zW)(b:t.size<=8000): Calls prog 83 #[.string t] w (zB w (.string (JI t))):=by go_enter func83,ntmps83;(go_wp2_with fail);refine(zfJ _ w (by rw[zd8];omega)).mono ?_;rintro e w1 ⟨rfl,a⟩;(go_wp2_with fail);go_ret;exact⟨rfl,a⟩
theorem ZN(a b:zY)(w:zW)(d:a.size<=8000)(f:b.size<=8000): Calls prog 111 #[.string a,.string b] w (zB w (.string (qT a b))):=by go_enter func111,ntmps111;(go_wp2_with fail);refine(zfJ _ w (by rw[Ew,zdJ];omega)).mono ?_;rintro e w1 ⟨rfl,c⟩;(go_wp2_with fail);go_ret;exact⟨rfl,c⟩
def zgb(t:zY):zY:=if 100<t.size then ⟨#[]⟩ else JI t
theorem zhK(t:zY)(h:100<t.size):zgb t=⟨#[]⟩:=Ei h
theorem za7(t:zY)(h:¬100<t.size):zgb t=JI t:=Eh h
def zor(a b:zY):zY:=if a.size=32/\b.size=32 then qT a b else ⟨#[]⟩
theorem zmJ(a b:zY)(h:¬(a.size=32/\b.size=32)):zor a b=⟨#[]⟩:=Eh h
theorem zae(a b:zY)(h:a.size=32)(c:b.size=32):zor a b=qT a b:=Ei ⟨h,c⟩
theorem zfd(t:zY)(w:zW)(f:t.size<=maxLen)(d:JU w): Calls prog 93 #[.string t] w (zB w (.string (zgb t))):=by have l:=zE f;unfold maxLen at f;have j:=zE d;have k:=d.two;clear d;by_cases h:100<t.size;{have c:=zE (zhK t h);go_enter func93,ntmps93;(go_wp2_with fail);go_ret;exact⟨Nu.zr c.o.symm,Eb _ _⟩};{have c:=zE (za7 t h);have i:=zE (show JN (⟨#[0]⟩++t)=JI t by unfold JN JI;rw[Ei (by rw[zd8];omega)]);go_enter func93,ntmps93;(go_wp2_with fail);refine(Nu.jA ⟨#[0]⟩ t w (by rw[show (⟨#[0]⟩:zY).size=1 from rfl];omega)).mono ?_;rintro e w1 ⟨rfl,a⟩;(go_wp2_with fail);refine(zaC _ _ (by rw[zd8];unfold maxLen;omega) (j.o.below a k)).mono ?_;rintro e m ⟨rfl,b⟩;have g:=zE (a.trans (b.mono a.size));clear a b;(go_wp2_with fail);go_ret;exact⟨Nu.zr (i.o.trans c.o.symm),g.o⟩}
theorem za4(a b:zY)(w:zW)(i:JU w): Calls prog 203 #[.string a,.string b] w (zB w (.string (zor a b))):=by have m:=zE i;have n:=i.two;clear i;by_cases h:a.size=32;{by_cases j:b.size=32;{have f:=zE (zae a b h j);have l:=zE (show JN (⟨#[1]⟩++(a++b))=qT a b by unfold JN qT;rw[Ei (by rw[zdJ,Ew];omega),ByteArray.append_assoc]);go_enter func203,ntmps203;(go_wp2_with fail);refine(Nu.jA a b w (by omega)).mono ?_;rintro e w1 ⟨rfl,c⟩;(go_wp2_with fail);refine(Nu.jA ⟨#[1]⟩ (a++b) _ (by rw[show (⟨#[1]⟩:zY).size=1 from rfl,Ew];omega)).mono ?_;rintro e o ⟨rfl,d⟩;(go_wp2_with fail);refine(zaC _ _ (by rw[zdJ,Ew];unfold maxLen;omega) ((m.o.below c n).below d (by have:=c.size;omega))).mono ?_;rintro e p ⟨rfl,g⟩;have k:=zE (zjh c d g);clear c d g;(go_wp2_with fail);go_ret;exact⟨Nu.zr (l.o.trans f.o.symm),k.o⟩};{have f:=zE (zmJ a b (fun x=>j x.2));go_enter func203,ntmps203;(go_wp2_with fail);go_ret;exact⟨Nu.zr f.o.symm,Eb _ _⟩}};{have f:=zE (zmJ a b (fun x=>h x.1));go_enter func203,ntmps203;(go_wp2_with fail);go_ret;exact⟨Nu.zr f.o.symm,Eb _ _⟩}
end Sh
namespace Tr
open Sh (sha zeT JI qT zhv jN)
def half(n:Nat):Nat:=2 ^ Nat.log2 (n-1)
theorem zaA(n:Nat):1<=half n:=Sf
theorem zaN(n:Nat)(h:2<=n):half n<n:=by have:=Nat.log2_self_le (n:=n-1) (by omega);unfold half;omega
theorem znr(n:Nat)(h:2<=n):n<=2*half n:=by have:=Nat.lt_log2_self (n:=n-1);unfold half;rw[Kb]at this;omega
theorem zxn(n i:Nat)(a:2 ^ i<n)(b:n<=2*2 ^ i):half n=2 ^ i:=by unfold half;congr 1;refine(Nat.log2_eq_iff (by omega)).2 ⟨by omega,?_⟩;rw[Kb];omega
def tree(l:List zY):zY :=
 if h0:l.length=0 then sha ⟨#[]⟩
 else if h1:l.length=1 then JI (l[0]'(by omega))
 else qT (tree (l.take (half l.length))) (tree (l.drop (half l.length)))
termination_by l.length
decreasing_by
 ·have:=zaN l.length (by omega)
  simp;omega
 ·have:=zaA l.length
  simp;omega
theorem zsT(l:List zY)(h:l.length=0):tree l=sha ⟨#[]⟩:=by rw[tree,Uh h]
theorem zuN(l:List zY)(h:l.length=1):tree l=JI (l[0]'(by omega)):=by rw[tree,Rr (by omega),Uh h]
theorem zvE(l:List zY)(h:2<=l.length):tree l=qT (tree (l.take (half l.length))) (tree (l.drop (half l.length))):=by rw[tree,Rr (by omega),Rr (by omega)]
theorem zaf(l:List zY):(tree l).size=32:=by rw[tree];split;{exact zeT _};{split;{exact zhv _};{exact jN _ _}}
def right(l:List zY):Bool:=decide (l.length<=64) && l.all (fun s=>decide (s.size<=100))
theorem zH(l:List zY):right l=true↔l.length<=64/\∀j (h:j<l.length),l[j].size<=100:=by unfold right;simp only[Fp,Fz,Nb];constructor;{rintro⟨a,b⟩;exact⟨a,fun j c=>b _ (Er c)⟩};{rintro⟨a,b⟩;refine⟨a,fun s d=>?_⟩;obtain⟨j,c,rfl⟩:=Fn d;exact b j c}
theorem zhe(l:List zY)(h:64<l.length):right l=false:=by cases e:right l with|false=>{rfl}|true=>{have:=((zH l).1 e).1;omega}
theorem zsb(l:List zY)(j:Nat)(a:j<l.length)(h:100<l[j].size):right l=false:=by cases e:right l with|false=>{rfl}|true=>{have:=((zH l).1 e).2 j a;omega}
def zi6(l:List zY):zY:=if right l=true then tree l else ⟨#[]⟩
end Tr
namespace Tr
open St (zq)
theorem jW{a b:Int}(h:a=b):Ending.returned (.int .i64 a)=.returned (.int .i64 b):=by rw[h]
theorem zi9(n:Nat)(w:zW)(h:2<=n)(l:n<=1048576): Calls prog 117 #[.int .i64 n] w fun e w'=>e=.returned (.int .i64 (half n))/\w'=w:=by go_enter func117,ntmps117;(go_wp2_with fail);(go_loopw [3] (fun v wr=>∃k i:Nat,v=.int .i64 k/\k=2 ^ i/\k<n/\wr=w) (fun v _=>n-(intOf v).toNat));(case atStart=>exact⟨1,0,rfl,rfl,by omega,rfl⟩);(case round=>obtain⟨k,i,rfl,a,j,g⟩:=hrel;subst g;have b:=zq a;have c:1<=k:=by{rw[a];exact Sf};clear a;by_cases f:2*k<n;{have g1:2*(k:Int)<n:=by{omega};(go_wp2_with fail);(go_roundw);(case rel=>exact⟨2*k,i+1,by go_num,by rw[Kb,<-b.o];omega,by omega,trivial⟩);(case measure=>simp[intOf];omega)};{have g1:¬2*(k:Int)<n:=by{omega};have d:Hid (half n=k):=by{unfold Hid;rw[b.o];exact zxn n i (by rw[<-b.o];omega) (by rw[<-b.o];omega)};(go_wp2_with fail);go_ret;exact⟨jW (by rw[d.o]),rfl⟩})
def len(x:Nat):Nat:=if x=0 then 0 else Nat.log2 x+1
end Tr
namespace Tr
open St (zq)
def zz8:Go.Shelf.Ren:=⟨fun _=>141,fun k=>if k=53 then 89 else if k=46 then 109 else if k=3 then 3 else if k=4 then 4 else if k=5 then 5 else 9,fun k=>k⟩
theorem zzt:Lays.n129 prog zz8 where
 mixed:=by kernel_rfl
 f129:=by kernel_rfl
 t3:=by kernel_rfl
 a3:=fun w=>by kernel_rfl
 z3:=fun w=>by kernel_rfl
 v3:=fun w=>by kernel_rfl
 t4:=by kernel_rfl
 a4:=fun w=>by kernel_rfl
 z4:=fun w=>by kernel_rfl
 v4:=fun w=>by kernel_rfl
 t5:=by kernel_rfl
 a5:=fun w=>by kernel_rfl
 z5:=fun w=>by kernel_rfl
 v5:=fun w=>by kernel_rfl
 t9:=by kernel_rfl
 a9:=fun w=>by kernel_rfl
 z9:=fun w=>by kernel_rfl
 v9:=fun w=>by kernel_rfl
 t46:=by kernel_rfl
 a46:=fun w=>by kernel_rfl
 z46:=fun w=>by kernel_rfl
 v46:=fun w=>by kernel_rfl
 t53:=by kernel_rfl
 a53:=fun w=>by kernel_rfl
 z53:=fun w=>by kernel_rfl
 v53:=fun w=>by kernel_rfl
theorem zqH(x:Nat)(w:zW)(h:x<18446744073709551616): Calls prog 141 #[.int .u64 x] w fun e w'=>e=.returned (.int .i64 (Lib.bitLen x))/\w'=w:=by have:=Any.bits_Len64 zzt x w (by omega) (by omega);rw[Kf]at this;exact this
theorem zoX(x:Nat)(a:x≠0)(h:x<18446744073709551616):Lib.bitLen x=Nat.log2 x+1:=by induction x using Nat.strongRecOn with|ind x c=>{rw[Lib.bitLen_half x a h];by_cases b:x/2=0;{have:x=1:=by{omega};subst this;rfl};{rw[c (x/2) (by omega) b (by omega)];have:Nat.log2 x=Nat.log2 (x/2)+1:=by{refine(Nat.log2_eq_iff a).2 ⟨?_,?_⟩;{have:=Nat.log2_self_le b;rw[Kb];omega};{have:=Nat.lt_log2_self (n:=x/2);rw[Kb]at this ⊢;omega}};omega}}
theorem zrx(n:Nat)(w:zW)(h:2<=n)(i:n<9223372036854775808): Calls prog 161 #[.int .i64 n] w fun e w'=>e=.returned (.int .i64 (half n))/\w'=w:=by have g:IntKind.u64.wrap ((n:Int)-1)=((n-1:Nat):Int):=by{rw[Nv];omega};have c:=zq (zoX (n-1) (by omega) (by omega));obtain⟨k,b⟩:∃k,k=Nat.log2 (n-1):=⟨_,rfl⟩;have HH:=zq (show half n=2 ^ k by rw[b];rfl);have a:k<=62:=by{rw[b];have:Nat.log2 (n-1)<63:=(Nat.log2_lt (by omega)).2 (by omega);omega};rw[<-b]at c;clear b;go_enter func161,ntmps161;(go_wp2_with fail);refine(zqH (n-1) w (by omega)).mono ?_;rw[c.o];rintro e w1 ⟨rfl,j⟩;subst w1;(go_wp2_with fail);go_ret;refine⟨jW ?_,rfl⟩;have d:(2:Nat) ^ k<=2 ^ 62:=Kv (by decide) a;rw[HH.o];have f:((2:Int) ^ k)=((2 ^ k:Nat):Int):=by{simp};rw[f];generalize (2:Nat) ^ k=y at d ⊢;unfold wrap64;omega
end Tr
namespace Tr
open St
theorem Zx(a:Option Addr)(r:Nat)(l:List zY)(w:zW)(B:Nat)(h:qV w B a l)(F:l.length<=1048576): Calls prog 87 #[.slice a l.length r] w fun e w'=>e=.returned (.bool (right l))/\w'=w:=by have z:=zq h;clear h;obtain⟨n,f⟩:∃n,n=l.length:=⟨_,rfl⟩;have c:=zq f;rw[<-f]at F ⊢;clear f;go_enter func87,ntmps87;(go_wp2_with fail);(go_loopw [3] (fun i wr=>∃k:Nat,i=.int .i64 k/\k<=n/\(∀j (p:j<l.length),j<k->l[j].size<=100)/\wr=w) (fun i _=>n-(intOf i).toNat));(case atStart=>exact⟨0,rfl,by omega,fun j p D=>by omega,rfl⟩);(case round=>obtain⟨k,rfl,I,d,G⟩:=hrel;subst G;have v:=zq d;clear d;by_cases t:k<n;{have q:k<l.length:=by{rw[<-c.o];exact t};obtain⟨b,off,rfl,H,x⟩:=z.o.some (by omega);have C:=x k q;have g:=zq (zsb l k q);obtain⟨s,u⟩:∃s,s=l[k]:=⟨_,rfl⟩;have m:=zq u;rw[<-u]at C;clear x u;by_cases o:100<s.size;{(go_wp2_with fail);go_ret;exact⟨qw (g.o (by rw[<-m.o];exact o)).symm,rfl⟩};{(go_wp2_with fail);(go_roundw);(case rel=>refine⟨k+1,by go_num,by omega,fun j p D=>?_,trivial⟩;by_cases e:j=k;{subst e;rw[<-m.o];omega};{exact v.o j p (by omega)});(case measure=>simp[intOf];omega)}};{have y:Hid (right l=decide ((n:Int)<=64)):=by{unfold Hid;by_cases E:n<=64;{rw[(zH l).2 ⟨by have:=c.o;omega,fun j p=>v.o j p (by have:=c.o;omega)⟩];simp;omega};{rw[zhe l (by have:=c.o;omega)];simp;omega}};(go_wp2_with fail);go_ret;exact⟨qw y.o.symm,rfl⟩})
end Tr
namespace Tr
open St
open Sh (JU JI qT zgb zor zfd za4 zaC JN za7 zae zjh)
end Tr
namespace Tr
open St
open Sh (JI qT zfJ Jk ZN)
theorem zfg:∀(m n:Nat) (l:List zY) (a:Option Addr) (c B:Nat) (w:zW),n<=m->l.length=n->n<=c->n<=64->(∀j (h:j<l.length),l[j].size<=100)->qV w B a l->B<=w.heap.size -> Calls prog 118 #[.slice a n c] w (zB w (.string (tree l))):=by intro m;induction m with|zero=>{intro n l a c B w X f g v i D r;obtain rfl:n=0:=by{omega};have u:=zq (zsT l f);clear D i;go_enter func118,ntmps118;(go_wp2_with fail);refine(zfJ ⟨#[]⟩ _ (by decide)).mono ?_;rintro e w1 ⟨rfl,p⟩;(go_wp2_with fail);go_ret;exact⟨Nu.zr u.o.symm,p⟩}|succ m E=>{intro n l a c B w X f g v i D r;by_cases h0:n=0;{exact E n l a c B w (by omega) f g v i D r};{obtain⟨b,off,rfl,O,C⟩:=D.some (by omega);clear D;by_cases S:n=1;{have u:=zq (zuN l (by omega));have M:=C 0 (by omega);rw[Ms]at M;have K:=i 0 (by omega);obtain⟨s,q⟩:∃s,s=l[0]'(by omega):=⟨_,rfl⟩;rw[<-q]at M K;have H:=zq q;subst S;clear C q i E;go_enter func118,ntmps118;(go_wp2_with fail);refine(Jk s _ (by omega)).mono ?_;rintro e w1 ⟨rfl,p⟩;(go_wp2_with fail);go_ret;exact⟨Nu.zr (by rw[u.o,<-H.o]),p⟩};{have Y:=zaA n;have V:=zaN n (by omega);have u:=zq (zvE l (by omega));obtain⟨k,I⟩:∃k,k=half n:=⟨_,rfl⟩;have L:=zq I;rw[<-I]at Y V;clear I;have Q:Hid (∀W:zW,zU w W->Calls prog 118 #[.slice (some ⟨b,off,none⟩) k c] W (zB W (.string (tree (l.take k))))):=fun W x=>E k (l.take k) (some ⟨b,off,none⟩) c B W (by omega) (by rw[E7];omega) (by omega) (by omega) (fun j U=>by rw[Lk];exact i j _) ((qV.take O C).after x r) (Fe r x.size);have R:Hid (∀W:zW,zU w W->Calls prog 118 #[.slice (some ⟨b,off+k,none⟩) (n-k) (c-k)] W (zB W (.string (tree (l.drop k))))):=fun W x=>E (n-k) (l.drop k) (some ⟨b,off+k,none⟩) (c-k) B W (by omega) (by rw[Fy];omega) (by omega) (by omega) (fun j U=>by rw[Mq];exact i _ _) ((qV.drop O C).after x r) (Fe r x.size);have G:=zq f;have s1:=zaf (l.take k);have s2:=zaf (l.drop k);clear C i E f;have i0:¬(n:Int)=0:=by{omega};have i1:¬(n:Int)=1:=by{omega};have g1:(k:Int)<=c:=by{omega};have g2:(k:Int)<=n:=by{omega};have g4:¬c=k:=by{omega};have HH:=zq (zi9 n w (by omega) (by omega));rw[<-L.o]at HH;go_enter func118,ntmps118;(go_wp2_with fail);refine HH.o.mono ?_;rintro e w1 ⟨rfl,hw⟩;subst w1;(go_wp2_with fail);(go_region_with (first|(go_at_call 118;(with_reducible refine(Q.o _ ?_).mono ?_);(· exact(Eb _ _).drew);rintro e P ⟨rfl,d⟩;have o:=zq (show zU w P from ⟨d.os,d.tape,d.output,d.size,d.block⟩);clear d)|(go_at_call 118;(with_reducible refine(R.o P o.o).mono ?_);rintro e Z ⟨rfl,y⟩;have t:=zq (o.o.trans (y.mono o.o.size));clear y)|(go_at_call 111;refine(ZN (tree (l.take k)) (tree (l.drop k)) Z ?_ ?_).mono ?_;(· omega);(· omega);rintro e w4 ⟨rfl,z⟩;have F:=zq (t.o.trans (z.mono t.o.size));clear z)));(all_goals (try go_wp2_with fail));(all_goals go_ret);all_goals exact⟨Nu.zr (by rw[u.o,G.o,<-L.o]),F.o⟩}}}
end Tr
namespace Tr
open St
open Sh (JU)
theorem zbf{w w1 b:zW}(a:zU w w1)(c:zU w1 b):zU w b:=a.trans (c.mono a.size)
theorem zf9(l:List zY)(h:right l=true):zi6 l=tree l:=Ei h
theorem zmE(l:List zY)(h:right l=false):zi6 l=⟨#[]⟩:=Eh (by rw[h];decide)
theorem zda(l:List zY)(n:Nat)(a:Option Addr)(b B:Nat)(w:zW)(g:l.length=n)(f:n<=b)(r:n<=1048576)(j:qV w B a l)(p:B<=w.heap.size): Calls prog 154 #[.slice a n b] w (zB w (.string (zi6 l))):=by have c:=zq (Zx a b l w B j (by omega));rw[g]at c;have o:=zq j;clear j;by_cases m:400<n;{have d:=zq (zmE l (zhe l (by omega)));go_enter func154,ntmps154;(go_wp2_with fail);go_ret;exact⟨Nu.zr d.o.symm,Eb _ _⟩};{cases h:right l with|false=>{have d:=zq (zmE l h);rw[h]at c;go_enter func154,ntmps154;(go_wp2_with fail);refine c.o.mono ?_;rintro e w1 ⟨rfl,q⟩;subst w1;(go_wp2_with fail);go_ret;exact⟨Nu.zr d.o.symm,Eb _ _⟩}|true=>{have d:=zq (zf9 l h);have k:=zq ((zH l).1 h);rw[h]at c;go_enter func154,ntmps154;(go_wp2_with fail);refine c.o.mono ?_;rintro e w1 ⟨rfl,q⟩;subst w1;(go_wp2_with fail);refine(zfg n n l a b B _ (Ea _) g f (by have:=k.o.1;omega) k.o.2 o.o p).mono ?_;rintro e s ⟨rfl,i⟩;(go_wp2_with fail);go_ret;exact⟨Nu.zr d.o.symm,i⟩}}
end Tr
namespace Tr
open Sh (qT)
def climbR:Nat->Nat->Nat->List zY->zY->Option zY
 |0,_,_,_,_=>none
 |f+1,n,i,p,h=>
  if n<=1 then (if p=[] then some h else none)
  else match p.getLast? with
   |none=>none
   |some s=>if i<half n then (climbR f (half n) i p.dropLast h).map (fun x=>qT x s) else (climbR f (n-half n) (i-half n) p.dropLast h).map (fun x=>qT s x)
def od(a:Nat):Nat:=if _h:a%2=0/\0<a then od (a/2) else a
termination_by a
decreasing_by omega
theorem zcz(a:Nat)(h:a%2=0)(b:0<a):od a=od (a/2):=by rw[od,Uh ⟨h,b⟩]
theorem zfT(a:Nat)(h:¬(a%2=0/\0<a)):od a=a:=by rw[od,Rr h]
def climbS:Nat->Nat->List zY->zY->Option zY
 |_,last,[],h=>if last=0 then some h else none
 |a,last,p :: ps,h=>
  if last=0 then none
  else if a%2=1 then climbS (a/2) (last/2) ps (qT p h)
  else if a=last then climbS (od a/2) (od a/2) ps (qT p h)
  else climbS (a/2) (last/2) ps (qT h p)
theorem ZP(a:Nat)(p:List zY)(h:zY)(b:p≠[]):climbS a 0 p h=none:=by cases p with|nil=>{exact absurd rfl b}|cons x xs=>{rw[climbS,Ei rfl]}
theorem Zy(a last:Nat)(x:zY)(xs:List zY)(h:zY)(b:last≠0)(c:a%2=1):climbS a last (x :: xs) h=climbS (a/2) (last/2) xs (qT x h):=by rw[climbS,Eh b,Ei c]
theorem Jf(a:Nat)(x:zY)(xs:List zY)(h:zY)(b:a≠0)(c:a%2=0):climbS a a (x :: xs) h=climbS (od a/2) (od a/2) xs (qT x h):=by rw[climbS,Eh b,Eh (by omega),Ei rfl]
theorem jX(a last:Nat)(x:zY)(xs:List zY)(h:zY)(b:last≠0)(d:a%2=0)(c:a≠last):climbS a last (x :: xs) h=climbS (a/2) (last/2) xs (qT h x):=by rw[climbS,Eh b,Eh (by omega),Eh c]
theorem qJ(a last:Nat)(h:zY):climbS a last [] h=if last=0 then some h else none:=by rw[climbS]
theorem JA(t:Nat)(h:0<t):2 ^ t/2=2 ^ (t-1)/\2 ^ t=2*2 ^ (t-1):=by obtain⟨s,rfl⟩:∃s,t=s+1:=⟨t-1,by omega⟩;rw[Kb];simp;omega
theorem ZY(t:Nat):1<=2 ^ t:=Sf
theorem zdM:∀(p:List zY) (t a last:Nat) (s h:zY),a<2 ^ t->2 ^ t<=last->last<2 ^ (t+1) ->
  climbS a last (p++[s]) h=(climbS a (2 ^ t-1) p h).map (fun x=>qT x s)
 |[],t,a,last,s,h,h1,h2,h3=>by
  have g:=ZY t;rw[Mg,qJ]
  rcases Lo t with b|b
  ·subst b
   rw[jX a last s [] h (by omega) (by omega) (by omega),qJ,Ei (by omega),Ei (by omega)];rfl
  ·obtain⟨e,f⟩:=JA t b
   have i:=ZY (t-1);rw[Eh (by omega)];by_cases c:a%2=1
   ·rw[Zy a last s [] h (by omega) c,qJ,Eh (by omega)]
    rfl
   ·rw[jX a last s [] h (by omega) (by omega) (by omega),qJ,Eh (by omega)]
    rfl
 |x :: xs,t,a,last,s,h,h1,h2,h3=>by
  have g:=ZY t;rw[Mm]
  rcases Lo t with b|b
  ·subst b
   rw[jX a last x (xs++[s]) h (by omega) (by omega) (by omega)];rw[show last/2=0 by omega,ZP _ _ _ (by simp)];rw[show 2 ^ 0-1=0 by omega,ZP _ _ _ (by simp)];rfl
  ·obtain⟨e,f⟩:=JA t b
   have i:=ZY (t-1)
   have d:(2 ^ t-1)/2=2 ^ (t-1)-1:=by omega
   have j:2 ^ (t+1)=2*2 ^ t:=by rw[Kb];omega
   have k:2 ^ (t-1+1)=2 ^ t:=by rw[show t-1+1=t by omega]
   by_cases c:a%2=1
   ·rw[Zy a last x _ h (by omega) c,Zy a (2 ^ t-1) x _ h (by omega) c,d]
    exact zdM xs (t-1) (a/2) (last/2) s (qT x h) (by omega) (by omega) (by omega)
   ·rw[jX a last x _ h (by omega) (by omega) (by omega),jX a (2 ^ t-1) x _ h (by omega) (by omega) (by omega),d]
    exact zdM xs (t-1) (a/2) (last/2) s (qT h x) (by omega) (by omega) (by omega)
theorem zrJ:∀t:Nat,od (2 ^ t)=1
 |0=>by rw[zfT _ (by decide)]
 |t+1=>by
  have a:=ZY t;rw[Kb,zcz _ (by omega) (by omega),show 2 ^ t*2/2=2 ^ t by omega];exact zrJ t
theorem zpb:∀(t r:Nat),0<r->r<2 ^ t->∃u,1<=u/\u<=t/\od (2 ^ t+r)=2 ^ u+od r/\od r<2 ^ u/\0<od r
 |0,r,h0,h1=>by simp at h1;omega
 |t+1,r,h0,h1=>by
  have g:=ZY t
  have e:2 ^ (t+1)=2*2 ^ t:=by rw[Kb];omega
  by_cases a:r%2=0
  ·obtain⟨u,b,h,c,d,f⟩:=zpb t (r/2) (by omega) (by omega)
   refine⟨u,b,by omega,?_,?_,?_⟩
   ·rw[zcz (2 ^ (t+1)+r) (by omega) (by omega),zcz r a h0,show (2 ^ (t+1)+r)/2=2 ^ t+r/2 by omega]
    exact c
   ·rw[zcz r a h0];exact d
   ·rw[zcz r a h0];exact f
  ·refine⟨t+1,by omega,Ea _,?_,?_,?_⟩
   ·rw[zfT (2 ^ (t+1)+r) (by omega),zfT r (by omega)]
   ·rw[zfT r (by omega)];exact h1
   ·rw[zfT r (by omega)];exact h0
theorem zaS:∀(p:List zY) (t a last:Nat) (s h:zY),2 ^ t<=a->a<=last->last<2 ^ (t+1) ->
  climbS a last (p++[s]) h=(climbS (a-2 ^ t) (last-2 ^ t) p h).map (fun x=>qT s x)
 |[],t,a,last,s,h,h1,h2,h3=>by
  have n:=ZY t
  have m:2 ^ (t+1)=2*2 ^ t:=by rw[Kb];omega
  rw[Mg,qJ (a-2 ^ t)];by_cases g:last=2 ^ t
  ·obtain rfl:a=last:=by omega
   rw[Ei (by omega)];by_cases d:a%2=1
   ·rw[Zy a a s [] h (by omega) d,qJ,Ei (by
     rcases Lo t with b|b
     ·subst b;omega
     ·obtain⟨e,f⟩:=JA t b;omega)]
    rfl
   ·rw[Jf a s [] h (by omega) (by omega),qJ,g,zrJ,Ei (by decide)]
    rfl
  ·rw[Eh (by omega)]
   have b:0<t:=by
    rcases Lo t with b|b
    ·subst b;omega
    ·exact b
   obtain⟨e,f⟩:=JA t b;have o:=ZY (t-1);by_cases d:a%2=1
   ·rw[Zy a last s [] h (by omega) d,qJ,Eh (by omega)]
    rfl
   ·by_cases c:a=last
    ·subst c
     obtain⟨u,i,r,j,v,w⟩:=zpb t (a-2 ^ t) (by omega) (by omega);rw[show 2 ^ t+(a-2 ^ t)=a by omega]at j;obtain⟨f1,f2⟩:=JA u i;have q:=ZY (u-1);rw[Jf a s [] h (by omega) (by omega),qJ,Eh (by omega)];rfl
    ·rw[jX a last s [] h (by omega) (by omega) c,qJ,Eh (by omega)]
     rfl
 |x :: xs,t,a,last,s,h,h1,h2,h3=>by
  have n:=ZY t
  have m:2 ^ (t+1)=2*2 ^ t:=by rw[Kb];omega
  rw[Mm];by_cases g:last=2 ^ t
  ·obtain rfl:a=last:=by omega
   rw[show a-2 ^ t=0 by omega,ZP _ _ _ (by simp)];by_cases d:a%2=1
   ·rw[Zy a a x _ h (by omega) d,show a/2=0 by
     rcases Lo t with b|b
     ·subst b;omega
     ·obtain⟨e,f⟩:=JA t b;omega,ZP _ _ _ (by simp)]
    rfl
   ·rw[Jf a x _ h (by omega) (by omega),g,zrJ,show 1/2=0 from rfl,ZP _ _ _ (by simp)]
    rfl
  ·have b:0<t:=by
    rcases Lo t with b|b
    ·subst b;omega
    ·exact b
   obtain⟨e,f⟩:=JA t b;have o:=ZY (t-1)
   have y:2 ^ (t-1+1)=2 ^ t:=by rw[show t-1+1=t by omega]
   have k:(a-2 ^ t)/2=a/2-2 ^ (t-1):=by omega
   have l:(last-2 ^ t)/2=last/2-2 ^ (t-1):=by omega
   by_cases d:a%2=1
   ·rw[Zy a last x _ h (by omega) d,Zy (a-2 ^ t) (last-2 ^ t) x _ h (by omega) (by omega),k,l]
    exact zaS xs (t-1) (a/2) (last/2) s (qT x h) (by omega) (by omega) (by omega)
   ·by_cases c:a=last
    ·subst c
     obtain⟨u,i,r,j,v,w⟩:=zpb t (a-2 ^ t) (by omega) (by omega);rw[show 2 ^ t+(a-2 ^ t)=a by omega]at j;obtain⟨f1,f2⟩:=JA u i;have z:2 ^ (u-1+1)=2 ^ u:=(by rw[show u-1+1=u by omega]);rw[Jf a x _ h (by omega) (by omega),Jf (a-2 ^ t) x _ h (by omega) (by omega)];rw[show od (a-2 ^ t)/2=od a/2-2 ^ (u-1) by omega];exact zaS xs (u-1) (od a/2) (od a/2) s (qT x h) (by omega) (by omega) (by omega)
    ·rw[jX a last x _ h (by omega) (by omega) c,jX (a-2 ^ t) (last-2 ^ t) x _ h (by omega) (by omega) (by omega),k,l]
     exact zaS xs (t-1) (a/2) (last/2) s (qT h x) (by omega) (by omega) (by omega)
end Tr
namespace Dr
open St (IsS)
def zzh:List zY:=[⟨#[]⟩,⟨#[98,97,110,97,110,97]⟩,⟨#[97,98,97,98]⟩,⟨#[97,97,97,97,97,97,97,97,97,97,97,97,97,97,97,97]⟩,⟨#[97,98,114,97,99,97,100,97,98,114,97,32,97,98,114,97,99,97,100,97,98,114,97]⟩,⟨#[97,98]⟩]
def zuF:List zY:=[⟨#[97]⟩,⟨#[98]⟩,⟨#[97,98]⟩,⟨#[116,104,101,32]⟩,⟨#[97,97,97,97]⟩]
theorem zwY(W:zW)(t:TypeId):IsS (W.alloc (.cells #[.string ⟨#[]⟩,.string ⟨#[98,97,110,97,110,97]⟩,.string ⟨#[97,98,97,98]⟩,.string ⟨#[97,97,97,97,97,97,97,97,97,97,97,97,97,97,97,97]⟩,.string ⟨#[97,98,114,97,99,97,100,97,98,114,97,32,97,98,114,97,99,97,100,97,98,114,97]⟩,.string ⟨#[97,98]⟩] t)) W.heap.size t zzh:=heap_alloc_last W _
theorem zvC(W:zW)(t:TypeId):IsS (W.alloc (.cells #[.string ⟨#[97]⟩,.string ⟨#[98]⟩,.string ⟨#[97,98]⟩,.string ⟨#[116,104,101,32]⟩,.string ⟨#[97,97,97,97]⟩] t)) W.heap.size t zuF:=heap_alloc_last W _
theorem zwx(s:zY)(h:s∈zzh):s.size<=23:=by simp only[zzh,Ex,Fk,Sd]at h;rcases h with rfl|rfl|rfl|rfl|rfl|rfl<;>decide
theorem zmx(s:zY)(h:s∈zuF):s.size<=4:=by simp only[zuF,Ex,Fk,Sd]at h;rcases h with rfl|rfl|rfl|rfl|rfl<;>decide
theorem zsw(B:Nat)(a:Option Addr)(len b:Nat)(w:zW)(t:len<=1048576)(hs:Src w B a len b): Calls prog 113 #[.pointer (some ⟨B,0,none⟩)] w fun e w'=>∃s:zY,s.size<=32/\e=.returned (.string s)/\Src w' B a len b/\Aft B w w':=by have hB:=hs.lt;have HS:=zZ hs;clear hs;go_enter func113,ntmps113;(go_wp2_with fail);refine(ZW B a len b 5 _ t (by omega) HS.o).mono ?_;rintro e w1 ⟨r,rfl,q0,q1,F,D⟩;have p:=zZ F;have o:=zZ D;clear F D;by_cases X:r=0;{subst X;(go_wp2_with fail);refine(ZW B a len b 12 _ t (by omega) p.o).mono ?_;rintro e L ⟨r2,rfl,I,p1,d,c⟩;obtain⟨m,rfl⟩:=Em I;have P:=zZ (zqN B a len b m L t (by omega) d);have n:=zZ ((o.o.trans c).aft);have C:m<=32:=by{omega};clear d c I p1;(go_wp2_with fail);refine P.o.mono ?_;rintro e w3 ⟨l,j,rfl,g,f⟩;have y:Hid (∃s:zY,s.size<=32/\Ending.returned (.string ⟨l.toArray⟩)=.returned (.string s)/\Src w3 B a len b/\Aft B w w3):=⟨⟨l.toArray⟩,by rw[show (⟨l.toArray⟩:zY).size=l.length from by simp[ByteArray.size],j];exact C,rfl,g,n.o.trans f⟩;clear g f j;(go_wp2_with fail);go_ret;exact y.o};{by_cases Y:r=1;{subst Y;have S:=zZ (fun W (h:Src W B a len b)=>znJ B W.heap.size 6 a len b 9 zzh (W.alloc (.cells #[.string ⟨#[]⟩,.string ⟨#[98,97,110,97,110,97]⟩,.string ⟨#[97,98,97,98]⟩,.string ⟨#[97,97,97,97,97,97,97,97,97,97,97,97,97,97,97,97]⟩,.string ⟨#[97,98,114,97,99,97,100,97,98,114,97,32,97,98,114,97,99,97,100,97,98,114,97]⟩,.string ⟨#[97,98]⟩] 9)) t (h.below ((Eb _ _).alloc (Ea _) _)) (zwY W _) (by have:=h.lt;omega) (by decide) (by decide));(go_wp2_with fail);refine(S.o w1 p.o).mono ?_;rintro e L ⟨s,hm,rfl,d,c⟩;have y:Hid (∃K:zY,K.size<=32/\Ending.returned (.string s)=.returned (.string K)/\Src L B a len b/\Aft B w L):=⟨s,Fe (zwx s hm) (by decide),rfl,d,(o.o.aft.trans (jM ((Eb _ _).alloc (Ea _) _))).trans c.aft⟩;clear d c hm;(go_wp2_with fail);go_ret;exact y.o};{have e0:(r==0)=false:=Es.2 X;have e1:(r==1)=false:=Es.2 Y;have S:=zZ (fun W (h:Src W B a len b)=>znJ B W.heap.size 5 a len b 9 zuF (W.alloc (.cells #[.string ⟨#[97]⟩,.string ⟨#[98]⟩,.string ⟨#[97,98]⟩,.string ⟨#[116,104,101,32]⟩,.string ⟨#[97,97,97,97]⟩] 9)) t (h.below ((Eb _ _).alloc (Ea _) _)) (zvC W _) (by have:=h.lt;omega) (by decide) (by decide));clear X Y;(go_wp2_with fail);refine(ZW B a len b 8 _ t (by omega) p.o).mono ?_;rintro e L ⟨r2,rfl,I,p1,d,c⟩;obtain⟨m,rfl⟩:=Em I;have U:=zZ d;have n:=zZ ((o.o.trans c).aft);have Z:m<=7:=by{omega};clear d c I p1;(go_wp2_with fail);(go_loopw [4,3] (fun i u wr=>∃(k:Nat) (s:zY),i=.int .i64 k/\k<=7/\u=.string s/\s.size+4*k<=28/\Src wr B a len b/\Aft B w wr) (fun i _ _=>(intOf i).toNat));(case atStart=>exact⟨m,⟨#[]⟩,rfl,Z,rfl,by simp[ByteArray.size];omega,U.o,n.o⟩);(case round=>obtain⟨k,s,rfl,hk,rfl,ad,g,f⟩:=hrel;have x:=zZ g;have v:=zZ f;clear g f;by_cases ac:0<k;{obtain⟨H,z⟩:∃H,k=H+1:=⟨k-1,by omega⟩;have ek:(k:Int)-1=(H:Int):=by{omega};have Q:=zZ z;have ab:(0:Int)<(k:Int):=by{omega};clear z;(go_wp2_with fail);refine(S.o wr x.o).mono ?_;rintro e w4 ⟨M,q,rfl,G,E⟩;have V:=zZ G;have O:=zZ ((v.o.trans (jM ((Eb _ _).alloc (Ea _) _))).trans E.aft);have R:Hid ((s++M).size+4*H<=28):=by{unfold Hid;rw[Ew];have:=zmx M q;have:=Q.o;omega};have aa:=zmx M q;clear G E q;(go_wp2_with fail);(go_roundw);(case rel=>exact⟨H,s++M,by go_num,by have:=Q.o;omega,rfl,R.o,V.o,O.o⟩);(case measure=>have:=Q.o;simp[intOf];omega)};{obtain rfl:k=0:=by{omega};have y:Hid (∃K:zY,K.size<=32/\Ending.returned (.string s)=.returned (.string K)/\Src wr B a len b/\Aft B w wr):=⟨s,by omega,rfl,x.o,v.o⟩;(go_wp2_with fail);go_ret;exact y.o})}}
end Dr
namespace Dr
open Sh (qB ZX qo)
end Dr
namespace So
open Go.RowKit Go.Sort Go.Proofs
open Sh (bt ZB zba ZX IsB qB)
open In (zx Ints)
open Nu (bv)
open Ap (JH zC)
open Fr (zgz ZL zcl J6 Jd)
def blB(t:zY)(f:Nat->Nat)(k:Nat):List UInt8:=(List.range k).map fun j=>UInt8.ofNat (zcC t (f j))
theorem zwu(t:zY)(f:Nat->Nat)(k:Nat):(blB t f k).length=k:=by simp[blB]
theorem zu7(t:zY)(f:Nat->Nat)(k:Nat):blB t f (k+1)=blB t f k++[UInt8.ofNat (((zcC t (f k):Nat):Int)).toNat]:=by unfold blB;rw[Kx,Fg];rfl
theorem zcI(t:zY)(w:zW)(ht:t.size<=48): Calls prog 229 #[.string t] w (zB w (.tuple #[.string (Za t),.int .i64 (ZK t:Nat)])):=by obtain⟨i0,ad,ag,ah,ai⟩:=E4 Nu.Tryz.infoJ5;have Y:=zc (znV t w ht);go_enter func229,ntmps229;(go_wp2_with fail);refine Y.o.mono ?_;rintro e w1 ⟨v,l,rfl,ho,n,_,M⟩;have HE:=zc (zsH ht (fun j hj=>rfl) (f:=Jt t));have d:l.length=t.size:=by{have:=n.1.length_eq;simpa using this};have D:=zc d;have X:Hid (∀k (h:k<l.length),Jt t k=l[k]/\l[k]<t.size):=fun k h=>⟨QH n k h,by{have:=n.1.mem_iff.1 (Er h);simpa using this}⟩;obtain⟨a,ak,rfl,G,hI⟩:=ho.ints;have HI:=zc hI;rw[qj,d]at G ⊢;have S:=zc M;have z1:=M.size;clear ho n M hI d;(go_wp2_with fail);(go_loopw [7,5,6] (fun i u m wr=>∃k:Nat,i=.int .i64 k/\k<=t.size/\m=.int .i64 (atK (Jt t) k:Nat)/\zgz wr (w1.heap.size+1) u (blB t (Jt t) k)/\w1.heap.size<wr.heap.size/\zU w1 wr) (fun i _ _ _=>t.size-(intOf i).toNat));(case atStart=>exact⟨0,rfl,En _,rfl,.inl ⟨_,rfl,rfl,rfl⟩,by simp,(Eb _ _).alloc (Ea _) _⟩);(case round=>obtain⟨k,rfl,hk,rfl,c,al,o⟩:=hrel;have O1:=zc c;have R:=zc o;clear o;by_cases ae:k<t.size;{have ac:decide ((k:Int)<(t.size:Int))=true:=Eo (by omega);have am:(k:Int)<(t.size:Int):=by{omega};have H:k<l.length:=by{rw[D.o];exact ae};have p:k<(ints l).length:=by{rw[qj];exact H};obtain⟨b,off,rfl,M,hc⟩:=(HI.o.below R.o).some (by omega);have ci:=hc k p;have U:Hid (∀W:zW,zU w1 W->W.cell? ⟨b,off+k,none⟩=some (.int .i64 (ints l)[k])):=fun W hW=>by{obtain⟨b',aj,e1,_,aa⟩:=((HI.o.below hW).some (by omega:0<(ints l).length));cases e1;exact aa k p};have ey:(ints l)[k]=((l[k]:Nat):Int):=by{simp[ints]};rw[ey]at ci U;obtain⟨I,af⟩:=X.o k H;have B:=zc (zu7 t (Jt t) k);have C:=zc (zmO (Jt t) k);rw[I]at B C;obtain⟨x,hx⟩:∃x,x=l[k]:=⟨_,rfl⟩;rw[<-hx]at ci U af B C;obtain⟨s,hs⟩:∃s,s=x+t.size-1:=⟨_,rfl⟩;obtain⟨r,O⟩:∃r,r=s%t.size:=⟨_,rfl⟩;have ao:r<t.size:=by{rw[O];exact Pa _ (by omega)};have e1:(x:Int)+(t.size:Int)-1=(s:Int):=by{omega};have e2:(s:Int).tmod (t.size:Int)=(r:Int):=by{rw[Lw (by omega),O,Int.natCast_emod]};have ar:IntKind.i64.wrap (s:Int)=(s:Int):=by{rw[E1];omega};have au:IntKind.i64.wrap (r:Int)=(r:Int):=by{rw[E1];omega};have ap:(r:Int)<(t.size:Int):=by{omega};have aq:¬((t.size:Int)=0):=by{omega};obtain⟨y,hy,K⟩:∃y:UInt8,t[r]=y/\y.toNat=zcC t x:=⟨_,rfl,by rw[ZB];unfold zcC;rw[O,hs]⟩;rw[<-K]at B;have q:=zc (zwu t (Jt t) k);obtain⟨L,F⟩:∃L,L=blB t (Jt t) k:=⟨_,rfl⟩;rw[<-F]at O1 B q;obtain⟨m,hm⟩:∃m,m=atK (Jt t) k:=⟨_,rfl⟩;rw[<-hm]at C ⊢;have an:m<=k:=by{rw[hm];exact znK _ _};clear hc ey c I hx hs O K F hm;have HY:=zc (Mf y);(go_wp2_with (at_builtin;refine zC _ rfl (.tmp 17) (.tmp 31) 22 rfl (w1.heap.size+1) 5 i0 (.int .u8 0) 1 1 underlying22 ad ag ah ai rfl (by decide) _ L.length (L.map bv) rfl (JH.alloc O1.o _) ⟨wr.heap.size,0,none⟩ 1 1 [.int .u8 (y.toNat:Nat)] rfl rfl (zcl _ _ _) (J6 _) (by decide) (by unfold maxLen;have:=q.o;omega) (by have:=q.o;omega) (by simp;omega) ?_));intro v' w5 g E;have N5:=zc (Jd (by omega) (by have:=HY.o;omega) g);have ba:Below (w1.heap.size+1) wr w5:=((Eb (w1.heap.size+1) wr).alloc (by omega) _).trans (E _ (Ea _));have Q:=zc (R.o.trans (ba.mono (by omega)));have c5:=U.o w5 Q.o;have z5:=ba.size;clear g E ba ci;by_cases z:x=0;{subst z;have V:=zc (C.o.1 rfl);(go_wp2_with fail);(go_roundw);(case rel=>exact⟨k+1,by go_num,by omega,by rw[V.o],by rw[B.o];exact N5.o,by omega,Q.o⟩);(case measure=>simp[intOf];omega)};{have V:=zc (C.o.2 z);have av:((x:Int)==0)=false:=by{simpa using z};(go_wp2_with fail);(go_roundw);(case rel=>exact⟨k+1,by go_num,by omega,by rw[V.o],by rw[B.o];exact N5.o,by omega,Q.o⟩);(case measure=>simp[intOf];omega)}};{have ac:decide ((k:Int)<(t.size:Int))=false:=Ed (by omega);obtain rfl:k=t.size:=by{omega};have ab:=ZL (P:=prog) (src:=22) (dst:=9) _ c underlying22 underlying5 underlying9;have HQ:Hid ((⟨(blB t (Jt t) t.size).toArray⟩:zY)=Za t):=HE.o.1.symm;have Z:Hid (atK (Jt t) t.size=ZK t):=HE.o.2.1.symm;rw[HQ.o]at ab;rw[Z.o];have BZ:=zc (S.o.trans (R.o.mono z1));clear c;(go_wp2_with fail);refine Ec (v:=.tuple #[.string (Za t),.int .i64 (ZK t:Nat)]) (by simp[results,results229,go_sem]) rfl ⟨rfl,BZ.o⟩})
end So
end Go.Proofs.YtoojegpaofdbfaaGreatDoor
