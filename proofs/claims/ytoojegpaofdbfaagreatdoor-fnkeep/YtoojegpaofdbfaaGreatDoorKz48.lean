import Derived.Test.YtoojegpaofdbfaaGreatDoorKz38
set_option maxRecDepth 100000
set_option maxHeartbeats 8000000
set_option linter.unusedSimpArgs false
namespace Go.Proofs.YtoojegpaofdbfaaGreatDoor
open Go.RowKit
open Go.Proofs.Tryz
namespace fnKeep
open Kk
open Dr (Row zha zdF zg8 zho zhl zhk zhu ziu ofC pcC)
open Kp
open Sh (JU)
open Ls (HH qS Zr Qp zu lV zeb zi3 zk)
open Up (zem ql)
open St (qV qA)
open In (zx Ints)
theorem zbS{w w':zW}{a:Option Addr}{n:Nat}(h:Row w w.heap.size a n)(b:Below w.heap.size w w'):Row w' w'.heap.size a n:=(Dr.Row.below h b).mono b.size
theorem zi{w0 w w':zW}(h:Below w0.heap.size w0 w)(a:Below w.heap.size w w'):Below w0.heap.size w0 w':=h.trans (a.mono h.size)
theorem jT{w W:zW}(h:Below w.heap.size w W)(o:Obj):Below w.heap.size w (W.alloc o):=h.alloc h.size o
theorem zrh(w:zW)(n:Nat):Below w.heap.size w (w.drewN n):=⟨rfl,rfl,rfl,Ea _,fun _ _=>rfl⟩
theorem zyb(u:zW):(Instr.field 31 (.agg #[.int .i64 0,.int .i64 0,.string ⟨#[]⟩,.string ⟨#[]⟩,.int .i64 0,.int .i64 7]) 1).run prog u=.ok (.int .i64 7) u:=by kernel_rfl
structure Env (w:zW) (ga:Addr):Prop where
 hh:HH w
 vars:JU w
 glob:zem w (.iface 320 (.pointer (some ga)))
theorem Env.keep{w w':zW}{b:Addr}(h:Env w b)(a:Below w.heap.size w w'):Env w' b:=⟨qS h.hh a,Zr h.vars a,ql h.glob a⟩
theorem zrk(z b:Int)(r s:zY)(y:Int)(W:zW)(a:Addr)(E:Env W a)(c:s.size<=8001):
  Calls prog 29 #[.agg #[.int .i64 z,.int .i64 b,.string r,.string s,.int .i64 y]] W (zB W (.bool (qp (ZC z b r) z b r s y))):=zgv _ z b r s y W (by omega) E.hh (zcF z b r W E.vars)
theorem zpE(z b:Int)(r s:zY)(y:Int)(W:zW)(a:Addr)(_E:Env W a)(d:s.size<=8001):
  Calls prog 30 #[.agg #[.int .i64 z,.int .i64 b,.string r,.string s,.int .i64 y]] W (zB W (.bool (qp (ZC z b r) z b r s y))):=jD _ z b r s y W (by omega) (fun c=>JL z b r W c)
theorem zfe(z b:Int)(r s:zY)(y:Int)(W:zW)(a:Addr)(E:Env W a)(c:s.size<=8001):
  Calls prog 8 #[.agg #[.int .i64 z,.int .i64 b,.string r,.string s,.int .i64 y]] W (zB W (jH (ZC z b r) z b r s y)):=zeC _ z b r s y W (by omega) E.hh (zcF z b r W E.vars)
theorem zfI(z b:Int)(r s:zY)(y:Int)(W:zW)(a:Addr)(_E:Env W a)(d:s.size<=8001):
  Calls prog 17 #[.agg #[.int .i64 z,.int .i64 b,.string r,.string s,.int .i64 y]] W (zB W (jH (ZC z b r) z b r s y)):=zeD _ z b r s y W (by omega) (fun c=>JL z b r W c)
theorem zzf(z b:Int)(r s:zY)(y:Int)(W:zW)(a:Addr)(E:Env W a)(c:s.size<=8001):
  Calls prog 25 #[.agg #[.int .i64 z,.int .i64 b,.string r,.string s,.int .i64 y]] W (zB W (zeF (ZC z b r) z b r s y)):=zio _ z b r s y W (by omega) E.hh (zcF z b r W E.vars)
theorem zyS(z b:Int)(r s:zY)(y:Int)(W:zW)(a:Addr)(_E:Env W a)(d:s.size<=8001):
  Calls prog 26 #[.agg #[.int .i64 z,.int .i64 b,.string r,.string s,.int .i64 y]] W (zB W (zeF (ZC z b r) z b r s y)):=zhV _ z b r s y W (by omega) (fun c=>JL z b r W c)
theorem zqa(z b:Int)(r s:zY)(y:Int)(i:Int)(W:zW)(a:Addr)(E:Env W a)(c:s.size<=8001):
  Calls prog 21 #[.agg #[.int .i64 z,.int .i64 b,.string r,.string s,.int .i64 y],.int .i64 i] W (zB W (pieceV (ZC z b r) z b r s y i)):=zkH _ z b r s y i W (by omega) E.hh (zcF z b r W E.vars)
theorem zwr(z b:Int)(r s:zY)(y:Int)(i:Int)(W:zW)(a:Addr)(_E:Env W a)(d:s.size<=8001):
  Calls prog 22 #[.agg #[.int .i64 z,.int .i64 b,.string r,.string s,.int .i64 y],.int .i64 i] W (zB W (pieceV (ZC z b r) z b r s y i)):=pieceOf_spec _ z b r s y i W (by omega) (fun c=>JL z b r W c)
theorem zzv(z b:Int)(r s:zY)(y:Int)(W:zW)(a:Addr)(E:Env W a)(d:s.size<=8001):
  Calls prog 23 #[.agg #[.int .i64 z,.int .i64 b,.string r,.string s,.int .i64 y]] W (zB W (.string (zcW (ZC z b r) (zeb z b r) z b r s y))):=zlS _ _ z b r s y W (by omega) E.hh (zcF z b r W E.vars) (zvo z b r a W E.glob) (fun x c=>zro x c)
theorem zzo(z b:Int)(r s:zY)(y:Int)(W:zW)(c:Addr)(_E:Env W c)(e:s.size<=8001):
  Calls prog 24 #[.agg #[.int .i64 z,.int .i64 b,.string r,.string s,.int .i64 y]] W (zB W (.string (zcW (ZC z b r) (zeb z b r) z b r s y))):=zlj _ _ z b r s y W (by omega) (fun a=>JL z b r W a) (fun a=>zuM z b r W a) (fun x d=>zro x d)
theorem zra(z b:Int)(r s:zY)(y:Int)(W:zW)(a:Addr)(E:Env W a)(c:s.size<=8001):
  Calls prog 19 #[.agg #[.int .i64 z,.int .i64 b,.string r,.string s,.int .i64 y]] W fun e w'=>∃u,e=.returned u/\zx w' W.heap.size u (zaX (ZC z b r) z b r s y)/\Below W.heap.size W w':=zpG _ z b r s y W (by omega) E.hh (zcF z b r W E.vars)
theorem zx2(z b:Int)(r s:zY)(y:Int)(W:zW)(a:Addr)(_E:Env W a)(d:s.size<=8001):
  Calls prog 20 #[.agg #[.int .i64 z,.int .i64 b,.string r,.string s,.int .i64 y]] W fun e w'=>∃u,e=.returned u/\zx w' W.heap.size u (zaX (ZC z b r) z b r s y)/\Below W.heap.size W w':=zpq _ z b r s y W (by omega) (fun c=>JL z b r W c)
theorem zyW(z b:Int)(r s:zY)(y:Int)(k:Int)(t:zY)(q:List zY)(v:Value)(base:Nat)(W:zW)(e:Addr)(E:Env W e)(j:s.size<=8001)(l:t.size<=60)(i:q.length<=66)(g:qA W base v q): Calls prog 5 #[.agg #[.int .i64 z,.int .i64 b,.string r,.string s,.int .i64 y],.int .i64 k,.string t,v] W (zB W (zhy (ZC z b r) z b r s y (k,t,q))):=by obtain⟨a,c,h,f,d⟩:=g.strs;exact zj4 (ZC z b r) z b r s y ((k,t,q),v) W (by omega) (by show t.size<=_;omega) (by show q.length<=_;omega) ⟨a,c,h,f,d⟩ E.hh (zcF z b r W E.vars) (ziu z b r)
theorem zzw(z b:Int)(r s:zY)(y:Int)(k:Int)(t:zY)(q:List zY)(v:Value)(base:Nat)(W:zW)(e:Addr)(_E:Env W e)(m:s.size<=8001)(i:t.size<=60)(l:q.length<=66)(g:qA W base v q): Calls prog 15 #[.agg #[.int .i64 z,.int .i64 b,.string r,.string s,.int .i64 y],.int .i64 k,.string t,v] W (zB W (zhy (ZC z b r) z b r s y (k,t,q))):=by obtain⟨a,c,j,f,d⟩:=g.strs;exact zjq (ZC z b r) z b r s y ((k,t,q),v) W (by omega) (by have:=i;show q.length<=_;omega) ⟨a,c,j,f,d⟩ (fun h=>JL z b r W h) (ziu z b r)
theorem zyh(z b:Int)(r:zY)(k:Int)(t:zY)(q:List zY)(v:Value)(base:Nat)(W:zW)(e:Addr)(_E:Env W e)(i:q.length<=66)(f:qA W base v q): Calls prog 31 #[.agg #[.int .i64 z,.int .i64 b,.string r],.int .i64 k,.string t,v] W (zB W (.bool (Qp z b r k t q))):=by obtain⟨a,c,g,h,d⟩:=f.strs;subst g;exact zi3 z b r k t q a c q.length W rfl (by omega) d
theorem zwe(w:zW)(a0:Option Addr)(l S:Nat)(a1:Option Addr)(p ak:Nat)(r0:Row w w.heap.size a0 l)(r1:Row w w.heap.size a1 p)(ca:l<=1048576)(hg:p<=1048576)(s:Addr)(E:Env w s):
  Calls prog 3 #[.slice a0 l S,.slice a1 p ak] w (zB w (.bool true)):=by
 have g0:(l:Int)<=1048576:=by omega
 have g1:(p:Int)<=1048576:=by omega
 have f0:¬(1048576:Int)<l:=by omega
 have f1:¬(1048576:Int)<p:=by omega
 have d0:decide ((1048576:Int)<l)=false:=by simp;omega
 have d1:decide ((1048576:Int)<p)=false:=by simp;omega
 have R0:=za r0;have R1:=za r1;have v:=za E;clear r0 r1 E;go_enter func3,ntmps3
 go_wp2_with fail
 refine(zha a0 l S _ ca R0.o ofC pcC).mono ?_;rintro e w1 ⟨O,L,M,sk,yk,k,t,pv,q,rfl,hn,ht,hq,ho,a⟩;have C1:=za (((Cx.nil w).call a).new (zK O L M sk yk));have O1:=za (ho.below (jT (Eb _ w1) (zK O L M sk yk)));obtain⟨ap,cp,hv,_,_⟩:=ho.strs;subst hv;clear a ho
 go_upto_region 4 with fail
 generalize w1.alloc _=W1 at C1 O1 ⊢;generalize w1.heap.size=g5 at C1 ⊢;generalize w.heap.size=ob at O1;generalize ia:q.length=qn at hq O1 ⊢;have bm:=za ia;clear ia;obtain⟨c0,c1,c2,c3,c4⟩:=zo (C1.o.get 0 rfl);obtain⟨K,bx,G,Q,R,cx,ce,al⟩:=zve (ZC O L M) O L M sk yk (k,t,q)
 have it:Hid (∀W,Below W1.heap.size W1 W->Calls prog 5 #[.agg #[.int .i64 O,.int .i64 L,.string M,.string sk,.int .i64 yk],.int .i64 k,.string t,.slice ap qn cp] W (zB W (.agg #[.int .i64 K,.int .i64 bx,.string G,.string Q,.int .i64 R,.int .i64 cx]))):=fun W b=>by rw[<-al];exact zyW O L M sk yk k t q _ ob W s (v.o.keep (zi C1.o.low b)) hn ht (by rw[bm.o];exact hq) (O1.o.below b)
 have iu:Hid (∀W,Below W1.heap.size W1 W->Calls prog 15 #[.agg #[.int .i64 O,.int .i64 L,.string M,.string sk,.int .i64 yk],.int .i64 k,.string t,.slice ap qn cp] W (zB W (.agg #[.int .i64 K,.int .i64 bx,.string G,.string Q,.int .i64 R,.int .i64 cx]))):=fun W b=>by rw[<-al];exact zzw O L M sk yk k t q _ ob W s (v.o.keep (zi C1.o.low b)) hn ht (by rw[bm.o];exact hq) (O1.o.below b)
 have ck:Hid (zhy (ZC O L M) O L M sk yk (k,t,q)=koV K bx G Q R cx):=al;clear al
 go_wp2_with fail
 refine(it.o _ (Eb _ _)).mono ?_;rintro e w2 ⟨rfl,a⟩;have C2:=za ((C1.o.call a).new (zP K bx G Q R cx));have B2:=za (jT a (zP K bx G Q R cx));clear a c0 c1 c2 c3 c4
 go_upto_region 5 with fail
 generalize w2.alloc _=W2 at C2 B2 ⊢;generalize w2.heap.size=g9 at C2 ⊢
 go_wp2_with fail
 refine(zdF a1 p ak _ hg (zbS R1.o C2.o.low) ofC pcC).mono ?_;rintro e v3 ⟨j,i,f,r,F,kc,rfl,i5,je,cm,a⟩;have C3:=za ((C2.o.call a).new (zK j i f r F));have B3:=za (jT (zi B2.o a) (zK j i f r F));clear a C2 B2
 go_upto_region 6 with fail
 generalize v3.alloc _=W3 at C3 B3 ⊢;generalize v3.heap.size=jg at C3 ⊢;obtain⟨sa,ya,j2,gy⟩:=zoE j i f r F kc
 have h1:Hid (∀W,Below W3.heap.size W3 W->Calls prog 7 #[.agg #[.int .i64 j,.int .i64 i,.string f,.string r,.int .i64 F],.int .i64 kc] W (zB W (.agg #[.int .i64 j,.int .i64 i,.string f,.string sa,.int .i64 ya]))):=fun W b=>by rw[<-gy];exact zgF j i f r F kc W (by omega) cm
 have eq:=za gy;clear gy;obtain⟨c0,c1,c2,c3,c4⟩:=zo (C3.o.get 0 rfl)
 go_wp2_with fail
 refine(h1.o _ (Eb _ _)).mono ?_;rintro e v4 ⟨rfl,a⟩;have C4:=za ((C3.o.call a).new (zK j i f sa ya));have B4:=za (jT (zi B3.o a) (zK j i f sa ya));clear a C3 B3 h1 c0 c1 c2 c3 c4
 go_upto_region 7 with fail
 generalize v4.alloc _=W4 at C4 B4 ⊢;generalize v4.heap.size=jh at C4 ⊢
 have ib:sa.size<=8001:=by omega
 obtain⟨P,yd,j3,gz⟩:=zer (ZC j i f) j i f sa ya
 have h3:Hid (∀W,Below W4.heap.size W4 W->Calls prog 8 #[.agg #[.int .i64 j,.int .i64 i,.string f,.string sa,.int .i64 ya]] W (zB W (.agg #[.int .i64 j,.int .i64 i,.string f,.string P,.int .i64 yd]))):=fun W b=>by rw[<-gz];exact zfe j i f sa ya W s (v.o.keep (zi C4.o.low b)) ib
 have er:=za gz;clear gz;obtain⟨c0,c1,c2,c3,c4⟩:=zo (C4.o.get 0 rfl)
 go_wp2_with fail
 refine(h3.o _ (Eb _ _)).mono ?_;rintro e v5 ⟨rfl,a⟩;have C5:=za ((C4.o.call a).new (zK j i f P yd));have B5:=za (jT (zi B4.o a) (zK j i f P yd));clear a C4 B4 h3 c0 c1 c2 c3 c4
 go_upto_region 8 with fail
 generalize v5.alloc _=W5 at C5 B5 ⊢;generalize v5.heap.size=ji at C5 ⊢
 have ic:P.size<=8001:=by omega
 go_wp2_with fail
 refine(zg8 a0 l S _ ca (zbS R0.o C5.o.low) ofC pcC).mono ?_;rintro e v6 ⟨ze,be,re,se,ye,rfl,id,a⟩;have C6:=za ((C5.o.call a).new (zK ze be re se ye));have B6:=za (jT (zi B5.o a) (zK ze be re se ye));clear a C5 B5
 go_upto_region 9 with fail
 generalize v6.alloc _=W6 at C6 B6 ⊢;generalize v6.heap.size=jj at C6 ⊢
 go_wp2_with fail
 refine(zho a1 p ak _ hg (zbS R1.o C6.o.low) ofC pcC).mono ?_;rintro e v7 ⟨B,y,z,H,I,rfl,aq,a⟩;have C7:=za ((C6.o.call a).new (zK B y z H I));have B7:=za (jT (zi B6.o a) (zK B y z H I));clear a C6 B6
 go_upto_region 10 with fail
 generalize v7.alloc _=W7 at C7 B7 ⊢;generalize v7.heap.size=jk at C7 ⊢
 go_wp2_with fail
 refine(zhl a0 l S _ ca (zbS R0.o C7.o.low) ofC pcC).mono ?_;rintro e v8 ⟨zp,bp,rp,sp,yp,kp,rfl,ig,_,_,a⟩;have C8:=za ((C7.o.call a).new (zK zp bp rp sp yp));have B8:=za (jT (zi B7.o a) (zK zp bp rp sp yp));clear a C7 B7
 go_upto_region 11 with fail
 generalize v8.alloc _=W8 at C8 B8 ⊢;generalize v8.heap.size=jl at C8 ⊢
 go_wp2_with fail
 refine(zhk a1 p ak _ hg (zbS R1.o C8.o.low) ofC pcC).mono ?_;rintro e v9 ⟨zs,bs,rs,ss,ys,rfl,ih,a⟩;have C9:=za ((C8.o.call a).new (zK zs bs rs ss ys));have B9:=za (jT (zi B8.o a) (zK zs bs rs ss ys));clear a C8 B8
 go_upto_region 12 with fail
 generalize v9.alloc _=W9 at C9 B9 ⊢;generalize v9.heap.size=jm at C9 ⊢
 go_wp2_with fail
 refine(zhu a0 l S _ ca (zbS R0.o C9.o.low) ofC pcC).mono ?_;rintro e il ⟨zl,bl,rl,rfl,a⟩;have c:=za ((C9.o.call a).new (zL zl bl rl));have eg:=za (jT (zi B9.o a) (zL zl bl rl));clear a C9 B9
 go_upto_region 13 with fail
 generalize il.alloc _=g at c eg ⊢;generalize il.heap.size=jn at c ⊢
 have iy:Hid (cx=0->qp (ZC K bx G) K bx G Q R=true):=fun hc=>by
  obtain⟨q1,q2,q3,q4,q5,ha⟩:=added ck.o hc;rw[q1,q2,q3,q4,q5];exact ha.right
 have BX:Hid (Below W1.heap.size W1 g):=eg.o
 have Q1:Hid (∀W,Below g.heap.size g W->Calls prog 15 #[.agg #[.int .i64 O,.int .i64 L,.string M,.string sk,.int .i64 yk],.int .i64 k,.string t,.slice ap qn cp] W (zB W (.agg #[.int .i64 K,.int .i64 bx,.string G,.string Q,.int .i64 R,.int .i64 cx]))):=fun W b=>by exact iu.o W (zi (by exact BX.o) b)
 have Q2:Hid (∀W,Below g.heap.size g W->Calls prog 14 #[.agg #[.int .i64 K,.int .i64 bx,.string G,.string Q,.int .i64 R,.int .i64 cx],.agg #[.int .i64 K,.int .i64 bx,.string G,.string Q,.int .i64 R,.int .i64 cx]] W (zB W (.bool true))):=fun W b=>by exact zob K bx G Q R cx W ce iy.o
 have Q3:Hid (∀W,Below g.heap.size g W->Calls prog 16 #[.agg #[.int .i64 j,.int .i64 i,.string f,.string r,.int .i64 F],.int .i64 kc] W (zB W (.agg #[.int .i64 j,.int .i64 i,.string f,.string sa,.int .i64 ya]))):=fun W b=>by rw[<-eq.o];exact JK j i f r F kc W (by omega) cm
 have Q4:Hid (∀W,Below g.heap.size g W->Calls prog 17 #[.agg #[.int .i64 j,.int .i64 i,.string f,.string sa,.int .i64 ya]] W (zB W (.agg #[.int .i64 j,.int .i64 i,.string f,.string P,.int .i64 yd]))):=fun W b=>by rw[<-er.o];exact zfI j i f sa ya W s (v.o.keep (zi c.o.low b)) ib
 obtain⟨ik,ip,jf,g6⟩:=zer (ZC ze be re) ze be re se ye
 have Q5:Hid (∀W,Below g.heap.size g W->Calls prog 8 #[.agg #[.int .i64 ze,.int .i64 be,.string re,.string se,.int .i64 ye]] W (zB W (.agg #[.int .i64 ze,.int .i64 be,.string re,.string ik,.int .i64 ip]))):=fun W b=>by rw[<-g6];exact zfe ze be re se ye W s (v.o.keep (zi c.o.low b)) id
 have Q6:Hid (∀W,Below g.heap.size g W->Calls prog 17 #[.agg #[.int .i64 ze,.int .i64 be,.string re,.string se,.int .i64 ye]] W (zB W (.agg #[.int .i64 ze,.int .i64 be,.string re,.string ik,.int .i64 ip]))):=fun W b=>by rw[<-g6];exact zfI ze be re se ye W s (v.o.keep (zi c.o.low b)) id
 obtain⟨tp,cq,g8⟩:=zn7 (ZC zp bp rp) zp bp rp sp yp kp
 have Q7:Hid (∀W,Below g.heap.size g W->Calls prog 21 #[.agg #[.int .i64 zp,.int .i64 bp,.string rp,.string sp,.int .i64 yp],.int .i64 kp] W (zB W (.agg #[.string tp,.int .i64 0,.int .i64 cq]))):=fun W b=>by rw[<-g8];exact zqa zp bp rp sp yp kp W s (v.o.keep (zi c.o.low b)) ig
 have Q8:Hid (∀W,Below g.heap.size g W->Calls prog 22 #[.agg #[.int .i64 zp,.int .i64 bp,.string rp,.string sp,.int .i64 yp],.int .i64 kp] W (zB W (.agg #[.string tp,.int .i64 0,.int .i64 cq]))):=fun W b=>by rw[<-g8];exact zwr zp bp rp sp yp kp W s (v.o.keep (zi c.o.low b)) ig
 obtain⟨oh,hl⟩:∃oh,oh=zcW (ZC B y z) (zeb B y z) B y z H I:=⟨_,rfl⟩
 have Q9:Hid (∀W,Below g.heap.size g W->Calls prog 23 #[.agg #[.int .i64 B,.int .i64 y,.string z,.string H,.int .i64 I]] W (zB W (.string oh))):=fun W b=>by rw[hl];exact zzv B y z H I W s (v.o.keep (zi c.o.low b)) aq
 have es:Hid (∀W,Below g.heap.size g W->Calls prog 24 #[.agg #[.int .i64 B,.int .i64 y,.string z,.string H,.int .i64 I]] W (zB W (.string oh))):=fun W b=>by rw[hl];exact zzo B y z H I W s (v.o.keep (zi c.o.low b)) aq
 obtain⟨iq,he⟩:=zqj (ZC zs bs rs) zs bs rs ss ys
 have et:Hid (∀W,Below g.heap.size g W->Calls prog 25 #[.agg #[.int .i64 zs,.int .i64 bs,.string rs,.string ss,.int .i64 ys]] W (zB W (.agg #[.int .i64 zs,.int .i64 bs,.string rs,.string ss,.int .i64 iq]))):=fun W b=>by rw[<-he];exact zzf zs bs rs ss ys W s (v.o.keep (zi c.o.low b)) ih
 have eu:Hid (∀W,Below g.heap.size g W->Calls prog 26 #[.agg #[.int .i64 zs,.int .i64 bs,.string rs,.string ss,.int .i64 ys]] W (zB W (.agg #[.int .i64 zs,.int .i64 bs,.string rs,.string ss,.int .i64 iq]))):=fun W b=>by rw[<-he];exact zyS zs bs rs ss ys W s (v.o.keep (zi c.o.low b)) ih
 obtain⟨zn,bn,rn,g7⟩:=zvB zl bl rl
 have ev:Hid (∀W,Below g.heap.size g W->Calls prog 27 #[.agg #[.int .i64 zl,.int .i64 bl,.string rl]] W (zB W (.agg #[.int .i64 zn,.int .i64 bn,.string rn,.string ⟨#[]⟩,.int .i64 0]))):=fun W b=>by rw[<-g7];exact zjK zl bl rl W
 have ew:Hid (∀W,Below g.heap.size g W->Calls prog 28 #[.agg #[.int .i64 zl,.int .i64 bl,.string rl]] W (zB W (.agg #[.int .i64 zn,.int .i64 bn,.string rn,.string ⟨#[]⟩,.int .i64 0]))):=fun W b=>by rw[<-g7];exact zkL zl bl rl W
 obtain⟨kh,hf⟩:∃kh,kh=qp (ZC B y z) B y z H I:=⟨_,rfl⟩
 have ex:Hid (∀W,Below g.heap.size g W->Calls prog 29 #[.agg #[.int .i64 B,.int .i64 y,.string z,.string H,.int .i64 I]] W (zB W (.bool kh))):=fun W b=>by rw[hf];exact zrk B y z H I W s (v.o.keep (zi c.o.low b)) aq
 have ey:Hid (∀W,Below g.heap.size g W->Calls prog 30 #[.agg #[.int .i64 B,.int .i64 y,.string z,.string H,.int .i64 I]] W (zB W (.bool kh))):=fun W b=>by rw[hf];exact zpE B y z H I W s (v.o.keep (zi c.o.low b)) aq
 obtain⟨lh,cb⟩:∃lh,lh=zaX (ZC B y z) B y z H I:=⟨_,rfl⟩
 have h5:Hid (∀W,Below g.heap.size g W->Calls prog 19 #[.agg #[.int .i64 B,.int .i64 y,.string z,.string H,.int .i64 I]] W fun e w'=>∃u,e=.returned u/\zx w' W.heap.size u lh/\Below W.heap.size W w'):=fun W b=>by rw[cb];exact zra B y z H I W s (v.o.keep (zi c.o.low b)) aq
 have h6:Hid (∀W,Below g.heap.size g W->Calls prog 20 #[.agg #[.int .i64 B,.int .i64 y,.string z,.string H,.int .i64 I]] W fun e w'=>∃u,e=.returned u/\zx w' W.heap.size u lh/\Below W.heap.size W w'):=fun W b=>by rw[cb];exact zx2 B y z H I W s (v.o.keep (zi c.o.low b)) aq
 have iv:Hid (lh.length<=1048576):=by show lh.length<=1048576;rw[cb];exact zet _ B y z H I (by omega)
 have cd:=zwc
 have ja:∀x:zY,(x.toList != x.toList)=false:=fun x=>by simp
 have jb:∀x:Bool,(x != x)=false:=fun x=>by simp
 clear g6 g8 hl he g7 hf cb;obtain⟨cs,ct,cu⟩:=zk (c.o.get 0 rfl);have ez:=fun d os=>cell_regrown cs d os;have e0:=fun d os=>cell_regrown ct d os;have e1:=fun d os=>cell_regrown cu d os;clear cs ct cu;obtain⟨cv,cw,cy,cz,c5⟩:=cells5 (c.o.get 1 rfl);have e2:=fun d os=>cell_regrown cv d os;have e3:=fun d os=>cell_regrown cw d os;have e8:=fun d os=>cell_regrown cy d os;have e9:=fun d os=>cell_regrown cz d os;have fa:=fun d os=>cell_regrown c5 d os;clear cv cw cy cz c5;obtain⟨c6,c7,c8,c9,da⟩:=cells5 (c.o.get 2 rfl);have fb:=fun d os=>cell_regrown c6 d os;have fc:=fun d os=>cell_regrown c7 d os;have fd:=fun d os=>cell_regrown c8 d os;have fe:=fun d os=>cell_regrown c9 d os;have ff:=fun d os=>cell_regrown da d os;clear c6 c7 c8 c9 da;obtain⟨db,dc,dd,de,df⟩:=cells5 (c.o.get 3 rfl);have fg:=fun d os=>cell_regrown db d os;have fh:=fun d os=>cell_regrown dc d os;have fi:=fun d os=>cell_regrown dd d os;have fj:=fun d os=>cell_regrown de d os;have fk:=fun d os=>cell_regrown df d os;clear db dc dd de df;obtain⟨dh,di,dj,dk,dl⟩:=cells5 (c.o.get 4 rfl);have fl:=fun d os=>cell_regrown dh d os;have fm:=fun d os=>cell_regrown di d os;have fn:=fun d os=>cell_regrown dj d os;have fo:=fun d os=>cell_regrown dk d os;have fp:=fun d os=>cell_regrown dl d os;clear dh di dj dk dl;obtain⟨dm,dn,dp,dr,ds⟩:=cells5 (c.o.get 5 rfl);have fq:=fun d os=>cell_regrown dm d os;have fs:=fun d os=>cell_regrown dn d os;have ft:=fun d os=>cell_regrown dp d os;have fu:=fun d os=>cell_regrown dr d os;have fv:=fun d os=>cell_regrown ds d os;clear dm dn dp dr ds;obtain⟨dt,du,dv,dw,dx⟩:=cells5 (c.o.get 6 rfl);have fw:=fun d os=>cell_regrown dt d os;have fx:=fun d os=>cell_regrown du d os;have fy:=fun d os=>cell_regrown dv d os;have fz:=fun d os=>cell_regrown dw d os;have f3:=fun d os=>cell_regrown dx d os;clear dt du dv dw dx;obtain⟨dy,dz,d2,d3,d4⟩:=cells5 (c.o.get 7 rfl);have f4:=fun d os=>cell_regrown dy d os;have f5:=fun d os=>cell_regrown dz d os;have f6:=fun d os=>cell_regrown d2 d os;have f7:=fun d os=>cell_regrown d3 d os;have f8:=fun d os=>cell_regrown d4 d os;clear dy dz d2 d3 d4;obtain⟨d5,d6,d7,d8,d9,ea⟩:=cells6 (c.o.get 8 rfl);have f9:=fun d os=>cell_regrown d5 d os;have gb:=fun d os=>cell_regrown d6 d os;have gc:=fun d os=>cell_regrown d7 d os;have gd:=fun d os=>cell_regrown d8 d os;have gf:=fun d os=>cell_regrown d9 d os;have gg:=fun d os=>cell_regrown ea d os;clear d5 d6 d7 d8 d9 ea;obtain⟨eb,ec,ed,ee,ef⟩:=cells5 (c.o.get 9 rfl);have gh:=fun d os=>cell_regrown eb d os;have gi:=fun d os=>cell_regrown ec d os;have gj:=fun d os=>cell_regrown ed d os;have gl:=fun d os=>cell_regrown ee d os;have gm:=fun d os=>cell_regrown ef d os;clear eb ec ed ee ef;refine Qs.zlL (by simp only[List.append];exact rfl) ?_;refine Qs.zbo (0 :: 1 :: 2 :: 3 :: 4 :: 5 :: 6 :: 7 :: 8 :: 9 :: 10 :: 11 :: 12 :: 13 :: 14 :: 15 :: 16 :: 17 :: 18 :: 19 :: 20 :: 21 :: 22 :: 24 :: 23 :: 25 :: 26 :: 27 :: 28 :: 29 :: 31 :: 30 :: 32 :: 33 :: 34 :: 35 :: 36 :: 37 :: 38 :: 40 :: 41 :: 39 :: 42 :: 43 :: 44 :: 45 :: 46 :: 48 :: 47 :: 49 :: 50 :: 51 :: 52 :: 53 :: 55 :: 54 :: 56 :: 57 :: 58 :: 59 :: 60 :: 62 :: 61 :: 63 :: 64 :: 65 :: 66 :: 67 :: 69 :: 68 :: 70 :: 71 :: 72 :: []) cd (by kernel_rfl) ?_;intro wk D
 repeat (first
  |(refine Qs.za0 _ rfl rfl ?_;go_big_quiet_step (fail);refine Ld ?_)
  |(refine Qs.zd9 D _ rfl rfl ?_;go_big_quiet_step ((first|(go_at_call 15;(with_reducible exact Calls.regrown_of (Q1.o _ (below_regrown _ _ _))))|(go_at_call 14;(with_reducible exact Calls.regrown_of (Q2.o _ (below_regrown _ _ _))))|(go_at_call 16;(with_reducible exact Calls.regrown_of (Q3.o _ (below_regrown _ _ _))))|(go_at_call 17;(with_reducible exact Calls.regrown_of (Q4.o _ (below_regrown _ _ _))))|(go_at_call 8;(with_reducible exact Calls.regrown_of (Q5.o _ (below_regrown _ _ _))))|(go_at_call 17;(with_reducible exact Calls.regrown_of (Q6.o _ (below_regrown _ _ _))))|(go_at_call 21;(with_reducible exact Calls.regrown_of (Q7.o _ (below_regrown _ _ _))))|(go_at_call 22;(with_reducible exact Calls.regrown_of (Q8.o _ (below_regrown _ _ _))))|(go_at_call 23;(with_reducible exact Calls.regrown_of (Q9.o _ (below_regrown _ _ _))))|(go_at_call 24;(with_reducible exact Calls.regrown_of (es.o _ (below_regrown _ _ _))))|(go_at_call 25;(with_reducible exact Calls.regrown_of (et.o _ (below_regrown _ _ _))))|(go_at_call 26;(with_reducible exact Calls.regrown_of (eu.o _ (below_regrown _ _ _))))|(go_at_call 27;(with_reducible exact Calls.regrown_of (ev.o _ (below_regrown _ _ _))))|(go_at_call 28;(with_reducible exact Calls.regrown_of (ew.o _ (below_regrown _ _ _))))|(go_at_call 29;(with_reducible exact Calls.regrown_of (ex.o _ (below_regrown _ _ _))))|(go_at_call 30;(with_reducible exact Calls.regrown_of (ey.o _ (below_regrown _ _ _))))));refine Ld ?_;clear D wk;intro wk D))
 have ek:=za (Qs.zdd D);refine Qs.zbw [.agg #[.int .i64 B,.int .i64 y,.string z,.string H,.int .i64 I]] rfl rfl rfl func19 (by kernel_rfl) (by kernel_rfl) (by kernel_rfl) rfl ?_;refine(h5.o wk ek.o).mono ?_;rintro e hs ⟨u1,rfl,ao,a⟩;have bi:=za (zi ek.o a);obtain⟨i1,n1,cg,jr,ii⟩:=ao.ints;subst cg;have h4:=za ao;clear a ao ii D;refine⟨_,rfl,regrown_of_below bi.o,?_⟩;refine Qs.zdh (by simp only[Mv,Oo,Mj];exact rfl) (show _=[] from rfl) ?_;refine Qs.zbw [.agg #[.int .i64 B,.int .i64 y,.string z,.string H,.int .i64 I]] rfl rfl rfl func20 (by kernel_rfl) (by kernel_rfl) (by kernel_rfl) rfl ?_;refine(h6.o hs bi.o).mono ?_;rintro e cj ⟨u2,rfl,au,a⟩;have el:=za (zi bi.o a);obtain⟨i2,n2,ci,js,co⟩:=au.ints;subst ci;have hy:=za (So.zlW lh i1 i2 n1 n2 _ _ cj (by obtain⟨a',c',hv,_,i6⟩:=(h4.o.below a).ints;simp at hv;obtain⟨rfl,rfl⟩:=hv;exact i6) co iv.o);clear a au co;refine⟨_,rfl,regrown_of_below el.o,?_⟩;refine Qs.zdh (by simp only[Mv,Oo,Mj];exact rfl) (show _=[] from rfl) ?_;refine Qs.zbw [.slice i1 lh.length n1,.slice i2 lh.length n2] rfl rfl rfl func18 (by kernel_rfl) (by kernel_rfl) (by kernel_rfl) rfl ?_;refine hy.o.mono ?_;rintro e io ⟨rfl,qd,cr⟩;have em:=za (zi el.o (show Below cj.heap.size cj io by rw[cr];exact zrh _ _));refine⟨_,rfl,regrown_of_below em.o,?_⟩;have D:=regrown_of_below em.o;clear cr hy h4;refine Qs.zdh (by simp only[Mv,Oo,Mj];exact rfl) (show _=[] from rfl) ?_;generalize i7:io=wk at D ⊢;clear i7 em
 repeat (first
  |(refine Qs.za0 _ rfl rfl ?_;go_big_quiet_step (fail);refine Ld ?_)
  |(refine Qs.zd9 D _ rfl rfl ?_;go_big_quiet_step ((first|(go_at_call 15;(with_reducible exact Calls.regrown_of (Q1.o _ (below_regrown _ _ _))))|(go_at_call 14;(with_reducible exact Calls.regrown_of (Q2.o _ (below_regrown _ _ _))))|(go_at_call 16;(with_reducible exact Calls.regrown_of (Q3.o _ (below_regrown _ _ _))))|(go_at_call 17;(with_reducible exact Calls.regrown_of (Q4.o _ (below_regrown _ _ _))))|(go_at_call 8;(with_reducible exact Calls.regrown_of (Q5.o _ (below_regrown _ _ _))))|(go_at_call 17;(with_reducible exact Calls.regrown_of (Q6.o _ (below_regrown _ _ _))))|(go_at_call 21;(with_reducible exact Calls.regrown_of (Q7.o _ (below_regrown _ _ _))))|(go_at_call 22;(with_reducible exact Calls.regrown_of (Q8.o _ (below_regrown _ _ _))))|(go_at_call 23;(with_reducible exact Calls.regrown_of (Q9.o _ (below_regrown _ _ _))))|(go_at_call 24;(with_reducible exact Calls.regrown_of (es.o _ (below_regrown _ _ _))))|(go_at_call 25;(with_reducible exact Calls.regrown_of (et.o _ (below_regrown _ _ _))))|(go_at_call 26;(with_reducible exact Calls.regrown_of (eu.o _ (below_regrown _ _ _))))|(go_at_call 27;(with_reducible exact Calls.regrown_of (ev.o _ (below_regrown _ _ _))))|(go_at_call 28;(with_reducible exact Calls.regrown_of (ew.o _ (below_regrown _ _ _))))|(go_at_call 29;(with_reducible exact Calls.regrown_of (ex.o _ (below_regrown _ _ _))))|(go_at_call 30;(with_reducible exact Calls.regrown_of (ey.o _ (below_regrown _ _ _))))));refine Ld ?_;clear D wk;intro wk D))
 refine Qs.step_end ?_;have eh:=za (Qs.zdd D);have C:=za (c.o.call eh.o);clear D ez e0 e1 e2 e3 e8 e9 fa fb fc fd fe ff fg fh fi fj fk fl fm fn fo fp fq fs ft fu fv fw fx fy fz f3 f4 f5 f6 f7 f8 f9 gb gc gd gf gg gh gi gj gl gm Q1 Q2 Q3 Q4 Q5 Q6 Q7 Q8 Q9 es et eu ev ew ex ey h5 h6 ek bi el eg c
 go_upto_region 15 with fail
 try go_wp2_with fail
 go_cut [178] from 137 to 177 (fun ij wx=>ij=.bool false/\Below wk.heap.size wk wx)
 case first=>
  by_cases h7:cx=0
  ·subst h7
   obtain⟨q1,q2,q3,q4,q5,ha⟩:=added ck.o rfl;have BW:Hid (Below W1.heap.size W1 wk):=zi BX.o eh.o
   have Z1:Hid (∀W,Below wk.heap.size wk W->Calls prog 21 #[.agg #[.int .i64 K,.int .i64 bx,.string G,.string Q,.int .i64 R],.int .i64 k] W (zB W (.agg #[.string t,.int .i64 0,.int .i64 0]))):=fun W b=>by
    have h:=zqa K bx G Q R k W s (v.o.keep (zi C.o.low b)) ce;rw[q1,q2,q3,q4,q5]at h ⊢;have h2:=ha.piece;dsimp only at h2;rw[h2]at h;exact h
   have Z2:Hid (∀W,Below wk.heap.size wk W->Calls prog 5 #[.agg #[.int .i64 K,.int .i64 bx,.string G,.string Q,.int .i64 R],.int .i64 k,.string t,.slice ap qn cp] W (zB W (.agg #[.int .i64 0,.int .i64 0,.string ⟨#[]⟩,.string ⟨#[]⟩,.int .i64 0,.int .i64 7]))):=fun W b=>by
    have h:=zyW K bx G Q R k t q _ ob W s (v.o.keep (zi C.o.low b)) ce ht (by rw[bm.o];exact hq) (O1.o.below (zi BW.o b));rw[q1,q2,q3,q4,q5]at h ⊢;rw[ha.there]at h;exact h
   have Z3:Hid (∀W,Below wk.heap.size wk W->Calls prog 31 #[.agg #[.int .i64 O,.int .i64 L,.string M],.int .i64 k,.string t,.slice ap qn cp] W (zB W (.bool true))):=fun W b=>by
    have h:=zyh O L M k t q _ ob W s (v.o.keep (zi C.o.low b)) (by rw[bm.o];exact hq) (O1.o.below (zi BW.o b));have h2:=ha.fits;dsimp only at h2;rw[h2]at h;exact h
   obtain⟨lx,hi⟩:∃lx,lx=zaX (ZC K bx G) K bx G Q R:=⟨_,rfl⟩;obtain⟨lk,cc⟩:∃lk,lk=zaX (ZC O L M) O L M sk yk:=⟨_,rfl⟩
   have hh:lx.length=lk.length+1:=by
    rw[hi,cc,q1,q2,q3,q4,q5];exact ha.many
   have HB:Hid (lk.length<=1048576):=by show lk.length<=1048576;rw[cc];exact zet _ O L M sk yk (by omega)
   have i3:Hid (∀W,Below wk.heap.size wk W->Calls prog 19 #[.agg #[.int .i64 K,.int .i64 bx,.string G,.string Q,.int .i64 R]] W fun e w'=>∃u,e=.returned u/\zx w' W.heap.size u lx/\Below W.heap.size W w'):=fun W b=>by rw[hi];exact zra K bx G Q R W s (v.o.keep (zi C.o.low b)) ce
   have i4:Hid (∀W,Below wk.heap.size wk W->Calls prog 19 #[.agg #[.int .i64 O,.int .i64 L,.string M,.string sk,.int .i64 yk]] W fun e w'=>∃u,e=.returned u/\zx w' W.heap.size u lk/\Below W.heap.size W w'):=fun W b=>by rw[cc];exact zra O L M sk yk W s (v.o.keep (zi C.o.low b)) hn
   clear q1 q2 q3 q4 q5 ha hi cc;generalize h9:lk.length=nk at hh HB;have iw:=za h9;have ix:=za hh;have jt:=HB.o;have jq:=zyb
   have j1:IntKind.i64.wrap ((nk:Int)+1)=(nk:Int)+1:=by rw[E1];omega
   have ju:(((nk:Int)+1) != ((nk:Int)+1))=false:=by simp
   have jp:(((nk+1:Nat)):Int)=(nk:Int)+1:=by omega
   clear h9 hh HB;obtain⟨X,Y,Z,aa,ab,ac⟩:=cells6 (C.o.get 8 rfl);have gn:=fun d os=>cell_regrown X d os;have go:=fun d os=>cell_regrown Y d os;have gp:=fun d os=>cell_regrown Z d os;have gq:=fun d os=>cell_regrown aa d os;have gr:=fun d os=>cell_regrown ab d os;have gs:=fun d os=>cell_regrown ac d os;clear X Y Z aa ab ac;obtain⟨ad,ae,af,ag,ah⟩:=cells5 (C.o.get 9 rfl);have gt:=fun d os=>cell_regrown ad d os;have gu:=fun d os=>cell_regrown ae d os;have gv:=fun d os=>cell_regrown af d os;have gw:=fun d os=>cell_regrown ag d os;have gx:=fun d os=>cell_regrown ah d os;clear ad ae af ag ah;refine Qs.zbo (0 :: 1 :: 2 :: 3 :: 4 :: 5 :: 6 :: 8 :: 9 :: 7 :: 10 :: 11 :: 12 :: 13 :: 14 :: 15 :: 16 :: 17 :: 18 :: 19 :: 20 :: 21 :: 22 :: 23 :: 24 :: 25 :: 26 :: 27 :: 28 :: 29 :: 30 :: 31 :: 32 :: 35 :: 33 :: 34 :: 36 :: 37 :: 38 :: 39 :: 40 :: 41 :: []) cd (by kernel_rfl) ?_;intro wm D
   repeat (first
   |(refine Qs.za0 _ rfl rfl ?_;go_big_quiet_step (fail);refine Ld ?_)
   |(refine Qs.zd9 D _ rfl rfl ?_;go_big_quiet_step ((first|(go_at_call 21;(with_reducible exact Calls.regrown_of (Z1.o _ (below_regrown _ _ _))))|(go_at_call 5;(with_reducible exact Calls.regrown_of (Z2.o _ (below_regrown _ _ _))))|(go_at_call 31;(with_reducible exact Calls.regrown_of (Z3.o _ (below_regrown _ _ _))))));refine Ld ?_;clear D wm;intro wm D))
   have hx:=za (Qs.zdd D);refine Qs.zbw [.agg #[.int .i64 K,.int .i64 bx,.string G,.string Q,.int .i64 R]] rfl rfl rfl func19 (by kernel_rfl) (by kernel_rfl) (by kernel_rfl) rfl ?_;refine(i3.o _ hx.o).mono ?_;rintro e hs ⟨u1,rfl,ao,a⟩;have eo:=za (zi hx.o a);obtain⟨i1,n1,cg,_,_⟩:=ao.ints;rw[ix.o]at cg;subst cg;clear a ao D;refine⟨_,rfl,regrown_of_below eo.o,?_⟩;refine Qs.zdh (by simp only[Mv,Oo,Mj];exact rfl) (show _=[] from rfl) ?_
   repeat (refine Qs.za0 _ rfl rfl ?_;go_big_quiet_step (fail);refine Ld ?_)
   refine Qs.zbw [.agg #[.int .i64 O,.int .i64 L,.string M,.string sk,.int .i64 yk]] rfl rfl rfl func19 (by kernel_rfl) (by kernel_rfl) (by kernel_rfl) rfl ?_;refine(i4.o hs eo.o).mono ?_;rintro e cj ⟨u2,rfl,au,a⟩;have ep:=za (zi eo.o a);obtain⟨i2,n2,ci,_,_⟩:=au.ints;rw[iw.o]at ci;subst ci;clear a au;refine⟨_,rfl,regrown_of_below ep.o,?_⟩;have D:=regrown_of_below ep.o;refine Qs.zdh (by simp only[Mv,Oo,Mj];exact rfl) (show _=[] from rfl) ?_;generalize i8:cj=wm at D ⊢;clear i8 ep
   repeat (refine Qs.za0 _ rfl rfl ?_;go_big_quiet_step (fail);refine Ld ?_)
   refine Qs.step_end ?_;have ir:=za (Qs.zdd D);clear D
   try go_wp2_with fail
   go_meet
   exact⟨rfl,ir.o⟩
  ·have jc:(cx==0)=false:=by simpa using h7
   obtain⟨X,Y,Z,aa,ab,ac⟩:=cells6 (C.o.get 8 rfl);have gn:=fun d os=>cell_regrown X d os;have go:=fun d os=>cell_regrown Y d os;have gp:=fun d os=>cell_regrown Z d os;have gq:=fun d os=>cell_regrown aa d os;have gr:=fun d os=>cell_regrown ab d os;have gs:=fun d os=>cell_regrown ac d os;clear X Y Z aa ab ac;obtain⟨ad,ae,af,ag,ah⟩:=cells5 (C.o.get 9 rfl);have gt:=fun d os=>cell_regrown ad d os;have gu:=fun d os=>cell_regrown ae d os;have gv:=fun d os=>cell_regrown af d os;have gw:=fun d os=>cell_regrown ag d os;have gx:=fun d os=>cell_regrown ah d os;clear ad ae af ag ah;refine wp_region_quiet_below cd (by kernel_rfl) ?_
   repeat (go_big_quiet_step (fail))
   refine Ld ?_;intro _ hp;obtain⟨⟨dq,osq⟩,hr⟩:=hp;subst hr;have KQ:=za (below_regrown wk dq osq);generalize Go.Sort.grow (redrawn wk dq) osq=w3 at KQ ⊢
   try go_wp2_with fail
   go_meet
   exact⟨rfl,KQ.o⟩
 case rest=>
  obtain⟨rfl,cl⟩:=hcut;have ai:=za (C.o.call cl);clear cl C eh;obtain⟨c0,c1,c2,c3,c4⟩:=cells5 (ai.o.get 7 rfl);have HR:=za (zpE j i f r F wc s (v.o.keep ai.o.low) i5)
  cases an:qp (ZC j i f) j i f r F with
  |false=>
   rw[an]at HR;clear an
   go_wp2_with fail
   refine HR.o.mono ?_;rintro e i9 ⟨rfl,a⟩;have BF:=za (zi ai.o.low a);clear a
   go_wp2_with fail
   go_ret;exact⟨by first|rfl|simp,BF.o⟩
  |true=>
   rw[an]at HR;have U:=crashed an kc;have V:=crashed an 0;obtain⟨m,hm⟩:∃m,m=Jv (ZC j i f) r F kc:=⟨_,rfl⟩;obtain⟨m0,hj⟩:∃m0,m0=Jv (ZC j i f) r F 0:=⟨_,rfl⟩;have e4:=eq.o.symm.trans U.crash;unfold kV at e4;simp only[Ur,U3,Us,Ut,Sg,and_true,Vi]at e4;have e5:=er.o;rw[e4.1,e4.2,U.back]at e5;unfold kV at e5;simp only[Ur,U3,Us,Ut,Sg,and_true,Vi]at e5;obtain⟨e6,e7⟩:=e5;rw[<-hm]at e6 e7;have cf:=U.size;have h8:=U.le;have aj:=U.more;have o:=U.right;have n:=U.again;have av:=V.size;have cn:=V.le;rw[<-hm]at cf h8 aj o n;rw[<-hj]at av cn aj;rw[e6]at cf o n;rw[e7]at o n
   have bj:Hid (∀W,Calls prog 16 #[.agg #[.int .i64 j,.int .i64 i,.string f,.string r,.int .i64 F],.int .i64 0] W (zB W (.agg #[.int .i64 j,.int .i64 i,.string f,.string (r.extract 0 (qx r F 0)),.int .i64 (qx r F 0:Nat)]))):=fun W=>by
    have h:=JK j i f r F 0 W (by omega) (by decide);rw[V.crash]at h;exact h
   have ar:Hid (∀W,Below wc.heap.size wc W->Calls prog 17 #[.agg #[.int .i64 j,.int .i64 i,.string f,.string (r.extract 0 (qx r F 0)),.int .i64 (qx r F 0:Nat)]] W (zB W (.agg #[.int .i64 j,.int .i64 i,.string f,.string (r.extract 0 m0),.int .i64 (m0:Nat)]))):=fun W b=>by
    have h:=zfI j i f (r.extract 0 (qx r F 0)) (qx r F 0:Nat) W s (v.o.keep (zi ai.o.low b)) (by rw[E9];omega);rw[V.back,<-hj]at h;exact h
   have hz:Hid (∀W,Below wc.heap.size wc W->Calls prog 29 #[.agg #[.int .i64 j,.int .i64 i,.string f,.string P,.int .i64 yd]] W (zB W (.bool true))):=fun W b=>by
    have h:=zrk j i f P yd W s (v.o.keep (zi ai.o.low b)) ic;rw[o]at h;exact h
   have h0:Hid (∀W,Below wc.heap.size wc W->Calls prog 8 #[.agg #[.int .i64 j,.int .i64 i,.string f,.string P,.int .i64 yd]] W (zB W (.agg #[.int .i64 j,.int .i64 i,.string f,.string P,.int .i64 yd]))):=fun W b=>by
    have h:=zfe j i f P yd W s (v.o.keep (zi ai.o.low b)) ic;rw[n]at h;exact h
   generalize r.extract 0 (qx r F 0)=s1 at bj ar;generalize ((qx r F 0:Nat):Int)=y1 at bj ar;obtain⟨so,ie⟩:∃so,so=r.extract 0 m0:=⟨_,rfl⟩;rw[<-ie]at ar av
   have jd:r.extract 0 P.size=P:=by rw[cf];exact e6
   clear an U V e4 e6 e7 o n ie eq er hm hj
   go_wp2_with fail
   refine HR.o.mono ?_;rintro e i9 ⟨rfl,a⟩;have hu:=za a;have en:=za (ai.o.call a);clear a c0 c1 c2 c3 c4 HR;obtain⟨c0,c1,c2,c3,c4⟩:=cells5 (en.o.get 7 rfl)
   go_wp2_with fail
   refine(bj.o _).mono ?_;rintro e j4 ⟨rfl,a⟩;have ej:=za (zi hu.o a);have hw:=za (en.o.call a);clear a hu en c0 c1 c2 c3 c4
   go_wp2_with fail
   refine(ar.o _ ej.o).mono ?_;rintro e im ⟨rfl,a⟩;have am:=za ((hw.o.call a).new (zK j i f so (m0:Nat)));have ei:=za (jT (zi ej.o a) (zK j i f so (m0:Nat)));clear a ej hw
   go_upto_region 20 with fail
   generalize im.alloc _=bo at am ei ⊢;generalize im.heap.size=jo at am ⊢;have iz:=za (fun W (b:Below bo.heap.size bo W)=>hz.o W (zi ei.o b));have i0:=za (fun W (b:Below bo.heap.size bo W)=>h0.o W (zi ei.o b))
   have jv:(P.size:Int)<=(r.size:Int):=by omega
   have jw:(so.size:Int)<=(P.size:Int):=by omega
   have jx:decide ((so.size:Int)<=(P.size:Int))=true:=by simp;omega
   have jy:(P.toList==P.toList)=true:=by simp
   have jz:(f.toList==f.toList)=true:=by simp
   have j0:decide (so.size<=P.size)=true:=by simp;omega
   clear hz h0 ar bj cf av h8 cn aj;obtain⟨a8,a9,bb,bf,bg⟩:=cells5 (am.o.get 0 rfl);have b5:=fun d os=>cell_regrown a8 d os;have b6:=fun d os=>cell_regrown a9 d os;have b7:=fun d os=>cell_regrown bb d os;have b8:=fun d os=>cell_regrown bf d os;have b9:=fun d os=>cell_regrown bg d os;clear a8 a9 bb bf bg;obtain⟨a3,a4,a5,a6,a7⟩:=cells5 (am.o.get 6 rfl);have b0:=fun d os=>cell_regrown a3 d os;have b1:=fun d os=>cell_regrown a4 d os;have b2:=fun d os=>cell_regrown a5 d os;have b3:=fun d os=>cell_regrown a6 d os;have b4:=fun d os=>cell_regrown a7 d os;clear a3 a4 a5 a6 a7;obtain⟨aw,ax,ay,az,a2⟩:=cells5 (am.o.get 8 rfl);have bq:=fun d os=>cell_regrown aw d os;have br:=fun d os=>cell_regrown ax d os;have bu:=fun d os=>cell_regrown ay d os;have bw:=fun d os=>cell_regrown az d os;have bz:=fun d os=>cell_regrown a2 d os;clear aw ax ay az a2;refine wp_region_quiet_below cd (by kernel_rfl) ?_
   repeat (go_big_quiet_step ((first|(go_at_call 29;(with_reducible exact Calls.regrown_of (iz.o _ (below_regrown _ _ _))))|(go_at_call 8;(with_reducible exact Calls.regrown_of (i0.o _ (below_regrown _ _ _)))))))
   refine Ld ?_;intro _ hp;obtain⟨⟨dq,osq⟩,hr⟩:=hp;subst hr;have BF:=za (zi am.o.low (below_regrown bo dq osq));generalize Go.Sort.grow (redrawn bo dq) osq=j5 at BF ⊢;clear b5 b6 b7 b8 b9 b0 b1 b2 b3 b4 bq br bu bw bz
   go_wp2_with fail
   go_ret;exact⟨by first|rfl|simp,BF.o⟩
end fnKeep
end Go.Proofs.YtoojegpaofdbfaaGreatDoor
