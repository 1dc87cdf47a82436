/- Texts put together: PeMark4, PoMark, PoHeld, PoOut, PoEq, KpFits, LsFitsS, KpFit, PeLaw, PoLaw, PmMeetS, PmMeetI, PmMeetT, TkTellS, TkManyS, TkRareS. -/
import Derived.Test.YtpddanmnlkcdpaaGreatDoorTz48
import Derived.Test.YtpddanmnlkcdpaaGreatDoorTz40
import Derived.Test.YtpddanmnlkcdpaaGreatDoorTz45
import Derived.Test.YtpddanmnlkcdpaaGreatDoorTz18
import Derived.Test.YtpddanmnlkcdpaaGreatDoorTz29
import Derived.BigQuiet
import Derived.Deep.QuietTactic
import Derived.Test.YtpddanmnlkcdpaaGreatDoorTz39
import Derived.Test.YtpddanmnlkcdpaaGreatDoorTz44
import Derived.Test.YtpddanmnlkcdpaaGreatDoorTz41
import Derived.Deep.CutBlock
import Derived.Test.YtpddanmnlkcdpaaGreatDoorTz47
set_option maxRecDepth 100000
set_option maxHeartbeats 8000000
namespace Go.Proofs.YtpddanmnlkcdpaaGreatDoor.Pe
open Go.RowKit
open Kp
open Ls (lowL)
theorem Chg.after {lo hi:Nat} {w w1 w2:World} (hb:Below w.heap.size w w1) (h:Chg lo hi w1 w2):Chg lo hi w w2 :=
 ⟨h.os.trans hb.os,h.tape.trans hb.tape,h.output.trans hb.output,Nat.le_trans hb.size h.size,fun k hk ho=>(h.block k (Nat.lt_of_lt_of_le hk hb.size) ho).trans (hb.block k hk)⟩
theorem RowM.call {W W':World} {lo hi:Nat} {v:Value} {m:List MO} (h:RowM W lo hi v m) (hb:Below W.heap.size W W'):RowM W' lo hi v m:=⟨h.row.below hb,h.has.below hb,h.ap,h.inb⟩
theorem MadeO.rowM {W:World} {base:Nat} {v:Value} {m mo:List MO} (h:MadeO W base v m mo):RowM W base W.heap.size v mo :=
 ⟨h.row,h.has,h.ap,fun _ hg=>World.ownsRow.lt h.row _ hg,fun x hx _ hg=>World.ownsRow.lt (h.has x hx) _ hg⟩
theorem markP_any (z b:Int) (r s:ByteArray) (y:Int) (k lo hi:Nat) (v:Value) (m:List MO) (w:World) (h:RowM w lo hi v m) (hn:m.length<=1048576) (hsm:∀ x∈m,x.1.has.length<=1048576) (h0:0<k) (hk:mkE k (oths m)<=1099511627776) :
  Calls Tryz.prog 12 #[peerV z b r s y v,.int .i64 k] w fun e w'=>e=.returned (.int .i64 (mkE k (oths m):Nat))/\(∃ m',oths m'=mkL k (oths m)/\m'.map (·.2)=m.map (·.2)/\RowM w' lo hi v m')/\Chg lo hi w w'/\KeepO w w':=by
 have C0:=hideK ((Cx.nil w).new (peerO z b r s y v))
 have B0:Hid (Below w.heap.size w (w.alloc (peerO z b r s y v))):=(Below.refl _ _).alloc (Nat.le_refl _) _
 have HM:=hideK (fun W (hW:Below w.heap.size w W)=>markOs_any k lo hi v m W (h.call hW) hn hsm h0 hk)
 obtain⟨a,cap,hv,_,_⟩:=h.row.one
 subst hv
 clear h hsm hk
 generalize mkE k (oths m)=E at HM ⊢
 unfold peerV
 unfold peerO at C0 B0
 go_enter Tryz.func12,Tryz.ntmps12
 go_upto_region 1 with fail
 generalize w.alloc _=W0 at C0 B0 ⊢
 obtain⟨p0,p1,p2,p3,p4,p5⟩:=cellsP6 (C0.out.get 0 rfl)
 go_wp2_with fail
 refine(HM.out _ B0.out).mono ?_
 rintro e w1 ⟨rfl,hm,hc,hko⟩
 have H1:=hideK hm
 have C1:=hideK (Chg.after B0.out hc)
 have KO:=hideK (KeepO.after B0.out hko)
 clear hm hc hko
 go_wp2_with fail
 go_ret
 exact⟨rfl,H1.out,C1.out,KO.out⟩
end Go.Proofs.YtpddanmnlkcdpaaGreatDoor.Pe


namespace Go.Proofs.YtpddanmnlkcdpaaGreatDoor.Pl
open Go.RowKit
open Kp
open Pe
open Ls (lowL)
open St (markT markT_any)
def mkS (k:Nat):ML:=(⟨markT k,((k+1:Nat):Int),((k+2:Nat):Int),markT (k+3),[]⟩,.slice none 0 0)
def mkSs (k n:Nat):List ML:=(List.range n).map fun j=>mkS (k+4*j)
theorem mkSs_length (k n:Nat):(mkSs k n).length=n:=by simp[mkSs]
theorem mkSs_get (k n j:Nat) (h:j<(mkSs k n).length):(mkSs k n)[j]=mkS (k+4*j):=by simp[mkSs]
def midS (m:List ML) (k j:Nat):List ML:=mkSs k j++m.drop j
theorem midS_zero (m:List ML) (k:Nat):midS m k 0=m:=by simp[midS,mkSs]
theorem midS_length (m:List ML) (k j:Nat) (h:j<=m.length):(midS m k j).length=m.length:=by simp[midS,mkSs_length];omega
theorem midS_all (m:List ML) (k:Nat):midS m k m.length=mkSs k m.length:=by simp[midS]
theorem midS_next (m:List ML) (k j:Nat) (h:j<m.length):(midS m k j).set j (mkS (k+4*j))=midS m k (j+1):=by
 have hs:mkSs k (j+1)=mkSs k j++[mkS (k+4*j)]:=by simp[mkSs,List.range_succ]
 unfold midS
 rw[List.set_append,if_neg (by rw[mkSs_length];omega),mkSs_length,Nat.sub_self,List.drop_eq_getElem_cons h,List.set_cons_zero,hs,List.append_assoc]
 rfl
theorem cellsL_set4:∀ (m:List ML) (i:Nat) (x:ML) (h:i<m.length),x.2=m[i].2->cellsL (m.set i x)=((((cellsL m).set (i*5) (.string x.1.who)).set (i*5+1) (.int .i64 x.1.kind)).set (i*5+2) (.int .i64 x.1.index)).set (i*5+3) (.string x.1.piece)
 |y :: m,0,x,_,e=>by
  have e':x.2=y.2:=e
  rw[List.set_cons_zero,cellsL,cellsL,e']
  rfl
 |y :: m,i+1,x,h,e=>by
  rw[List.set_cons_succ,cellsL,cellsL,cellsL_set4 m i x (Nat.lt_of_succ_lt_succ h) e,show (i+1)*5=i*5+5 by omega,show i*5+5+1=(i*5+1)+5 by omega,show i*5+5+2=(i*5+2)+5 by omega,show i*5+5+3=(i*5+3)+5 by omega]
  rfl
def NoPath (m:List ML):Prop:=∀ x∈m,x.2=.slice none 0 0/\x.1.path=[]
theorem mkSs_noPath (k n:Nat):NoPath (mkSs k n):=fun x hx=>by
 unfold mkSs at hx
 obtain⟨j,_,rfl⟩:=List.mem_map.1 hx
 exact⟨rfl,rfl⟩
structure RowL (W:World) (lo hi:Nat) (v:Value) (m:List ML):Prop where
 row:OwnL W lo v m
 inb:∀ g,v.ownBlock=some g->lo<=g/\g<hi
 nop:NoPath m
theorem RowL.call {W W':World} {lo hi:Nat} {v:Value} {m:List ML} (h:RowL W lo hi v m) (hb:Below W.heap.size W W'):RowL W' lo hi v m:=⟨h.row.below hb,h.inb,h.nop⟩
theorem markS_nil (a:Option Addr) (c k:Nat) (w:World) :
  Calls Tryz.prog 52 #[.slice a 0 c,.int .i64 k] w fun e w'=>e=.returned (.int .i64 (k:Int))/\w'=w:=by
 go_enter Tryz.func52,Tryz.ntmps52
 go_wp2_with fail
 go_loopw [5,1] (fun i kv wr=>i=.int .i64 0/\kv=.int .i64 (k:Int)/\wr=w) (fun _ _ _=>0)
 case atStart=>exact⟨rfl,rfl,rfl⟩
 case round =>
  obtain⟨rfl,rfl,hw⟩:=hrel
  subst hw
  go_wp2_with fail
  go_ret
  exact⟨rfl,rfl⟩
theorem markS_round {W w1 w5:World} {lo hi g n cap j kj:Nat} {m:List ML} (h:RowL W lo hi (.slice (some ⟨g,0,none⟩) n cap) m) (hn:m.length=n) (hj:j<m.length) (hb1:Below W.heap.size W w1)
  (hb5:Below (((w1.setCell ⟨g,j*5,none⟩ (.string (markT kj))).setCell ⟨g,j*5+1,none⟩ (.int .i64 ((kj+1:Nat):Int))).setCell ⟨g,j*5+2,none⟩ (.int .i64 ((kj+2:Nat):Int))).heap.size (((w1.setCell ⟨g,j*5,none⟩ (.string (markT kj))).setCell ⟨g,j*5+1,none⟩ (.int .i64 ((kj+1:Nat):Int))).setCell ⟨g,j*5+2,none⟩ (.int .i64 ((kj+2:Nat):Int))) w5) :
  (w1.cell? ⟨g,j*5,none⟩=some (.string m[j].1.who)/\w1.frozen? ⟨g,j*5,none⟩=false) /\
  ((w1.setCell ⟨g,j*5,none⟩ (.string (markT kj))).cell? ⟨g,j*5+1,none⟩=some (.int .i64 m[j].1.kind)/\(w1.setCell ⟨g,j*5,none⟩ (.string (markT kj))).frozen? ⟨g,j*5+1,none⟩=false) /\
  (((w1.setCell ⟨g,j*5,none⟩ (.string (markT kj))).setCell ⟨g,j*5+1,none⟩ (.int .i64 ((kj+1:Nat):Int))).cell? ⟨g,j*5+2,none⟩=some (.int .i64 m[j].1.index)/\((w1.setCell ⟨g,j*5,none⟩ (.string (markT kj))).setCell ⟨g,j*5+1,none⟩ (.int .i64 ((kj+1:Nat):Int))).frozen? ⟨g,j*5+2,none⟩=false) /\
  (w5.cell? ⟨g,j*5+3,none⟩=some (.string m[j].1.piece)/\w5.frozen? ⟨g,j*5+3,none⟩=false) /\
  (w5.setCell ⟨g,j*5+3,none⟩ (.string (markT (kj+3)))).cell? ⟨g,j*5+4,none⟩=some (.slice none 0 0) /\
  RowL (w5.setCell ⟨g,j*5+3,none⟩ (.string (markT (kj+3)))) lo hi (.slice (some ⟨g,0,none⟩) n cap) (m.set j (mkS kj)):=by
 have R0:W.ownsRow lo 114 5 (.slice (some ⟨g,0,none⟩) n cap) n (cellsL m):=by have:=h.row;unfold OwnL at this;rwa[hn]at this
 have hc:=cellsL_at m j hj
 have R1:=own_down R0 hb1
 have R2:=own_set (p:=j*5) R1 (.string (markT kj))
 have R3:=own_set (p:=j*5+1) R2 (.int .i64 ((kj+1:Nat):Int))
 have R4:=own_set (p:=j*5+2) R3 (.int .i64 ((kj+2:Nat):Int))
 have R5:=own_down R4 hb5
 have R6:=own_set (p:=j*5+3) R5 (.string (markT (kj+3)))
 have hx:=h.nop m[j] (List.getElem_mem hj)
 refine⟨own_cell R1 hc.1,own_cell R2 (by rw[List.getElem?_set_ne (by omega)];exact hc.2.1),own_cell R3 (by rw[List.getElem?_set_ne (by omega),List.getElem?_set_ne (by omega)];exact hc.2.2.1),own_cell R5 (by rw[List.getElem?_set_ne (by omega),List.getElem?_set_ne (by omega),List.getElem?_set_ne (by omega)];exact hc.2.2.2.1),?_,?_,h.inb,?_⟩
 ·refine(own_cell R6 ?_).1
  rw[List.getElem?_set_ne (by omega),List.getElem?_set_ne (by omega),List.getElem?_set_ne (by omega),List.getElem?_set_ne (by omega),hc.2.2.2.2,hx.1]
 ·unfold OwnL
  rw[List.length_set,hn,cellsL_set4 m j (mkS kj) hj (by rw[hx.1];rfl)]
  exact R6
 ·intro y hy
  rcases List.mem_or_eq_of_mem_set hy with hy|rfl
  ·exact h.nop y hy
  ·exact⟨rfl,rfl⟩
theorem markSs_any (k lo hi:Nat) (v:Value) (m:List ML) (w:World) (h:RowL w lo hi v m) (hn:m.length<=1048576) (h0:0<k) (hk:k+4*m.length<=1099511627776) :
  Calls Tryz.prog 44 #[v,.int .i64 k] w fun e w'=>e=.returned (.int .i64 ((k+4*m.length:Nat):Int))/\RowL w' lo hi v (mkSs k m.length)/\Chg lo hi w w':=by
 have HS:=hideK h
 obtain⟨a,cap,hv,_,_⟩:=h.row.one
 subst hv
 generalize hnn:m.length=n at hn hk ⊢
 rw[hnn]at HS
 have HN:=hideK hnn
 clear h hnn
 generalize hE:k+4*n=E at hk ⊢
 have HE:=hideK hE
 clear hE
 have HEND:Hid (midS m k n=mkSs k n):=by
  unfold Hid
  rw[<-HN.out]
  exact midS_all m k
 go_enter Tryz.func44,Tryz.ntmps44
 go_wp2_with fail
 go_loopw [5,1] (fun i kv wr=>∃ j kj:Nat,i=.int .i64 j/\kv=.int .i64 (kj:Int)/\j<=n/\kj=k+4*j/\RowL wr lo hi (.slice a n cap) (midS m k j)/\Chg lo hi w wr) (fun i _ _=>n-(intOf i).toNat)
 case atStart=>exact⟨0,k,rfl,rfl,Nat.zero_le _,rfl,by rw[midS_zero];exact HS.out,Chg.refl _ _ _⟩
 case round =>
  obtain⟨j,kj,rfl,rfl,hj,hkj,hrow,hch⟩:=hrel
  have R:=hideK hrow
  have CH:=hideK hch
  have HKJ:=hideK hkj
  have hkb:kj<=E:=by have:=HE.out;omega
  have hk0:0<kj:=by omega
  have hk2:kj<=1099511627776:=by omega
  clear hrow hch hkj
  by_cases hlt:j<n
  ·have hlt':(j:Int)<(n:Int):=by omega
   have hkb3:kj+4<=1099511627776:=by have:=HKJ.out;have:=HE.out;omega
   have hjl:j<m.length:=by rw[HN.out];exact hlt
   have hml:(midS m k j).length=n:=by rw[midS_length m k j (by omega),HN.out]
   have hjm:j<(midS m k j).length:=by omega
   obtain⟨g,cp,hv,hlo,hgz,_,_⟩:=R.out.row.cells (by omega)
   obtain⟨rfl,rfl⟩:a=some ⟨g,0,none⟩/\cap=cp:=by simp at hv;exact⟨hv.1,hv.2.2⟩
   clear hv
   have hghi:=(R.out.inb g rfl).2
   have HRD:=hideK (fun (w1 w5:World) h1 h5=>markS_round (W:=wr) (w1:=w1) (w5:=w5) (j:=j) (kj:=kj) R.out hml hjm h1 h5)
   have HNX:=hideK (midS_next m k j hjl)
   rw[<-HKJ.out]at HNX
   rw[HNX.out]at HRD
   generalize (midS m k j)[j].1=x at HRD
   clear hml HNX
   have HMT:=hideK (fun W=>markT_any kj W hk0 hk2)
   have HMT3:=hideK (fun W=>markT_any (kj+3) W (by omega) (by omega))
   have HMN:=hideK (fun W=>markS_nil none 0 (kj+4) W)
   have HC:=hideK (fun (w1:World) (hb1:Below wr.heap.size wr w1)=>(((CH.out.call hb1).set (i:=j*5) hlo hghi (.string (markT kj))).set (i:=j*5+1) hlo hghi (.int .i64 ((kj+1:Nat):Int))).set (i:=j*5+2) hlo hghi (.int .i64 ((kj+2:Nat):Int)))
   rw[show ((kj+1:Nat):Int)=(kj:Int)+1 by omega,show ((kj+2:Nat):Int)=(kj:Int)+1+1 by omega]at HRD HC
   rw[show ((kj+3:Nat):Int)=(kj:Int)+1+1+1 by omega]at HMT3
   rw[show ((kj+4:Nat):Int)=(kj:Int)+1+1+1+1 by omega]at HMN
   have HK4:Hid ((kj:Int)+1+1+1+1=((kj+4:Nat):Int)):=by unfold Hid;omega
   have hb9:(kj:Int)<=1099511627776:=by omega
   have hb8:0<=(kj:Int):=by omega
   generalize ((kj:Nat):Int)=K at HRD HC HMT3 HMN HMT HK4 hb8 hb9 ⊢
   generalize markT kj=t0 at HRD HC HMT
   generalize markT (kj+3)=t3 at HRD HMT3
   go_wp2_with fail
   refine(HMT.out _).mono ?_
   rintro e w1 ⟨rfl,hb1⟩
   obtain⟨⟨y0,f0⟩,⟨y1,f1⟩,⟨y2,f2⟩,_⟩:=HRD.out w1 _ hb1 (Below.refl _ _)
   have C1:=hideK (HC.out w1 hb1)
   have HR1:=hideK (fun w5=>HRD.out w1 w5 hb1)
   clear hb1 HMT HC HRD
   go_upto_region 10 with fail
   generalize ((w1.setCell ⟨g,j*5,none⟩ (.string t0)).setCell ⟨g,j*5+1,none⟩ (.int .i64 (K+1))).setCell ⟨g,j*5+2,none⟩ (.int .i64 (K+1+1))=W4 at C1 HR1 ⊢
   clear y0 y1 y2 f0 f1 f2
   go_wp2_with fail
   refine(HMT3.out _).mono ?_
   rintro e w5 ⟨rfl,hb5⟩
   obtain⟨_,_,_,⟨y3,f3⟩,y4,hrow5⟩:=HR1.out w5 hb5
   have R5:=hideK hrow5
   have C5:=hideK ((C1.out.call hb5).set (i:=j*5+3) hlo hghi (.string t3))
   clear hb5 HMT3 HR1 hrow5
   go_upto_region 12 with fail
   generalize w5.setCell ⟨g,j*5+3,none⟩ (.string t3)=W6 at R5 C5 y4 ⊢
   go_wp2_with fail
   refine(HMN.out _).mono ?_
   rintro e w7 ⟨rfl,hw⟩
   subst w7
   go_wp2_with fail
   go_roundw
   case rel=>exact⟨j+1,kj+4,by go_num,by rw[<-HK4.out],by omega,by have:=HKJ.out;omega,R5.out,C5.out⟩
   case measure=>simp[intOf];omega
  ·obtain rfl:j=n:=by omega
   have hltD:decide ((j:Int)<(j:Int))=false:=by simp
   have HQ:Hid (RowL wr lo hi (.slice a j cap) (mkSs k j)):=by rw[<-HEND.out];exact R.out
   obtain rfl:kj=E:=by have:=HKJ.out;have:=HE.out;omega
   go_wp2_with fail
   go_ret
   exact⟨rfl,HQ.out,CH.out⟩
end Go.Proofs.YtpddanmnlkcdpaaGreatDoor.Pl


namespace Go.Proofs.YtpddanmnlkcdpaaGreatDoor.Pl
open Go.RowKit
open Kp
open Pe
open In (Ints OwnI)
open Ls (lowL)
open St (markT markT_any)
theorem heldI_from (a:Option Addr) (n c k:Nat) (w:World) (h:Ints w w.heap.size a (In.marks k n)) (hn:n<=1048576) (hk:k<=1099511627776) :
  Calls Tryz.prog 118 #[.slice a n c,.int .i64 k] w fun e w'=>e=.returned (.int .i64 ((k+n:Nat):Int))/\Below w.heap.size w w':=by
 have HS:=hideK h
 clear h
 generalize hE:k+n=E
 have HE:=hideK hE
 clear hE
 go_enter Tryz.func118,Tryz.ntmps118
 go_wp2_with fail
 go_loopw [5,1] (fun i kv wr=>∃ j kj:Nat,i=.int .i64 j/\kv=.int .i64 (kj:Int)/\j<=n/\kj=k+j/\wr=w) (fun i _ _=>n-(intOf i).toNat)
 case atStart=>exact⟨0,k,rfl,rfl,by omega,rfl,rfl⟩
 case round =>
  obtain⟨j,kj,rfl,rfl,hj,hkj,hw⟩:=hrel
  subst hw
  have HKJ:=hideK hkj
  have hkb:kj<=2199023255552:=by omega
  clear hkj
  by_cases hlt:j<n
  ·have hlt':(j:Int)<(n:Int):=by omega
   have hkl:j<(In.marks k n).length:=by rw[In.marks_length];exact hlt
   obtain⟨b,off,ha,hb,hcc⟩:∃ b off,a=some ⟨b,off,none⟩/\b<wr.heap.size/\∀ t (ht:t<(In.marks k n).length),wr.cell? ⟨b,off+t,none⟩=some (.int .i64 (In.marks k n)[t]):=by
    rcases HS.out with h|h
    ·rw[h]at hkl;simp at hkl
    ·exact h
   subst ha
   have ce:=hcc j hkl
   rw[In.marks_get,<-HKJ.out]at ce
   have hne:((kj:Int) != (kj:Int))=false:=by simp
   clear hcc
   go_wp2_with fail
   go_roundw
   case rel=>exact⟨j+1,kj+1,by go_num,by go_num,by omega,by have:=HKJ.out;omega,trivial⟩
   case measure=>simp[intOf];omega
  ·obtain rfl:j=n:=by omega
   obtain rfl:kj=E:=by have:=HKJ.out;have:=HE.out;omega
   have hltD:decide ((j:Int)<(j:Int))=false:=by simp
   go_wp2_with fail
   go_ret
   exact⟨rfl,Below.refl _ _⟩
theorem mkL_get:∀ (l:List Oth) (k j:Nat) (h:j<l.length),(mkL k l)[j]'(by rw[mkL_length];exact h)=mkO (mkE k (l.take j)) l[j]
 |o :: l,k,0,_=>rfl
 |o :: l,k,j+1,h=>by
  have:=mkL_get l (mkN k o) j (Nat.lt_of_succ_lt_succ h)
  simp only[mkL,List.getElem_cons_succ,List.take_succ_cons,mkE]
  exact this
theorem mkE_step (l:List Oth) (k j:Nat) (h:j<l.length):mkE k (l.take (j+1))=mkN (mkE k (l.take j)) l[j]:=by
 rw[List.take_succ_eq_append_getElem h,mkE_append]
 rfl
theorem mkE_part (l:List Oth) (k j:Nat):mkE k (l.take j)<=mkE k l:=by
 have h:mkE k l=mkE (mkE k (l.take j)) (l.drop j):=by rw[<-mkE_append,List.take_append_drop]
 rw[h]
 exact mkE_le _ _
theorem heldOs_any (k lo:Nat) (v:Value) (l:List Oth) (m:List MO) (w:World) (h:OwnO w lo v m) (hh:Hass w lo m) (hq:oths m=mkL k l) (hn:l.length<=1048576) (hsm:∀ o∈l,o.has.length<=1048576) (h0:0<k) (hk:mkE k l<=1099511627776) :
  Calls Tryz.prog 83 #[v,.int .i64 k] w fun e w'=>e=.returned (.int .i64 (mkE k l:Nat))/\Below w.heap.size w w':=by
 have hml:m.length=l.length:=by rw[<-oths_length,hq,mkL_length]
 obtain⟨a,cap,hv,_,_⟩:=h.one
 subst hv
 have HR:=hideK h
 have HH:=hideK hh
 have HSM:=hideK hsm
 have HKE:=hideK hk
 generalize hnn:m.length=n at hml HR ⊢
 rw[<-hml]at hn
 have HN:=hideK hnn
 have HL:=hideK hml
 have HAT:Hid (∀ j (h1:j<m.length) (h2:j<l.length),m[j].1=mkO (mkE k (l.take j)) l[j]):=fun j h1 h2=>by rw[<-oths_get m j h1];simp only[hq];exact mkL_get l k j h2
 have HEE:Hid (mkE k (l.take n)=mkE k l):=by unfold Hid;rw[List.take_of_length_le (by rw[hml];exact Nat.le_refl _)]
 have hmx:=mixedK
 clear h hh hsm hk hnn hml hq
 go_enter Tryz.func83,Tryz.ntmps83
 go_wp2_with fail
 go_loopw [5,1] (fun i kv wr=>∃ j kj:Nat,i=.int .i64 j/\kv=.int .i64 (kj:Int)/\j<=n/\kj=mkE k (l.take j)/\Below w.heap.size w wr) (fun i _ _=>n-(intOf i).toNat)
 case atStart=>exact⟨0,k,rfl,rfl,Nat.zero_le _,rfl,Below.refl _ _⟩
 case round =>
  obtain⟨j,kj,rfl,rfl,hj,hkj,hbel⟩:=hrel
  have GB:=hideK hbel
  have HKJ:=hideK hkj
  have hkb:kj<=1099511627776:=by rw[hkj];exact Nat.le_trans (mkE_part l k j) HKE.out
  have hk0:0<kj:=by rw[hkj];exact Nat.lt_of_lt_of_le h0 (mkE_le _ _)
  clear hbel hkj
  by_cases hlt:j<n
  ·have hlt':(j:Int)<(n:Int):=by omega
   have hjm:j<m.length:=by rw[HN.out];exact hlt
   have hjl:j<l.length:=by rw[<-HL.out];exact hlt
   have hr:=HR.out.below (w':=wr) (by exact GB.out)
   obtain⟨g,cp,hv,hlo,hgz,_,hcc⟩:=hr.cells (by omega)
   obtain⟨rfl,rfl⟩:a=some ⟨g,0,none⟩/\cap=cp:=by simp at hv;exact⟨hv.1,hv.2.2⟩
   obtain⟨d0,d1,d2,d3,d4⟩:=hcc j hjm
   have hx:=HH.out.below (W':=wr) (by exact GB.out) m[j] (List.getElem_mem hjm)
   rw[HAT.out j hjm hjl,<-HKJ.out]at d0 d2 d3 d4 hx
   have HNX:=hideK (mkE_step l k j hjl)
   rw[<-HKJ.out]at HNX
   have hz4:mkE k (l.take (j+1))<=1099511627776:=Nat.le_trans (mkE_part l k (j+1)) HKE.out
   rw[HNX.out]at hz4
   have hkx:=HSM.out l[j] (List.getElem_mem hjl)
   unfold mkN at HNX hz4
   unfold mkO at d0 d2 d3 d4 hx
   dsimp only at d0 d2 d3 d4 hx
   obtain⟨av,cv,hxv,_,hiv⟩:=hx.ints
   rw[In.marks_length]at hxv
   rw[hxv]at d1
   have HHI:=hideK (fun W (hW:Below wr.heap.size wr W)=>heldI_from av l[j].has.length cv (kj+1) W ((hiv.below hW).mono hW.size) hkx (by omega))
   generalize l[j].has.length=ll at d1 d2 d3 d4 HNX hz4 HHI hkx
   have HMT:=hideK (fun W=>markT_any kj W hk0 hkb)
   rw[show ((kj+1:Nat):Int)=(kj:Int)+1 by omega]at HHI
   rw[show ((kj+2+ll:Nat):Int)=((kj+1+ll:Nat):Int)+1 by omega]at d3
   rw[show ((kj+3+ll:Nat):Int)=((kj+1+ll:Nat):Int)+1+1 by omega]at d4
   have HS3:Hid (((kj+1+ll:Nat):Int)+1+1+1=((kj+4+ll:Nat):Int)):=by unfold Hid;omega
   have hb9:((kj+1+ll:Nat):Int)<=1099511627776:=by omega
   have hb8:0<=((kj+1+ll:Nat):Int):=by omega
   generalize ((kj+1+ll:Nat):Int)=K1 at d2 d3 d4 HS3 hb8 hb9 HHI
   generalize markT kj=t at d0 HMT
   have ht:(t.toList==t.toList)=true:=by simp
   have hK1:(K1 != K1)=false:=by simp
   have hK2:(K1+1 != K1+1)=false:=by simp
   have hK3:(K1+1+1 != K1+1+1)=false:=by simp
   have hK0:¬K1<0:=by omega
   have r0:=fun d os=>cell_regrown d0 d os
   clear hv hcc hr hx hxv hiv
   go_wp2_with fail
   refine wp_region_quiet_below (by assumption) (by kernel_rfl) ?_
   repeat (go_big_quiet_step ((go_at_call 81;exact Calls.regrown_of (HMT.out _))))
   refine wpQuiet_nil ?_
   intro _ hw'
   obtain⟨⟨dq,osq⟩,hw''⟩:=hw'
   subst hw''
   have BR:=below_regrown wr dq osq
   have K8:=hideK (lowL GB.out BR)
   have e1:=(BR.cell (p:=⟨g,j*5+1,none⟩) hgz).trans d1
   have e2:=(BR.cell (p:=⟨g,j*5+2,none⟩) hgz).trans d2
   have e3:=(BR.cell (p:=⟨g,j*5+3,none⟩) hgz).trans d3
   have e4:=(BR.cell (p:=⟨g,j*5+4,none⟩) hgz).trans d4
   have hg8:=Nat.lt_of_lt_of_le hgz BR.size
   have HH8:=hideK (HHI.out _ BR)
   clear d0 d1 d2 d3 d4 r0 BR HHI HMT
   generalize Go.Sort.grow (redrawn wr dq) osq=w8 at K8 e1 e2 e3 e4 hg8 HH8 ⊢
   go_wp2_with fail
   refine HH8.out.mono ?_
   rintro e w9 ⟨rfl,hb⟩
   have K9:=hideK (lowL K8.out hb)
   have f2:=(hb.cell (p:=⟨g,j*5+2,none⟩) hg8).trans e2
   have f3:=(hb.cell (p:=⟨g,j*5+3,none⟩) hg8).trans e3
   have f4:=(hb.cell (p:=⟨g,j*5+4,none⟩) hg8).trans e4
   clear e1 e2 e3 e4 hb HH8
   go_wp2_with fail
   go_roundw
   case rel=>exact⟨j+1,kj+4+ll,by go_num,by rw[<-HS3.out],by omega,HNX.out.symm,K9.out⟩
   case measure=>simp[intOf];omega
  ·obtain rfl:j=n:=by omega
   have HE2:Hid (kj=mkE k l):=by unfold Hid;rw[HKJ.out,HEE.out]
   have hltD:decide ((j:Int)<(j:Int))=false:=by simp
   go_wp2_with fail
   go_ret
   exact⟨by rw[<-HE2.out];rfl,GB.out⟩
end Go.Proofs.YtpddanmnlkcdpaaGreatDoor.Pl


namespace Go.Proofs.YtpddanmnlkcdpaaGreatDoor.Pl
open Go.RowKit
open Kp
open Pe
open In (Ints OwnI)
open Ls (lowL)
open St (markT markT_any)
theorem heldS_nil (a:Option Addr) (c k:Nat) (w:World) :
  Calls Tryz.prog 84 #[.slice a 0 c,.int .i64 k] w fun e w'=>e=.returned (.int .i64 (k:Int))/\w'=w:=by
 go_enter Tryz.func84,Tryz.ntmps84
 go_wp2_with fail
 go_loopw [5,1] (fun i kv wr=>i=.int .i64 0/\kv=.int .i64 (k:Int)/\wr=w) (fun _ _ _=>0)
 case atStart=>exact⟨rfl,rfl,rfl⟩
 case round =>
  obtain⟨rfl,rfl,hw⟩:=hrel
  subst hw
  go_wp2_with fail
  go_ret
  exact⟨rfl,rfl⟩
theorem heldSs_any (k lo n:Nat) (v:Value) (w:World) (h:OwnL w lo v (mkSs k n)) (hn:n<=1048576) (h0:0<k) (hk:k+4*n<=1099511627776) :
  Calls Tryz.prog 46 #[v,.int .i64 k] w fun e w'=>e=.returned (.int .i64 ((k+4*n:Nat):Int))/\Below w.heap.size w w':=by
 obtain⟨a,cap,hv,_,_⟩:=h.one
 rw[mkSs_length]at hv
 subst hv
 have HR:=hideK h
 generalize hE:k+4*n=E at hk ⊢
 have HE:=hideK hE
 have hmx:=mixedK
 clear h hE
 go_enter Tryz.func46,Tryz.ntmps46
 go_wp2_with fail
 go_loopw [5,1] (fun i kv wr=>∃ j kj:Nat,i=.int .i64 j/\kv=.int .i64 (kj:Int)/\j<=n/\kj=k+4*j/\Below w.heap.size w wr) (fun i _ _=>n-(intOf i).toNat)
 case atStart=>exact⟨0,k,rfl,rfl,Nat.zero_le _,rfl,Below.refl _ _⟩
 case round =>
  obtain⟨j,kj,rfl,rfl,hj,hkj,hbel⟩:=hrel
  have GB:=hideK hbel
  have HKJ:=hideK hkj
  have hkb:kj<=E:=by have:=HE.out;omega
  have hk0:0<kj:=by omega
  clear hbel hkj
  by_cases hlt:j<n
  ·have hlt':(j:Int)<(n:Int):=by omega
   have hk4:kj+4<=1099511627776:=by have:=HKJ.out;have:=HE.out;omega
   have hjm:j<(mkSs k n).length:=by rw[mkSs_length];exact hlt
   have hr:=HR.out.below (w':=wr) (by exact GB.out)
   obtain⟨g,cp,hv,hlo,hgz,_,hcc⟩:=hr.cells (by omega)
   obtain⟨rfl,rfl⟩:a=some ⟨g,0,none⟩/\cap=cp:=by simp at hv;exact⟨hv.1,hv.2.2⟩
   have hF:=hcc j hjm
   rw[mkSs_get,<-HKJ.out]at hF
   obtain⟨d0,d1,d2,d3,d4⟩:=hF
   unfold mkS at d0 d1 d2 d3 d4
   dsimp only at d0 d1 d2 d3 d4
   have HMT:=hideK (fun W=>markT_any kj W hk0 (by omega))
   have HMT3:=hideK (fun W=>markT_any (kj+3) W (by omega) (by omega))
   have HMN:=hideK (fun W=>heldS_nil none 0 (kj+4) W)
   rw[show ((kj+1:Nat):Int)=(kj:Int)+1 by omega]at d1
   rw[show ((kj+2:Nat):Int)=(kj:Int)+1+1 by omega]at d2
   rw[show ((kj+3:Nat):Int)=(kj:Int)+1+1+1 by omega]at HMT3
   rw[show ((kj+4:Nat):Int)=(kj:Int)+1+1+1+1 by omega]at HMN
   have HK4:Hid ((kj:Int)+1+1+1+1=((kj+4:Nat):Int)):=by unfold Hid;omega
   have hb9:(kj:Int)<=1099511627776:=by omega
   have hb8:0<=(kj:Int):=by omega
   generalize ((kj:Nat):Int)=K at d1 d2 HMT3 HMN HMT HK4 hb8 hb9 ⊢
   generalize markT kj=t0 at d0 HMT
   generalize markT (kj+3)=t3 at d3 HMT3
   have ht:(t0.toList==t0.toList)=true:=by simp
   have ht3:(t3.toList==t3.toList)=true:=by simp
   have hK1:(K+1 != K+1)=false:=by simp
   have hK2:(K+1+1 != K+1+1)=false:=by simp
   have hK4:¬K+1+1+1+1<0:=by omega
   have r0:=fun d os=>cell_regrown d0 d os
   clear hv hcc hr
   go_wp2_with fail
   refine wp_region_quiet_below (by assumption) (by kernel_rfl) ?_
   repeat (go_big_quiet_step ((go_at_call 81;exact Calls.regrown_of (HMT.out _))))
   refine wpQuiet_nil ?_
   intro _ hw'
   obtain⟨⟨dq,osq⟩,hw''⟩:=hw'
   subst hw''
   have BR:=below_regrown wr dq osq
   have K8:=hideK (lowL GB.out BR)
   have e1:=(BR.cell (p:=⟨g,j*5+1,none⟩) hgz).trans d1
   have e2:=(BR.cell (p:=⟨g,j*5+2,none⟩) hgz).trans d2
   have e3:=(BR.cell (p:=⟨g,j*5+3,none⟩) hgz).trans d3
   have e4:=(BR.cell (p:=⟨g,j*5+4,none⟩) hgz).trans d4
   have hg8:=Nat.lt_of_lt_of_le hgz BR.size
   clear d0 d1 d2 d3 d4 r0 BR HMT
   generalize Go.Sort.grow (redrawn wr dq) osq=w8 at K8 e1 e2 e3 e4 hg8 ⊢
   have r3:=fun d os=>cell_regrown e3 d os
   go_wp2_with fail
   refine wp_region_quiet_below (by assumption) (by kernel_rfl) ?_
   repeat (go_big_quiet_step ((go_at_call 81;exact Calls.regrown_of (HMT3.out _))))
   refine wpQuiet_nil ?_
   intro _ hw'
   obtain⟨⟨dq3,osq3⟩,hw''⟩:=hw'
   subst hw''
   have BR:=below_regrown w8 dq3 osq3
   have K9:=hideK (lowL K8.out BR)
   have f4:=(BR.cell (p:=⟨g,j*5+4,none⟩) hg8).trans e4
   clear e1 e2 e3 e4 r3 BR HMT3
   generalize Go.Sort.grow (redrawn w8 dq3) osq3=w9 at K9 f4 ⊢
   go_wp2_with fail
   refine(HMN.out _).mono ?_
   rintro e w10 ⟨rfl,hw⟩
   subst w10
   go_wp2_with fail
   go_roundw
   case rel=>exact⟨j+1,kj+4,by go_num,by rw[<-HK4.out],by omega,by have:=HKJ.out;omega,K9.out⟩
   case measure=>simp[intOf];omega
  ·obtain rfl:j=n:=by omega
   obtain rfl:kj=E:=by have:=HKJ.out;have:=HE.out;omega
   have hltD:decide ((j:Int)<(j:Int))=false:=by simp
   go_wp2_with fail
   go_ret
   exact⟨rfl,GB.out⟩
theorem heldP_any (z b:Int) (r s:ByteArray) (y:Int) (k lo:Nat) (v:Value) (l:List Oth) (m:List MO) (w:World) (h:OwnO w lo v m) (hh:Hass w lo m) (hq:oths m=mkL k l) (hn:l.length<=1048576) (hsm:∀ o∈l,o.has.length<=1048576) (h0:0<k) (hk:mkE k l<=1099511627776) :
  Calls Tryz.prog 45 #[peerV z b r s y v,.int .i64 k] w fun e w'=>e=.returned (.int .i64 (mkE k l:Nat))/\Below w.heap.size w w':=by
 have C0:=hideK ((Cx.nil w).new (peerO z b r s y v))
 have HM:=hideK (fun W (hW:Below w.heap.size w W)=>heldOs_any k lo v l m W (h.below hW) (hh.below hW) hq hn hsm h0 hk)
 obtain⟨a,cap,hv,_,_⟩:=h.one
 subst hv
 clear h hh hsm hk
 generalize mkE k l=E at HM ⊢
 have hE:¬(E:Int)<0:=by omega
 have hE2:decide ((E:Int)<0)=false:=by simp
 unfold peerV
 unfold peerO at C0
 go_enter Tryz.func45,Tryz.ntmps45
 go_upto_region 1 with fail
 generalize w.alloc _=W0 at C0 ⊢
 obtain⟨p0,p1,p2,p3,p4,p5⟩:=cellsP6 (C0.out.get 0 rfl)
 go_wp2_with fail
 refine(HM.out _ C0.out.low).mono ?_
 rintro e w1 ⟨rfl,hb⟩
 have C1:=hideK (C0.out.call hb)
 clear hb
 go_wp2_with fail
 go_ret
 exact⟨rfl,C1.out.low⟩
structure Mkd (W:World) (lo hi:Nat) (vo vs:Value) (l:List Oth) (n:Nat) (m:List MO):Prop where
 rm:RowM W lo hi vo m
 os:oths m=mkL 1 l
 rl:RowL W lo hi vs (mkSs (mkE 1 l) n)
theorem Mkd.call {W W':World} {lo hi:Nat} {vo vs:Value} {l:List Oth} {n:Nat} {m:List MO} (h:Mkd W lo hi vo vs l n m) (hb:Below W.heap.size W W'):Mkd W' lo hi vo vs l n m:=⟨h.rm.call hb,h.os,h.rl.call hb⟩
theorem RowL.keepO {W W':World} {lo hi:Nat} {v:Value} {m:List ML} (h:RowL W lo hi v m) (hk:KeepO W W'):RowL W' lo hi v m:=by
 refine⟨?_,h.inb,h.nop⟩
 obtain⟨hl,h⟩:=h.row
 refine⟨hl,?_⟩
 rcases h with h|⟨g,cap,cur,hv,hg,hb,rest⟩
 ·exact .inl h
 ·exact .inr ⟨g,cap,cur,hv,hg,hk g _ _ hb (by decide) (by decide),rest⟩
theorem Chg.more {lo hi:Nat} {w w1 w2:World} (h:Chg lo hi w w1) (h2:Chg lo hi w1 w2):Chg lo hi w w2 :=
 ⟨h2.os.trans h.os,h2.tape.trans h.tape,h2.output.trans h.output,Nat.le_trans h.size h2.size,fun k hk ho=>(h2.block k (Nat.lt_of_lt_of_le hk h.size) ho).trans (h.block k hk ho)⟩
def KeepL (w w':World):Prop:=∀ (k:Nat) (cs:Array Value) (T:TypeId),w.heap[k]? = some (.cells cs T (0,0))->T≠114->w'.heap[k]? = some (.cells cs T (0,0))
theorem RowM.keepL {W W':World} {lo hi:Nat} {v:Value} {m:List MO} (h:RowM W lo hi v m) (hk:KeepL W W'):RowM W' lo hi v m:=by
 refine⟨?_,fun x hx=>?_,h.ap,h.inb⟩
 ·obtain⟨hl,h⟩:=h.row
  refine⟨hl,?_⟩
  rcases h with h|⟨g,cap,cur,hv,hg,hb,rest⟩
  ·exact .inl h
  ·exact .inr ⟨g,cap,cur,hv,hg,hk g _ _ hb (by decide),rest⟩
 ·obtain⟨hl,h⟩:=h.has x hx
  refine⟨hl,?_⟩
  rcases h with h|⟨g,cap,cur,hv,hg,hb,rest⟩
  ·exact .inl h
  ·exact .inr ⟨g,cap,cur,hv,hg,hk g _ _ hb (by decide),rest⟩
theorem OwnL.blkOf {W:World} {base g:Nat} {v:Value} {m:List ML} (h:OwnL W base v m) (hg:v.ownBlock=some g):∃ cur,W.heap[g]? = some (.cells cur 114 (0,0)):=by
 obtain⟨_,h⟩:=h
 rcases h with⟨rfl,_⟩|⟨g',cap',cur,rfl,_,hb,_⟩
 ·simp[Value.ownBlock]at hg
 ·simp[Value.ownBlock]at hg
  subst hg
  exact⟨cur,hb⟩
theorem keepL_of {W W':World} {lo g:Nat} {v:Value} {m:List ML} (h:OwnL W lo v m) (hg:v.ownBlock=some g) (hc:Chg g (g+1) W W'):KeepL W W':=fun k cs T hk hT=>by
 obtain⟨cur,hb⟩:=h.blkOf hg
 have hne:=ty_ne hk hb hT
 exact(hc.block k (lt_rowK hk) (by omega)).trans hk
theorem markPO_any (z b:Int) (r s:ByteArray) (y:Int) (c:Int) (lo hi:Nat) (vo vs:Value) (mo:List MO) (ms:List ML) (w:World) (h:RowM w lo hi vo mo) (g:RowL w lo hi vs ms) (hn:mo.length<=1048576) (hsm:∀ x∈mo,x.1.has.length<=1048576) (gn:ms.length<=1048576) (hk:mkE 1 (oths mo)+4*ms.length<=1099511627776) :
  Calls Tryz.prog 13 #[poV z b r s y vo vs c,.int .i64 1] w fun e w'=>e=.returned (.int .i64 ((mkE 1 (oths mo)+4*ms.length:Nat):Int))/\(∃ m',Mkd w' lo hi vo vs (oths mo) ms.length m')/\Chg lo hi w w':=by
 have C0:=hideK ((Cx.nil w).new (poO z b r s y vo vs c))
 have B0:Hid (Below w.heap.size w (w.alloc (poO z b r s y vo vs c))):=(Below.refl _ _).alloc (Nat.le_refl _) _
 have HM:=hideK (fun W (hW:Below w.heap.size w W)=>markP_any z b r s y 1 lo hi vo mo W (h.call hW) hn hsm (by decide) (by omega))
 have HRL:=hideK (fun W (hW:Below w.heap.size w W)=>g.call hW)
 have HL:Hid (∀ W,RowL W lo hi vs ms->Calls Tryz.prog 44 #[vs,.int .i64 (mkE 1 (oths mo):Nat)] W fun e w'=>e=.returned (.int .i64 ((mkE 1 (oths mo)+4*ms.length:Nat):Int))/\RowL w' lo hi vs (mkSs (mkE 1 (oths mo)) ms.length)/\Chg lo hi W w'/\KeepL W w'):=fun W hW=>by
  have h1:0<mkE 1 (oths mo):=mkE_le _ _
  cases hv:vs.ownBlock with
  |none =>
   have hm0:vs=.slice none 0 0/\ms=[]:=by
    obtain⟨_,hq⟩:=hW.row
    rcases hq with⟨h,h0⟩|⟨g,cap,cur,rfl,_⟩
    ·exact⟨h,List.eq_nil_of_length_eq_zero h0⟩
    ·simp[Value.ownBlock]at hv
   obtain⟨rfl,rfl⟩:=hm0
   have hq:=markSs_any (mkE 1 (oths mo)) 0 0 (.slice none 0 0) [] W ⟨OwnL.nil _ _,fun g hg=>by simp[Value.ownBlock]at hg,fun _ hx=>absurd hx List.not_mem_nil⟩ (by decide) h1 (by simp at hk ⊢;omega)
   refine hq.mono ?_
   rintro e w' ⟨he,hr,hc⟩
   exact⟨he,⟨OwnL.nil _ _,fun g hg=>by simp[Value.ownBlock]at hg,mkSs_noPath _ _⟩,⟨hc.os,hc.tape,hc.output,hc.size,fun k hk _=>hc.block k hk (by omega)⟩,fun k cs T hk _=>(hc.block k (lt_rowK hk) (by omega)).trans hk⟩
  |some q =>
   have hin:=hW.inb q hv
   have hq:=markSs_any (mkE 1 (oths mo)) q (q+1) vs ms W ⟨?_,fun g hg=>by rw[hv]at hg;cases hg;omega,hW.nop⟩ gn h1 hk
   refine hq.mono ?_
   rintro e w' ⟨he,hr,hc⟩
   refine⟨he,⟨hr.row.mono hin.1,fun g hg=>by rw[hv]at hg;cases hg;exact hin,hr.nop⟩,⟨hc.os,hc.tape,hc.output,hc.size,fun k hk ho=>hc.block k hk (by omega)⟩,keepL_of hW.row hv hc⟩
   obtain⟨hl,hq⟩:=hW.row
   refine⟨hl,?_⟩
   rcases hq with h|⟨g,cap,cur,hvv,hg,rest⟩
   ·exact .inl h
   ·refine .inr ⟨g,cap,cur,hvv,?_,rest⟩
    rw[hvv]at hv
    simp[Value.ownBlock]at hv
    omega
 obtain⟨a,cap,hv,_,_⟩:=h.row.one
 subst hv
 obtain⟨a',cap',hv',_,_⟩:=g.row.one
 subst hv'
 clear h g hsm hk
 generalize mkE 1 (oths mo)+4*ms.length=E2 at HL ⊢
 unfold poV
 unfold poO at C0 B0
 unfold peerV at HM
 go_enter Tryz.func13,Tryz.ntmps13
 go_upto_region 1 with fail
 generalize hW0:w.alloc _=W0 at C0 B0 ⊢
 obtain⟨p0,p1,p2,p3,p4,p5,p6,p7⟩:=cellsP8 (C0.out.get 0 rfl)
 have HW0:Hid (W0.heap[w.heap.size]? = some (.cells #[.int .i64 z,.int .i64 b,.string r,.string s,.int .i64 y,.slice a mo.length cap,.slice a' ms.length cap',.int .i64 c] 38 (0,0))):=C0.out.get 0 rfl
 clear hW0
 go_wp2_with fail
 refine(HM.out _ B0.out).mono ?_
 rintro e w1 ⟨rfl,⟨m',hos,hsnd,hrow⟩,hc,hko⟩
 have R1:=hideK hrow
 have OS1:=hideK hos
 have C1:=hideK (Chg.after B0.out hc)
 have L1:=hideK ((HRL.out _ B0.out).keepO hko)
 have K1:=hko _ _ _ HW0.out (by decide) (by decide)
 clear hos hsnd hrow hc hko p0 p1 p2 p3 p4 p5 p6 p7
 obtain⟨p0,p1,p2,p3,p4,p5,p6,p7⟩:=cellsP8 K1
 have HL1:=hideK (HL.out w1 L1.out)
 clear K1 HL HM HRL
 go_wp2_with fail
 refine HL1.out.mono ?_
 rintro e w2 ⟨rfl,hr2,hc2,hk2⟩
 have R2:=hideK (RowM.keepL R1.out hk2)
 have L2:=hideK hr2
 have C2:=hideK (Pl.Chg.more C1.out hc2)
 clear hr2 hc2 hk2 HL1
 go_wp2_with fail
 go_ret
 exact⟨rfl,⟨m',R2.out,OS1.out,L2.out⟩,C2.out⟩
theorem heldPO_any (z b:Int) (r s:ByteArray) (y:Int) (c:Int) (lo hi:Nat) (vo vs:Value) (l:List Oth) (n:Nat) (m:List MO) (w:World) (h:Mkd w lo hi vo vs l n m) (hn:l.length<=1048576) (hsm:∀ o∈l,o.has.length<=1048576) (gn:n<=1048576) (hk:mkE 1 l+4*n<=1099511627776) :
  Calls Tryz.prog 14 #[poV z b r s y vo vs c,.int .i64 1] w fun e w'=>e=.returned (.int .i64 ((mkE 1 l+4*n:Nat):Int))/\Below w.heap.size w w':=by
 have C0:=hideK ((Cx.nil w).new (poO z b r s y vo vs c))
 have HM:=hideK (fun W (hW:Below w.heap.size w W)=>heldP_any z b r s y 1 lo vo l m W (h.rm.row.below hW) (h.rm.has.below hW) h.os hn hsm (by decide) (by omega))
 have HL:=hideK (fun W (hW:Below w.heap.size w W)=>heldSs_any (mkE 1 l) lo n vs W (h.rl.row.below hW) gn (mkE_le _ _) hk)
 obtain⟨a,cap,hv,_,_⟩:=h.rm.row.one
 subst hv
 obtain⟨a',cap',hv',_,_⟩:=h.rl.row.one
 rw[mkSs_length]at hv'
 subst hv'
 clear h hsm hk
 generalize mkE 1 l+4*n=E2 at HL ⊢
 generalize mkE 1 l=E at HM HL
 have hE:¬(E:Int)<0:=by omega
 have hE2:decide ((E:Int)<0)=false:=by simp
 have hE3:¬(E2:Int)<0:=by omega
 have hE4:decide ((E2:Int)<0)=false:=by simp
 unfold poV
 unfold poO at C0
 unfold peerV at HM
 go_enter Tryz.func14,Tryz.ntmps14
 go_upto_region 1 with fail
 generalize w.alloc _=W0 at C0 ⊢
 obtain⟨p0,p1,p2,p3,p4,p5,p6,p7⟩:=cellsP8 (C0.out.get 0 rfl)
 go_wp2_with fail
 refine(HM.out _ C0.out.low).mono ?_
 rintro e w1 ⟨rfl,hb⟩
 have C1:=hideK (C0.out.call hb)
 clear hb p0 p1 p2 p3 p4 p5 p6 p7
 obtain⟨p0,p1,p2,p3,p4,p5,p6,p7⟩:=cellsP8 (C1.out.get 0 rfl)
 go_wp2_with fail
 refine(HL.out _ C1.out.low).mono ?_
 rintro e w2 ⟨rfl,hb⟩
 have C2:=hideK (C1.out.call hb)
 clear hb
 go_wp2_with fail
 go_ret
 exact⟨rfl,C2.out.low⟩
end Go.Proofs.YtpddanmnlkcdpaaGreatDoor.Pl


namespace Go.Proofs.YtpddanmnlkcdpaaGreatDoor.Pl
open Go.RowKit
open Kp
open Pe
open St (Strs OwnS)
open Ls (lowL)
theorem cellsQ4 {W:World} {g:Nat} {x0 x1 x2 x3:Value} {T:TypeId} (h:W.heap[g]? = some (.cells #[x0,x1,x2,x3] T (0,0))):W.cell? ⟨g,0,none⟩=some x0/\W.cell? ⟨g,1,none⟩=some x1/\W.cell? ⟨g,2,none⟩=some x2/\W.cell? ⟨g,3,none⟩=some x3 :=
 ⟨cell_of_row W g 0 _ _ _ h,cell_of_row W g 1 _ _ _ h,cell_of_row W g 2 _ _ _ h,cell_of_row W g 3 _ _ _ h⟩
def SmallL (m:List ML):Prop:=∀ x∈m,x.1.path.length<=1048576
theorem eqSay_any (k i:Int) (p:ByteArray) (a a':Option Addr) (n cap cap':Nat) (l:List ByteArray) (w:World) (h:Strs w w.heap.size a l) (h':Strs w w.heap.size a' l) (hln:l.length=n) (hn:n<=1048576) :
  Calls Tryz.prog 19 #[.agg #[.int .i64 k,.int .i64 i,.string p,.slice a n cap],.agg #[.int .i64 k,.int .i64 i,.string p,.slice a' n cap']] w fun e w'=>e=.returned (.bool true)/\Below w.heap.size w w':=by
 have C0:=hideK (((Cx.nil w).new (.cells #[.int .i64 k,.int .i64 i,.string p,.slice a n cap] 51)).new (.cells #[.int .i64 k,.int .i64 i,.string p,.slice a' n cap'] 51))
 simp only[World.size_alloc]at C0
 have HE:=hideK (fun W (hW:Below w.heap.size w W)=>St.eq_any a a' cap cap' l W W.heap.size ((h.below hW).mono hW.size) ((h'.below hW).mono hW.size) (by rw[hln];exact hn))
 rw[hln]at HE
 clear h h' hln
 have h1:(p.toList==p.toList)=true:=by simp
 have h2:(k != k)=false:=by simp
 have h3:(i != i)=false:=by simp
 go_enter Tryz.func19,Tryz.ntmps19
 go_upto_region 1 with fail
 generalize (w.alloc _).alloc _=W0 at C0 ⊢
 obtain⟨p0,p1,p2,p3⟩:=cellsQ4 (C0.out.get 0 rfl)
 obtain⟨q0,q1,q2,q3⟩:=cellsQ4 (C0.out.get 1 rfl)
 go_wp2_with fail
 refine(HE.out _ C0.out.low).mono ?_
 rintro e w1 ⟨rfl,hb⟩
 have C1:=hideK (C0.out.call hb)
 clear hb C0 p0 p1 p2 p3 q0 q1 q2 q3
 go_wp2_with fail
 go_ret
 exact⟨rfl,C1.out.low⟩
theorem eqSent_any (t:ByteArray) (k i:Int) (p:ByteArray) (a a':Option Addr) (n cap cap':Nat) (l:List ByteArray) (w:World) (h:Strs w w.heap.size a l) (h':Strs w w.heap.size a' l) (hln:l.length=n) (hn:n<=1048576) :
  Calls Tryz.prog 78 #[.agg #[.string t,.int .i64 k,.int .i64 i,.string p,.slice a n cap],.agg #[.string t,.int .i64 k,.int .i64 i,.string p,.slice a' n cap']] w fun e w'=>e=.returned (.bool true)/\Below w.heap.size w w':=by
 have C0:=hideK (((Cx.nil w).new (.cells #[.string t,.int .i64 k,.int .i64 i,.string p,.slice a n cap] 114)).new (.cells #[.string t,.int .i64 k,.int .i64 i,.string p,.slice a' n cap'] 114))
 simp only[World.size_alloc]at C0
 have HE:=hideK (fun W (hW:Below w.heap.size w W)=>eqSay_any k i p a a' n cap cap' l W ((h.below hW).mono hW.size) ((h'.below hW).mono hW.size) hln hn)
 clear h h' hln
 have h1:(t.toList==t.toList)=true:=by simp
 go_enter Tryz.func78,Tryz.ntmps78
 go_upto_region 1 with fail
 generalize (w.alloc _).alloc _=W0 at C0 ⊢
 obtain⟨p0,p1,p2,p3,p4⟩:=cells5 (C0.out.get 0 rfl)
 obtain⟨q0,q1,q2,q3,q4⟩:=cells5 (C0.out.get 1 rfl)
 go_wp2_with fail
 refine(HE.out _ C0.out.low).mono ?_
 rintro e w1 ⟨rfl,hb⟩
 have C1:=hideK (C0.out.call hb)
 clear hb C0 p0 p1 p2 p3 p4 q0 q1 q2 q3 q4
 go_wp2_with fail
 go_ret
 exact⟨rfl,C1.out.low⟩
theorem eqSs_any (a a':Option Addr) (n cap cap':Nat) (m m':List ML) (w:World) (h:Snts w w.heap.size a m) (h':Snts w w.heap.size a' m') (he:snts m=snts m') (hm:m.length=n) (hn:n<=1048576) (hsm:SmallL m) :
  Calls Tryz.prog 40 #[.slice a n cap,.slice a' n cap'] w fun e w'=>e=.returned (.bool true)/\Below w.heap.size w w':=by
 have hm':m'.length=n:=by rw[<-hm,<-snts_length m,<-snts_length m',he]
 have HS:=hideK h
 have HS':=hideK h'
 have HM:=hideK hm
 have HM':=hideK hm'
 have HSM:=hideK hsm
 have HEQ:Hid (∀ j (h1:j<m.length) (h2:j<m'.length),m'[j].1=m[j].1):=fun j h1 h2=>by rw[<-snts_get m' j h2,<-snts_get m j h1];simp only[he]
 have hmx:=mixedK
 have hnn:((n:Int) != (n:Int))=false:=by simp
 clear h h' he hm hm' hsm
 go_enter Tryz.func40,Tryz.ntmps40
 go_wp2_with fail
 go_loopw [5] (fun jv wr=>∃ j:Nat,jv=.int .i64 j/\j<=n/\Below w.heap.size w wr) (fun jv _=>n-(intOf jv).toNat)
 case atStart=>exact⟨0,rfl,Nat.zero_le _,Below.refl _ _⟩
 case round =>
  obtain⟨j,rfl,hj,hbel⟩:=hrel
  have GB:=hideK hbel
  clear hbel
  by_cases hlt:j<n
  ·have hlt':(j:Int)<(n:Int):=by omega
   have hjl:j<m.length:=by rw[HM.out];exact hlt
   have hjl':j<m'.length:=by rw[HM'.out];exact hlt
   obtain⟨b,off,rfl,hb,hc⟩:=HS.out.some (by omega)
   obtain⟨b',off',rfl,hb',hc'⟩:=HS'.out.some (by omega)
   obtain⟨d0,d1,d2,d3,d4⟩:=(hc j hjl).below GB.out hb
   obtain⟨e0,e1,e2,e3,e4⟩:=(hc' j hjl').below GB.out hb'
   obtain⟨ax,cx,hxv,_,hix⟩:=HS.out.2 m[j] (List.getElem_mem hjl)
   obtain⟨ax',cx',hxv',_,hix'⟩:=HS'.out.2 m'[j] (List.getElem_mem hjl')
   have hkx:=HSM.out m[j] (List.getElem_mem hjl)
   rw[HEQ.out j hjl hjl']at e0 e1 e2 e3 hxv' hix'
   rw[hxv]at d4
   rw[hxv']at e4
   have HEO:=hideK (fun W (hW:Below w.heap.size w W)=>eqSent_any m[j].1.who m[j].1.kind m[j].1.index m[j].1.piece ax ax' _ cx cx' m[j].1.path W ((hix.below hW).mono hW.size) ((hix'.below hW).mono hW.size) rfl hkx)
   clear hix hix' hxv hxv' hc hc' hkx
   generalize m[j].1.who=nm at d0 e0 HEO
   generalize m[j].1.path.length=k at d4 e4 HEO
   generalize m[j].1.kind=q at d1 e1 HEO
   generalize m[j].1.index=g at d2 e2 HEO
   generalize m[j].1.piece=t at d3 e3 HEO
   have r0:=fun d os=>cell_regrown d0 d os
   have r1:=fun d os=>cell_regrown d1 d os
   have r2:=fun d os=>cell_regrown d2 d os
   have r3:=fun d os=>cell_regrown d3 d os
   have r4:=fun d os=>cell_regrown d4 d os
   have s0:=fun d os=>cell_regrown e0 d os
   have s1:=fun d os=>cell_regrown e1 d os
   have s2:=fun d os=>cell_regrown e2 d os
   have s3:=fun d os=>cell_regrown e3 d os
   have s4:=fun d os=>cell_regrown e4 d os
   go_wp2_with fail
   refine wp_region_quiet_below (by assumption) (by kernel_rfl) ?_
   repeat (go_big_quiet_step ((go_at_call 78;exact Calls.regrown_of (HEO.out _ (lowL GB.out (below_regrown _ _ _))))))
   refine wpQuiet_nil ?_
   intro _ hw'
   obtain⟨⟨dq,osq⟩,hw''⟩:=hw'
   subst hw''
   have K1:=hideK (lowL GB.out (below_regrown wr dq osq))
   generalize Go.Sort.grow (redrawn wr dq) osq=w8 at K1 ⊢
   clear r0 r1 r2 r3 r4 s0 s1 s2 s3 s4 d0 d1 d2 d3 d4 e0 e1 e2 e3 e4
   go_wp2_with fail
   go_roundw
   case rel=>exact⟨j+1,by go_num,by omega,K1.out⟩
   case measure=>simp[intOf];omega
  ·have hltD:decide ((j:Int)<(n:Int))=false:=by simp;omega
   have hlt2:¬((j:Int)<(n:Int)):=by omega
   go_wp2_with fail
   go_ret
   exact⟨rfl,GB.out⟩
theorem eqPO_any (z b:Int) (r s:ByteArray) (y:Int) (ao ao' as' as2:Option Addr) (no ns co co' cs cs':Nat) (c:Int) (mo mo':List MO) (ms ms':List ML) (w:World) (h:Oths w w.heap.size ao mo) (h':Oths w w.heap.size ao' mo') (he:oths mo=oths mo') (hm:mo.length=no) (hn:no<=1048576) (hsm:Small mo)
  (g:Snts w w.heap.size as' ms) (g':Snts w w.heap.size as2 ms') (ge:snts ms=snts ms') (gm:ms.length=ns) (gn:ns<=1048576) (gsm:SmallL ms) :
  Calls Tryz.prog 10 #[poV z b r s y (.slice ao no co) (.slice as' ns cs) c,poV z b r s y (.slice ao' no co') (.slice as2 ns cs') c] w fun e w'=>e=.returned (.bool true)/\Below w.heap.size w w':=by
 have HO:=hideK (fun W (hW:Below w.heap.size w W)=>eqP_any z b r s y ao ao' no co co' mo mo' W ((h.below hW).mono hW.size) ((h'.below hW).mono hW.size) he hm hn hsm)
 have HL:=hideK (fun W (hW:Below w.heap.size w W)=>eqSs_any as' as2 ns cs cs' ms ms' W ((g.below hW).mono hW.size) ((g'.below hW).mono hW.size) ge gm gn gsm)
 have C0:=hideK (((Cx.nil w).new (poO z b r s y (.slice ao no co) (.slice as' ns cs) c)).new (poO z b r s y (.slice ao' no co') (.slice as2 ns cs') c))
 simp only[World.size_alloc]at C0
 clear h h' hsm g g' gsm
 have h2:(c != c)=false:=by simp
 unfold poV
 unfold peerV at HO
 unfold poO at C0
 go_enter Tryz.func10,Tryz.ntmps10
 go_upto_region 1 with fail
 generalize (w.alloc _).alloc _=W0 at C0 ⊢
 obtain⟨l0,l1,l2,l3,l4,l5,l6,l7⟩:=cellsP8 (C0.out.get 0 rfl)
 obtain⟨k0,k1,k2,k3,k4,k5,k6,k7⟩:=cellsP8 (C0.out.get 1 rfl)
 go_wp2_with fail
 refine(HO.out _ C0.out.low).mono ?_
 rintro e w1 ⟨rfl,hb⟩
 have C1:=hideK (C0.out.call hb)
 clear hb C0 l0 l1 l2 l3 l4 l5 l6 l7 k0 k1 k2 k3 k4 k5 k6 k7
 obtain⟨l0,l1,l2,l3,l4,l5,l6,l7⟩:=cellsP8 (C1.out.get 0 rfl)
 obtain⟨k0,k1,k2,k3,k4,k5,k6,k7⟩:=cellsP8 (C1.out.get 1 rfl)
 go_wp2_with fail
 refine(HL.out _ C1.out.low).mono ?_
 rintro e w2 ⟨rfl,hb⟩
 have C2:=hideK (C1.out.call hb)
 clear hb C1 l0 l1 l2 l3 l4 l5 l6 l7 k0 k1 k2 k3 k4 k5 k6 k7
 obtain⟨l0,l1,l2,l3,l4,l5,l6,l7⟩:=cellsP8 (C2.out.get 0 rfl)
 obtain⟨k0,k1,k2,k3,k4,k5,k6,k7⟩:=cellsP8 (C2.out.get 1 rfl)
 go_wp2_with fail
 go_ret
 exact⟨rfl,C2.out.low⟩
end Go.Proofs.YtpddanmnlkcdpaaGreatDoor.Pl


namespace Go.Proofs.YtpddanmnlkcdpaaGreatDoor.Kp
open Go.RowKit
open Ls (cells3 fitsB fits_impl lV vars_keepF)
open Sh (Vars)
open St (Strs)
def fitR (z b:Int) (r:ByteArray) (x:Rec):Bool:=decide (x.2.2.length<=20) && fitsB z b r x.1 x.2.1 x.2.2
theorem fit_long {z b:Int} {r:ByteArray} {x:Rec} (h:¬x.2.2.length<=20):fitR z b r x=false:=by
 unfold fitR
 rw[decide_eq_false h,Bool.false_and]
theorem fit_short {z b:Int} {r:ByteArray} {x:Rec} (h:x.2.2.length<=20):fitR z b r x=fitsB z b r x.1 x.2.1 x.2.2:=by
 unfold fitR
 rw[decide_eq_true h,Bool.true_and]
theorem fits_rec (z b:Int) (r:ByteArray) (x:MR) (w:World) (ht:x.1.2.1.size<=maxLen) (hp:x.1.2.2.length<=1048576) (hs:∃ a cap,x.2=.slice a x.1.2.2.length cap/\x.1.2.2.length<=cap/\Strs w w.heap.size a x.1.2.2) (hV:Vars w) :
  Calls Tryz.prog 107 #[.agg #[.int .i64 x.1.1,.string x.1.2.1,x.2],lV z b r] w fun e w'=>e=.returned (.bool (fitR z b r x.1))/\Below w.heap.size w w':=by
 obtain⟨⟨i,t,p⟩,v⟩:=x
 obtain⟨a,cap,hv,hc,hst⟩:=hs
 dsimp only at ht hp hv hc hst ⊢
 subst hv
 obtain⟨n,hn⟩:∃ n,n=p.length:=⟨_,rfl⟩
 have C0:=hideK (((Cx.nil w).new (.cells #[.int .i64 i,.string t,.slice a p.length cap] 129)).new (.cells #[.int .i64 z,.int .i64 b,.string r] 30))
 have HF:=hideK (fun (W:World) (hW:Below w.heap.size w W)=>fits_impl z b r i t p a cap n W ht hn (by omega) (by omega) ((hst.below hW).mono hW.size) (vars_keepF hV hW))
 have HL:=hideK (fun h=>fit_long (z:=z) (b:=b) (r:=r) (x:=(i,t,p)) h)
 have HS:=hideK (fun h=>fit_short (z:=z) (b:=b) (r:=r) (x:=(i,t,p)) h)
 dsimp only at HL HS
 rw[<-hn]at C0 HL HS ⊢
 clear hst hV hn hc
 unfold lV at HF ⊢
 by_cases h20:n<=20
 ·have h20':(n:Int)<=20:=by omega
  have HQ:=hideK (HS.out h20)
  rw[HQ.out]
  generalize fitsB z b r i t p=Q at HF ⊢
  clear HQ HL HS
  go_enter Tryz.func107,Tryz.ntmps107
  go_wp2_with fail
  refine(HF.out _ C0.out.low).mono ?_
  rintro e w1 ⟨rfl,hb⟩
  have B1:=hideK (C0.out.call hb).low
  clear hb C0
  go_wp2_with fail
  go_ret
  exact⟨rfl,B1.out⟩
 ·have HQ:=hideK (HL.out h20)
  rw[HQ.out]
  have h20':decide ((n:Int)<=20)=false:=by simp;omega
  clear HF HQ HL HS
  go_enter Tryz.func107,Tryz.ntmps107
  go_wp2_with fail
  go_ret
  exact⟨rfl,C0.out.low⟩
end Go.Proofs.YtpddanmnlkcdpaaGreatDoor.Kp


namespace Go.Proofs.YtpddanmnlkcdpaaGreatDoor.Ls
open Go.RowKit
open Bk (cnt count_any)
open Bi (is_yes is_no)
open Tr (inclB incl_spec)
open Sh (leafR leafV leafR_yes l03Leaf_any)
open St (Strs)
theorem calls_below {P:Program} {f:FuncId} {args:Array Value} {W:World} {v:Value} (h:Calls P f args W fun e w'=>e=.returned v/\w'=W):Calls P f args W fun e w'=>e=.returned v/\Below W.heap.size W w' :=
 h.mono fun e w' q=>⟨q.1,by rw[q.2];exact Below.refl _ _⟩
theorem calls_drew {P:Program} {f:FuncId} {args:Array Value} {W:World} {v:Value} (h:Calls P f args W fun e w'=>e=.returned v/\w'=W):Calls P f args W fun e w'=>e=.returned v/\∃ n,w'=W.drewN n :=
 h.mono fun _ _ q=>⟨q.1,0,q.2⟩
theorem l07Fits_spec (q k:Nat) (r:ByteArray) (i:Int) (t:ByteArray) (p:List ByteArray) (a:Option Addr) (cap m:Nat) (w:World) (hr:rightB q k r=true) (ht:t.size<=8000) (hm:m=p.length) (hp:m<=1048576) (hs:Strs w w.heap.size a p) :
  Calls Tryz.prog 104 #[lV q k r,.int .i64 i,.string t,.slice a m cap] w fun e w'=>e=.returned (.bool (fitsB q k r i t p))/\Below w.heap.size w w':=by
 have h:=rightB_yes hr
 have HA:Hid (Below w.heap.size w (w.alloc (.cells #[.int .i64 q,.int .i64 k,.string r] 30))):=(Below.refl _ _).alloc (Nat.le_refl _) _
 have HX:Hid ((w.alloc (.cells #[.int .i64 q,.int .i64 k,.string r] 30)).heap[w.heap.size]? = some (.cells #[.int .i64 q,.int .i64 k,.string r] 30 (0,0))):=heap_alloc_new w _
 have HC:=hideL (fun W=>calls_below (count_any q k W (by omega) (by omega) (by omega)))
 have HCq:=hideL (fun W=>calls_drew (count_any q k W (by omega) (by omega) (by omega)))
 obtain⟨hcn,hcl⟩:=countN_yes hr
 have HL:=hideL (fun W=>l03Leaf_any t W ht)
 have HFE:Hid (fitsB q k r i t p=inclB (leafR t) i ((cnt q k:Nat):Int) p r):=by unfold Hid fitsB;rw[hcn]
 have HI:Hid (∀ W,Below w.heap.size w W->Calls Tryz.prog 133 #[.string (leafV t),.int .i64 i,.int .i64 (cnt q k:Nat),.slice a m cap,.string r] W fun e w'=>e=.returned (.bool (inclB (leafV t) i ((cnt q k:Nat):Int) p r))/\Below W.heap.size W w'):=fun W h=>by
  have:=incl_spec (leafV t) r i (cnt q k:Nat) p a cap W.heap.size W (by omega) (by omega) ((hs.below h).mono h.size) (Nat.le_refl _)
  rw[<-hm]at this
  exact this
 have hmx:=mixedF
 clear hs hm hr h hcn
 generalize cnt q k=cn at HC HCq HI HFE hcl
 have hsub:IntKind.i64.wrap ((cn:Int)-1)=(cn:Int)-1:=by rw[IntKind.wrap_i64];omega
 by_cases hi:0<=i/\i<=(cn:Int)-1
 ·have HIS:=hideL (fun W=>calls_below (is_yes i 0 ((cn:Int)-1) W hi.1 hi.2))
  have HISq:=hideL (fun W=>calls_drew (is_yes i 0 ((cn:Int)-1) W hi.1 hi.2))
  by_cases h1:t.size<=100
  ·have HQ:Hid (fitsB q k r i t p=inclB (leafV t) i ((cn:Nat):Int) p r):=by rw[HFE.out,leafR_yes t (by omega)];rfl
   have h1':decide ((t.size:Int)<=100)=true:=by simp;omega
   have h1i:(t.size:Int)<=100:=by omega
   rw[HQ.out]
   clear HQ HFE hi
   generalize inclB (leafV t) i ((cn:Nat):Int) p r=Q at HI ⊢
   generalize leafV t=lf at HI HL
   unfold lV
   go_enter Tryz.func104,Tryz.ntmps104
   go_wp2_with fail
   generalize hww:w.alloc (.cells #[.int .i64 q,.int .i64 k,.string r] 30)=wa at HA HX ⊢
   clear hww
   obtain⟨c0,c1,c2⟩:=cells3 HX.out
   generalize w.heap.size=gx at c0 c1 c2 ⊢
   have g0:=fun d os=>cell_regrown c0 d os
   have g1:=fun d os=>cell_regrown c1 d os
   have g2:=fun d os=>cell_regrown c2 d os
   refine wp_region_quiet_below (by assumption) (by kernel_rfl) ?_
   repeat (quiet_step (first|(go_at_call 102;exact Calls.regrown_of (HC.out _))|(go_at_call 53;exact Calls.regrown_of (HIS.out _))|(go_at_call 134;exact Calls.regrown_of (HL.out _))|(go_at_call 133;exact Calls.regrown_of (HI.out _ (lowL HA.out (below_regrown _ _ _))))))
   refine wpQuiet_nil ?_
   intro _ hw'
   obtain⟨⟨dq,osq⟩,hw''⟩:=hw'
   subst hw''
   have KQ:=hideL (below_regrown wa dq osq)
   generalize Go.Sort.grow (redrawn wa dq) osq=w8 at KQ ⊢
   clear g0 g1 g2 c0 c1 c2
   go_wp2_with fail
   go_ret
   exact⟨rfl,lowL HA.out KQ.out⟩
  ·have HQ:=hideL (fits_piece (z:=q) (b:=k) (r:=r) (i:=i) (p:=p) (t:=t) (by omega))
   have h1d:decide ((t.size:Int)<=100)=false:=by simp;omega
   have h1n:decide (t.size<=100)=false:=by simp;omega
   have h1i:¬(t.size:Int)<=100:=by omega
   rw[HQ.out]
   clear HQ HFE hi HI HL
   unfold lV
   go_enter Tryz.func104,Tryz.ntmps104
   go_wp2_with fail
   generalize hww:w.alloc (.cells #[.int .i64 q,.int .i64 k,.string r] 30)=wa at HA HX ⊢
   clear hww
   obtain⟨c0,c1,c2⟩:=cells3 HX.out
   generalize w.heap.size=gx at c0 c1 c2 ⊢
   go_quiet (first|(go_at_call 102;refine Calls.quiet_of (HCq.out _))|(go_at_call 53;refine Calls.quiet_of (HISq.out _)))
   all_goals (try go_wp2_with fail)
   all_goals go_ret
   all_goals exact⟨rfl,lowL HA.out (below_drewN (Below.refl _ _) _)⟩
 ·have HQ:Hid (fitsB q k r i t p=false):=by rw[HFE.out];exact inclB_range (by omega)
  have HISq:Hid (∀ W,_):=fun W=>calls_drew (is_no i 0 ((cn:Int)-1) W (by omega))
  rw[HQ.out]
  clear HQ HFE hi HI HL
  unfold lV
  go_enter Tryz.func104,Tryz.ntmps104
  go_wp2_with fail
  generalize hww:w.alloc (.cells #[.int .i64 q,.int .i64 k,.string r] 30)=wa at HA HX ⊢
  clear hww
  obtain⟨c0,c1,c2⟩:=cells3 HX.out
  generalize w.heap.size=gx at c0 c1 c2 ⊢
  go_quiet (first|(go_at_call 102;refine Calls.quiet_of (HCq.out _))|(go_at_call 53;refine Calls.quiet_of (HISq.out _)))
  all_goals (try go_wp2_with fail)
  all_goals go_ret
  all_goals exact⟨rfl,lowL HA.out (below_drewN (Below.refl _ _) _)⟩
end Go.Proofs.YtpddanmnlkcdpaaGreatDoor.Ls


/- What fits: the contracts of both sides at every record. -/
namespace Go.Proofs.YtpddanmnlkcdpaaGreatDoor.Kp
open Go.RowKit
open Ls (rightB rightB_yes lV vars_keepF l07Fits_spec fitsB fits_piece countN_le)
open Tr (inclB wide_yes)
open Sh (Vars)
theorem fitC_of (z b:Int) (r:ByteArray) (w:World) (hV:Vars w):FitC (fitR z b r) z b r w:=fun W x hW h1 h2 h3 =>
 fits_rec z b r x W (by unfold maxLen;omega) (by omega) h3 (vars_keepF hV hW)
theorem fitS_of (z b:Int) (r:ByteArray) (w:World) (hr:rightB z b r=true):FitS (fitR z b r) z b r w:=fun W x hW h1 h2 h3=>by
 have h4:=rightB_yes hr
 obtain⟨p,rfl⟩:=Int.eq_ofNat_of_zero_le h4.1
 obtain⟨k,rfl⟩:=Int.eq_ofNat_of_zero_le (show 0<=b by omega)
 obtain⟨a,cap,hv,hc,hst⟩:=h3
 rw[hv,fit_short h2]
 exact l07Fits_spec p k r x.1.1 x.1.2.1 x.1.2.2 a cap x.1.2.2.length W hr h1 rfl (by omega) hst
end Go.Proofs.YtpddanmnlkcdpaaGreatDoor.Kp


/- What the laws over a Peer have in common. -/
namespace Go.Proofs.YtpddanmnlkcdpaaGreatDoor.Pe
open Go.RowKit
open Kp
open Ls (HH hh_keep lV rightB vars_keepF lowL)
open Sh (Vars)
theorem small_lens {m:List MO} {K:Nat} (h:K+tot (oths m)<=1048576) (hl:Lens m):Small m:=fun x hx=>by
 have h1:=cost_le hx
 have h2:=hl x hx
 unfold cost at h1
 exact⟨by omega,h2.2⟩
end Go.Proofs.YtpddanmnlkcdpaaGreatDoor.Pe


/- What the laws over a peer's calls have in common: answers in memory. -/
namespace Go.Proofs.YtpddanmnlkcdpaaGreatDoor.Pl
open Go.RowKit
open Kp
open Pe
open In (Ints OwnI)
open Ls (lowL)
open St (OwnS)
structure PoW (W:World) (lo hi:Nat) (vo vs:Value) (mo:List MO) (ms:List ML):Prop where
 inn:PoIn W lo vo vs mo ms
 ib:InB lo hi vo mo
 il:∀ g,vs.ownBlock=some g->lo<=g/\g<hi
 ip:∀ x∈ms,∀ g,x.2.ownBlock=some g->lo<=g/\g<hi
theorem PoIn.wide {W:World} {lo:Nat} {vo vs:Value} {mo:List MO} {ms:List ML} (h:PoIn W lo vo vs mo ms):PoW W lo W.heap.size vo vs mo ms :=
 ⟨h,⟨fun _ hg=>World.ownsRow.lt h.orow _ hg,fun x hx _ hg=>World.ownsRow.lt (h.has x hx) _ hg⟩,fun _ hg=>World.ownsRow.lt h.srow _ hg,fun x hx _ hg=>World.ownsRow.lt (h.pth x hx) _ hg⟩
theorem own_chg {W W':World} {base n k lo hi lo' hi':Nat} {e:TypeId} {v:Value} {xs:List Value} (h:W.ownsRow base e k v n xs) (hv:∀ g,v.ownBlock=some g->lo<=g/\g<hi) (hc:Chg lo' hi' W W') (ho:hi<=lo'∨hi'<=lo):W'.ownsRow base e k v n xs:=by
 obtain⟨hl,h⟩:=h
 refine⟨hl,?_⟩
 rcases h with h|⟨g,cap,cur,hvv,hg,hb,rest⟩
 ·exact .inl h
 ·have:=hv g (by rw[hvv];rfl)
  exact .inr ⟨g,cap,cur,hvv,hg,(hc.block g (lt_rowK hb) (by omega)).trans hb,rest⟩
theorem PoW.chg {W W':World} {lo hi lo' hi':Nat} {vo vs:Value} {mo:List MO} {ms:List ML} (h:PoW W lo hi vo vs mo ms) (hc:Chg lo' hi' W W') (ho:hi<=lo'∨hi'<=lo):PoW W' lo hi vo vs mo ms :=
 ⟨⟨own_chg h.inn.orow h.ib.1 hc ho,fun x hx=>own_chg (h.inn.has x hx) (h.ib.2 x hx) hc ho,h.inn.ap,own_chg h.inn.srow h.il hc ho,fun x hx=>own_chg (h.inn.pth x hx) (h.ip x hx) hc ho,h.inn.apl⟩,h.ib,h.il,h.ip⟩
theorem PoW.call {W W':World} {lo hi:Nat} {vo vs:Value} {mo:List MO} {ms:List ML} (h:PoW W lo hi vo vs mo ms) (hb:Below W.heap.size W W'):PoW W' lo hi vo vs mo ms:=⟨h.inn.call hb,h.ib,h.il,h.ip⟩
structure Fine (p:PO):Prop where
 many:p.os.length<=1024
 has:∀ o∈p.os,o.has.length<=1048576/\o.name.size<=maxLen
 sent:p.ss.length<=1048576
 path:∀ x∈p.ss,x.path.length<=1048576
def Ans (W:World) (lo hi:Nat) (vo vs:Value) (p:PO):Prop:=∃ mo ms,oths mo=p.os/\snts ms=p.ss/\PoW W lo hi vo vs mo ms
def AnsN (W:World) (lo hi:Nat) (vo vs:Value) (p:PO):Prop:=∃ mo ms,oths mo=p.os/\snts ms=p.ss/\PoW W lo hi vo vs mo ms/\NoPath ms
def AnsM (W:World) (lo hi:Nat) (vo vs:Value) (p:PO):Prop:=∃ m',Mkd W lo hi vo vs p.os p.ss.length m'
theorem AnsN.ans {W:World} {lo hi:Nat} {vo vs:Value} {p:PO} (h:AnsN W lo hi vo vs p):Ans W lo hi vo vs p:=by
 obtain⟨mo,ms,h1,h2,h3,_⟩:=h
 exact⟨mo,ms,h1,h2,h3⟩
theorem Ans.shape {W:World} {lo hi:Nat} {vo vs:Value} {p:PO} (h:Ans W lo hi vo vs p):∃ ao co as' cs,vo=.slice ao p.os.length co/\vs=.slice as' p.ss.length cs:=by
 obtain⟨mo,ms,h1,h2,h3⟩:=h
 obtain⟨ao,co,e1,_,_⟩:=h3.inn.orow.one
 obtain⟨as',cs,e2,_,_⟩:=h3.inn.srow.one
 exact⟨ao,co,as',cs,by rw[e1,<-h1,oths_length],by rw[e2,<-h2,snts_length]⟩
theorem Ans.call {W W':World} {lo hi:Nat} {vo vs:Value} {p:PO} (h:Ans W lo hi vo vs p) (hb:Below W.heap.size W W'):Ans W' lo hi vo vs p:=by
 obtain⟨mo,ms,h1,h2,h3⟩:=h
 exact⟨mo,ms,h1,h2,h3.call hb⟩
theorem Ans.chg {W W':World} {lo hi lo' hi':Nat} {vo vs:Value} {p:PO} (h:Ans W lo hi vo vs p) (hc:Chg lo' hi' W W') (ho:hi<=lo'∨hi'<=lo):Ans W' lo hi vo vs p:=by
 obtain⟨mo,ms,h1,h2,h3⟩:=h
 exact⟨mo,ms,h1,h2,h3.chg hc ho⟩
theorem AnsN.call {W W':World} {lo hi:Nat} {vo vs:Value} {p:PO} (h:AnsN W lo hi vo vs p) (hb:Below W.heap.size W W'):AnsN W' lo hi vo vs p:=by
 obtain⟨mo,ms,h1,h2,h3,h4⟩:=h
 exact⟨mo,ms,h1,h2,h3.call hb,h4⟩
theorem AnsN.chg {W W':World} {lo hi lo' hi':Nat} {vo vs:Value} {p:PO} (h:AnsN W lo hi vo vs p) (hc:Chg lo' hi' W W') (ho:hi<=lo'∨hi'<=lo):AnsN W' lo hi vo vs p:=by
 obtain⟨mo,ms,h1,h2,h3,h4⟩:=h
 exact⟨mo,ms,h1,h2,h3.chg hc ho,h4⟩
theorem AnsM.call {W W':World} {lo hi:Nat} {vo vs:Value} {p:PO} (h:AnsM W lo hi vo vs p) (hb:Below W.heap.size W W'):AnsM W' lo hi vo vs p:=by
 obtain⟨m',h⟩:=h
 exact⟨m',h.call hb⟩
theorem own_ans {W:World} {base:Nat} {e:Ending} {p:PO} (h:OwnPO W base e p):∃ vo vs,e=.returned (poV p.z p.b p.r p.s p.y vo vs p.c)/\Ans W base W.heap.size vo vs p:=by
 obtain⟨vo,vs,mo,ms,he,h1,h2,h3⟩:=h
 exact⟨vo,vs,he,mo,ms,h1,h2,h3.wide⟩
theorem own_ansN {W:World} {base:Nat} {e:Ending} {p:PO} (h:OwnPN W base e p):∃ vo vs,e=.returned (poV p.z p.b p.r p.s p.y vo vs p.c)/\AnsN W base W.heap.size vo vs p:=by
 obtain⟨vo,vs,mo,ms,he,h1,h2,h3,h4⟩:=h
 exact⟨vo,vs,he,mo,ms,h1,h2,h3.wide,h4⟩
theorem eqA {W:World} {lo hi lo' hi':Nat} {vo vs vo' vs':Value} {p:PO} (h:Ans W lo hi vo vs p) (h':Ans W lo' hi' vo' vs' p) (hf:Fine p) :
  Calls Tryz.prog 10 #[poV p.z p.b p.r p.s p.y vo vs p.c,poV p.z p.b p.r p.s p.y vo' vs' p.c] W fun e w'=>e=.returned (.bool true)/\Below W.heap.size W w':=by
 obtain⟨mo,ms,h1,h2,h3⟩:=h
 obtain⟨mo',ms',h1',h2',h3'⟩:=h'
 obtain⟨ao,co,e1,_,_⟩:=h3.inn.orow.one
 obtain⟨as',cs,e2,_,_⟩:=h3.inn.srow.one
 obtain⟨ao',co',e3,_,_⟩:=h3'.inn.orow.one
 obtain⟨as2,cs',e4,_,_⟩:=h3'.inn.srow.one
 have l1:mo'.length=mo.length:=by rw[<-oths_length mo',h1',<-h1,oths_length]
 have l2:ms'.length=ms.length:=by rw[<-snts_length ms',h2',<-h2,snts_length]
 rw[l1]at e3
 rw[l2]at e4
 subst e1 e2 e3 e4
 have k1:mo.length=p.os.length:=by rw[<-h1,oths_length]
 have k2:ms.length=p.ss.length:=by rw[<-h2,snts_length]
 have f1:=hf.many
 have f2:=hf.sent
 obtain⟨⟨a1,_⟩,a2,_⟩:=h3.inn.oths
 obtain⟨⟨b1,_⟩,b2,_⟩:=h3'.inn.oths
 exact eqPO_any p.z p.b p.r p.s p.y ao ao' as' as2 mo.length ms.length co co' cs cs' p.c mo mo' ms ms' W a1 b1 (h1.trans h1'.symm) rfl (by omega) (fun x hx=>hf.has x.1 (by rw[<-h1];exact List.mem_map_of_mem hx)) a2 b2 (h2.trans h2'.symm) rfl (by omega) (fun x hx=>hf.path x.1 (by rw[<-h2];exact List.mem_map_of_mem hx))
theorem mkE_far:∀ (l:List Oth) (k:Nat),(∀ o∈l,o.has.length<=1048576)->mkE k l<=k+1048580*l.length
 |[],k,_=>by unfold mkE;omega
 |o :: l,k,h=>by
  have h1:=mkE_far l (mkN k o) (fun x hx=>h x (List.mem_cons_of_mem _ hx))
  have h2:=h o (List.mem_cons_self ..)
  rw[mkE,List.length_cons]
  unfold mkN at h1 ⊢
  omega
def ansK (p:PO):Nat:=mkE 1 p.os+4*p.ss.length
theorem fine_far {p:PO} (hf:Fine p):ansK p<=1099511627776:=by
 have h1:=mkE_far p.os 1 (fun o ho=>(hf.has o ho).1)
 have h2:=hf.many
 have h3:=hf.sent
 unfold ansK
 omega
theorem markA {W:World} {lo hi:Nat} {vo vs:Value} {p:PO} (h:AnsN W lo hi vo vs p) (hf:Fine p) :
  Calls Tryz.prog 13 #[poV p.z p.b p.r p.s p.y vo vs p.c,.int .i64 1] W fun e w'=>e=.returned (.int .i64 (ansK p:Nat))/\AnsM w' lo hi vo vs p/\Chg lo hi W w':=by
 obtain⟨mo,ms,h1,h2,h3,h4⟩:=h
 have k1:mo.length=p.os.length:=by rw[<-h1,oths_length]
 have k2:ms.length=p.ss.length:=by rw[<-h2,snts_length]
 have f1:=hf.many
 have f2:=hf.sent
 have f3:=fine_far hf
 unfold ansK at f3
 have:=markPO_any p.z p.b p.r p.s p.y p.c lo hi vo vs mo ms W ⟨h3.inn.orow,h3.inn.has,h3.inn.ap,h3.ib⟩ ⟨h3.inn.srow,h3.il,h4⟩ (by omega) (fun x hx=>(hf.has x.1 (by rw[<-h1];exact List.mem_map_of_mem hx)).1) (by omega) (by rw[h1,k2];exact f3)
 rw[h1,k2]at this
 exact this
theorem heldA {W:World} {lo hi:Nat} {vo vs:Value} {p:PO} (h:AnsM W lo hi vo vs p) (hf:Fine p) :
  Calls Tryz.prog 14 #[poV p.z p.b p.r p.s p.y vo vs p.c,.int .i64 1] W fun e w'=>e=.returned (.int .i64 (ansK p:Nat))/\Below W.heap.size W w':=by
 obtain⟨m',h⟩:=h
 have f1:=hf.many
 exact heldPO_any p.z p.b p.r p.s p.y p.c lo hi vo vs p.os p.ss.length m' W h (by omega) (fun o ho=>(hf.has o ho).1) hf.sent (fine_far hf)
theorem cx_chgL {w W W':World} {l:List (Nat × Obj)} {lo hi:Nat} (h:Cx w W l) (hc:Chg lo hi W W') (hg:w.heap.size<=lo) (hne:∀ x∈l,x.1<lo∨hi<=x.1):Cx w W' l :=
 ⟨Chg.below h.low hc hg h.low.size,fun x hx=>(hc.block x.1 (lt_rowK (h.blk x hx)) (hne x hx)).trans (h.blk x hx)⟩
end Go.Proofs.YtpddanmnlkcdpaaGreatDoor.Pl


/- The specification: another one is met. -/
namespace Go.Proofs.YtpddanmnlkcdpaaGreatDoor.Pl
open Go.RowKit
open Kp
open Pe
open Pm
open In (Ints OwnI)
open Go.Proofs.YtpddanmnlkcdpaaGreatDoor.Nm (nameB)
open Tr (wpList_append_opt)
open Ap (KeepE keepE_own)
open Ls (lowL blk_alloc)
theorem ownL_lit (W:World):OwnL (W.alloc (.cells #[] 114)) W.heap.size (.slice (some ⟨W.heap.size,0,none⟩) 0 0) [] :=
 ⟨rfl,.inr ⟨W.heap.size,0,#[],rfl,Nat.le_refl _,heap_alloc_new W _,Nat.le_refl _,by decide,rfl,rfl⟩⟩
end Go.Proofs.YtpddanmnlkcdpaaGreatDoor.Pl


/- The program: another one is met (the walk). -/
namespace Go.Proofs.YtpddanmnlkcdpaaGreatDoor.Pl
open Go.RowKit
open Kp
open Pe
open Pm
open In (Ints OwnI)
open Go.Proofs.YtpddanmnlkcdpaaGreatDoor.Nm (nameB)
open Ap (KeepE keepE_own)
open Ls (blk_alloc lowL HH hh_keep)
theorem rec_len (fit:Rec->Bool) (s:ByteArray) (hs:s.size<=1048576):(allR fit s).1.length<=1048576:=by
 have h1:=allR_many fit s
 have h2:=allR_le fit s
 omega
theorem _root_.Go.Proofs.YtpddanmnlkcdpaaGreatDoor.Pe.OpenP.lower {fit:Rec->Bool} {s:ByteArray} {m:List MO} {base base':Nat} {W:World} {v vo:Value} {mr:List MR} {mo:List MO} (h:OpenP fit s m base W v vo mr mo) (hb:base'<=base):OpenP fit s m base' W v vo mr mo :=
 ⟨h.rs,h.row.mono hb,h.ps.mono hb,h.os,h.orow.mono hb,fun x hx=>(h.has x hx).mono hb,h.ap⟩
theorem poIn_others {W W':World} {base g:Nat} {vo vs:Value} {mo:List MO} {ms:List ML} {cs:Array Value} (h:PoIn W base vo vs mo ms) (hg:W.heap[g]? = some (.cells cs 38 (0,0))) (hk:∀ k o,W.heap[k]? = some o->k≠g->W'.heap[k]? = some o):PoIn W' base vo vs mo ms :=
 ⟨own_others h.orow hg (by decide) hk,fun x hx=>own_others (h.has x hx) hg (by decide) hk,h.ap,own_others h.srow hg (by decide) hk,fun x hx=>own_others (h.pth x hx) hg (by decide) hk,h.apl⟩
end Go.Proofs.YtpddanmnlkcdpaaGreatDoor.Pl


namespace Go.Proofs.YtpddanmnlkcdpaaGreatDoor.Pl
open Go.RowKit
open Kp
open Pe
open Pm
open In (Ints OwnI)
open Go.Proofs.YtpddanmnlkcdpaaGreatDoor.Nm (nameB)
open Ls (lowL blk_alloc rightB)
theorem ill_spec (c:Int) (w:World):Calls Tryz.prog 25 #[.int .i64 c] w fun e w'=>e=.returned (poV 0 0 ⟨#[]⟩ ⟨#[]⟩ 0 (.slice none 0 0) (.slice none 0 0) c)/\Below w.heap.size w w':=by
 have C0:=hideK ((Cx.nil w).new (poO 0 0 ⟨#[]⟩ ⟨#[]⟩ 0 (.slice none 0 0) (.slice none 0 0) 0))
 unfold poO at C0
 unfold poV
 go_enter Tryz.func25,Tryz.ntmps25
 go_upto_region 1 with fail
 generalize hgk:w.heap.size=gk at C0 ⊢
 generalize w.alloc _=W0 at C0 ⊢
 obtain⟨q0,q1,q2,q3,q4,q5,q6,q7⟩:=cellsP8 (C0.out.get 0 rfl)
 have ff:=fun o=>frozen_of_row W0 gk o _ _ (C0.out.get 0 rfl)
 have s8:=cellsP8 (setP8 (W:=W0) (C0.out.get 0 rfl) (.int .i64 0) (.int .i64 0) (.string ⟨#[]⟩) (.string ⟨#[]⟩) (.int .i64 0) (.slice none 0 0) (.slice none 0 0) (.int .i64 c))
 have E8:=hideK (setP8_low (W:=W0) C0.out.low (g:=gk) (by omega) (.int .i64 0) (.int .i64 0) (.string ⟨#[]⟩) (.string ⟨#[]⟩) (.int .i64 0) (.slice none 0 0) (.slice none 0 0) (.int .i64 c))
 go_wp2_with fail
 exact bodyPost_ret (v:=.agg #[.int .i64 0,.int .i64 0,.string ⟨#[]⟩,.string ⟨#[]⟩,.int .i64 0,.slice none 0 0,.slice none 0 0,.int .i64 c]) (by simp[results,Tryz.results25,go_sem,s8.1,s8.2.1,s8.2.2.1,s8.2.2.2.1,s8.2.2.2.2.1,s8.2.2.2.2.2.1,s8.2.2.2.2.2.2.1,s8.2.2.2.2.2.2.2]) rfl ⟨rfl,E8.out⟩
theorem cellsP7 {W:World} {g:Nat} {a0 a1 a2 a3 a4 a5 a6:Value} {T:TypeId} {fr:Nat × Nat} (h:W.heap[g]? = some (.cells #[a0,a1,a2,a3,a4,a5,a6] T fr)):W.cell? ⟨g,0,none⟩=some a0/\W.cell? ⟨g,1,none⟩=some a1/\W.cell? ⟨g,2,none⟩=some a2/\W.cell? ⟨g,3,none⟩=some a3/\W.cell? ⟨g,4,none⟩=some a4/\W.cell? ⟨g,5,none⟩=some a5/\W.cell? ⟨g,6,none⟩=some a6 :=
 ⟨cell_of_row W g 0 _ _ _ h,cell_of_row W g 1 _ _ _ h,cell_of_row W g 2 _ _ _ h,cell_of_row W g 3 _ _ _ h,cell_of_row W g 4 _ _ _ h,cell_of_row W g 5 _ _ _ h,cell_of_row W g 6 _ _ _ h⟩
theorem peerB_right {fit:Rec->Bool} {z b:Int} {r s:ByteArray} {y:Int} {l:List Oth} (h:peerB fit z b r s y l=true):rightB z b r=true:=by
 unfold peerB keepB atB mayB at h
 simp only[Bool.and_eq_true]at h
 exact h.1.1.1.1
theorem Game.poIn {w W:World} {gg:Nat} {z b:Int} {r s:ByteArray} {y:Int} {ao as':Option Addr} {no co ns cs:Nat} {va:Value} {mo:List MO} {mr:List MR} {ms:List ML} (h:Game w W gg z b r s y ao no co va mo mr) (hs:OwnL W w.heap.size (.slice as' ns cs) ms) (hn:∀ x∈ms,x.2=.slice none 0 0/\x.1.path=[]):PoIn W w.heap.size (.slice ao no co) (.slice as' ns cs) mo ms :=
 ⟨h.orow,h.has,h.ap,hs,fun x hx=>by rw[(hn x hx).1,(hn x hx).2];exact St.OwnS.nil _ _,pairwise_all ms fun a ha' _ _ g hg=>by rw[(hn a ha').1]at hg;simp[Value.ownBlock]at hg⟩
end Go.Proofs.YtpddanmnlkcdpaaGreatDoor.Pl


namespace Go.Proofs.YtpddanmnlkcdpaaGreatDoor.Tk
open Go.RowKit
open Kp
open Pe
open Pl
open In (Ints OwnI)
open Ls (lowL blk_alloc)
structure Lets (W:World) (base:Nat) (v:Value) (ms:List ML):Prop where
 row:OwnL W base v ms
 nl:∀ x∈ms,x.2=.slice none 0 0/\x.1.path=[]
theorem Lets.call {W W':World} {base:Nat} {v:Value} {ms:List ML} (h:Lets W base v ms) (hb:Below W.heap.size W W'):Lets W' base v ms:=⟨h.row.below hb,h.nl⟩
theorem Lets.snoc {W W':World} {base n:Nat} {v v':Value} {ms:List ML} {x:Snt} (h:Lets W base v ms) (hx:x.path=[]) (hn:ms.length=n) (ho:W'.ownsRow base 114 5 v' (n+1) (cellsL ms++[.string x.who,.int .i64 x.kind,.int .i64 x.index,.string x.piece,.slice none 0 0])):Lets W' base v' (ms++[(x,.slice none 0 0)]) :=
 ⟨OwnL.snoc (x:=(x,.slice none 0 0)) (by rw[hn];exact ho),fun q hq=>by
  rcases List.mem_append.1 hq with hq|hq
  ·exact h.nl q hq
  ·rw[List.mem_singleton.1 hq]
   exact⟨rfl,hx⟩⟩
theorem snts_snoc (ms:List ML) (x:Snt):snts (ms++[(x,.slice none 0 0)])=snts ms++[x]:=by
 unfold snts
 rw[List.map_append]
 rfl
theorem tell_spec (w W:World) (gg:Nat) (z b:Int) (r s:ByteArray) (y:Int) (ao:Option Addr) (n co:Nat) (va:Value) (mo:List MO) (mr:List MR) (i:Int) (hg:Game w W gg z b r s y ao n co va mo mr) (hm:mo.length=n) (hn:n<=1048576) (hst:∀ o∈Pe.oths mo,o.strikes<=3) :
  Calls Tryz.prog 94 #[.pointer (some ⟨gg,0,none⟩),.int .i64 i] W fun e w'=>∃ vs ms,e=.returned vs/\Lets w' W.heap.size vs ms/\snts ms=tellL (Pe.oths mo) i/\Below W.heap.size W w':=by
 obtain⟨i0,hi0,hz0,hz1,hz2⟩:=info_parts Tryz.infoSent
 have GM:=hideK hg
 have HM:=hideK hm
 have HSR:=hideK hst
 have c5:W.cell? ⟨gg,5,none⟩=some (.slice ao n co):=cell_of_row W gg 5 _ _ _ (by have:=hg.blk;unfold gmB at this;exact this)
 clear hg hm hst
 go_enter Tryz.func94,Tryz.ntmps94
 go_wp2_with fail
 go_loopw [5,6] (fun sv jv wq=>∃ (j:Nat) (ms:List ML),jv=.int .i64 j/\j<=n/\Lets wq W.heap.size sv ms/\Below W.heap.size W wq/\snts ms=tellL (Pe.oths (mo.take j)) i) (fun _ jv _=>n-(intOf jv).toNat)
 case atStart=>exact⟨0,[],rfl,Nat.zero_le _,⟨ownL_lit W,fun _ hx=>absurd hx List.not_mem_nil⟩,(Below.refl _ _).alloc (Nat.le_refl _) _,by unfold tellL Pe.oths;simp;rfl⟩
 case round =>
  obtain⟨j,ms,rfl,hj,hol,hbl,hsm⟩:=hrel
  have OL:=hideK hol
  have BL:=hideK hbl
  have SM:=hideK hsm
  have hzq:=hbl.size
  have HJN:Hid (ms.length<=j):=by
   have h1:=congrArg List.length hsm
   rw[snts_length]at h1
   have h2:=tell_len mo j i (by rw[HM.out];exact hj)
   unfold Hid
   omega
  have e5:wr.cell? ⟨gg,5,none⟩=some (.slice ao n co):=(hbl.cell (p:=⟨gg,5,none⟩) (lt_rowK GM.out.blk)).trans c5
  obtain⟨asl,csl,hsv,_,_⟩:=hol.row.one
  generalize hml:ms.length=L at hsv HJN
  have HML:=hideK hml
  have hLj:L<=j:=HJN.out
  subst hsv
  clear hol hbl hsm hml HJN
  by_cases hlt:j<n
  ·have hlt':(j:Int)<(n:Int):=by omega
   have hjl:j<mo.length:=by rw[HM.out];exact hlt
   obtain⟨g,cp,hv,_,hgs,_,hcc⟩:=GM.out.orow.cells (by omega)
   obtain⟨rfl,rfl⟩:ao=some ⟨g,0,none⟩/\co=cp:=by simp at hv;exact⟨hv.1,hv.2.2⟩
   obtain⟨d0,_,_,_,d4⟩:=(hcc j hjl).below BL.out hgs
   have HT:=hideK (tell_take i hjl)
   have ht3:mo[j].1.strikes<=3:=HSR.out _ (List.mem_map_of_mem (List.getElem_mem hjl))
   generalize mo[j].1.name=nm at d0 HT
   generalize mo[j].1.strikes=t at d4 HT ht3
   clear hcc hv
   by_cases ht:t=3
   ·have htD:decide (t<(3:Int))=false:=by simp;omega
    have htI:¬t<(3:Int):=by omega
    rw[if_pos ht,List.append_nil]at HT
    have SM3:Hid (snts ms=tellL (Pe.oths (mo.take (j+1))) i):=by unfold Hid;rw[HT.out];exact SM.out
    clear ht
    go_wp2_with fail
    go_roundw
    case rel=>exact⟨j+1,ms,by go_num,by omega,OL.out,BL.out,SM3.out⟩
    case measure=>simp[intOf];omega
   ·have htI:t<(3:Int):=by omega
    have htD:decide (t<(3:Int))=true:=by simp;omega
    rw[if_neg ht]at HT
    have OLa:Hid ((wr.alloc (.cells #[.string nm,.int .i64 1,.int .i64 i,.string ⟨#[]⟩,.slice none 0 0] 114)).ownsRow W.heap.size 114 5 (.slice asl L csl) L (cellsL ms)):=by
     have:=OL.out.row.alloc (.cells #[.string nm,.int .i64 1,.int .i64 i,.string ⟨#[]⟩,.slice none 0 0] 114)
     unfold OwnL at this
     rw[HML.out]at this
     exact this
    clear ht
    go_wp2_with (at_builtin;refine wpList_append_own _ rfl (.tmp 28) (.tmp 41) 36 rfl W.heap.size 114 i0 _ 5 72 Tryz.underlying36 hi0 hz0 hz1 hz2 rfl (by decide) (.slice asl L csl) L (cellsL ms) rfl OLa.out ⟨wr.heap.size,0,none⟩ 1 1 [.string nm,.int .i64 1,.int .i64 i,.string ⟨#[]⟩,.slice none 0 0] rfl rfl (five_new _ _ _ _ _ _ _) (five_one rfl rfl rfl rfl rfl) (by unfold maxLen;omega) (by omega) (by simp;omega) ?_)
    intro v8 w8 hown8 hgrow8 _
    have K8:=hideK (OL.out.snoc (x:=letterH nm i) rfl HML.out hown8)
    have S8:Hid (snts (ms++[(letterH nm i,.slice none 0 0)])=tellL (Pe.oths (mo.take (j+1))) i):=by unfold Hid;rw[snts_snoc,HT.out,SM.out]
    have B8:Hid (Below W.heap.size W w8):=(BL.out.alloc hzq _).grown hgrow8 (by simp;omega) (fun q hq=>(World.ownsRow.lt OL.out.row q hq).1)
    clear hown8 hgrow8 OLa
    go_wp2_with fail
    go_roundw
    case rel=>exact⟨j+1,_,by go_num,by omega,K8.out,B8.out,S8.out⟩
    case measure=>simp[intOf];omega
  ·obtain rfl:j=n:=by omega
   have hltD:decide ((j:Int)<(j:Int))=false:=by simp
   have HE:Hid (snts ms=tellL (Pe.oths mo) i):=by
    have:=SM.out
    rw[List.take_of_length_le (by rw[HM.out];exact Nat.le_refl _)]at this
    exact this
   go_wp2_with fail
   go_ret
   exact⟨_,ms,rfl,OL.out,HE.out,BL.out⟩
end Go.Proofs.YtpddanmnlkcdpaaGreatDoor.Tk


namespace Go.Proofs.YtpddanmnlkcdpaaGreatDoor.Tk
open Go.RowKit
open Kp
open Pe
open Pl
open In (Ints OwnI)
open Ls (lowL blk_alloc)
theorem rises_fresh {l:List Int} {c:Int} (h:RisesTo l c l.length):∀ (j i:Nat) (hj:j<l.length) (hi:i<j),l[i]'(Nat.lt_trans hi hj)<l[j]
 |0,_,_,hi=>absurd hi (Nat.not_lt_zero _)
 |j+1,i,hj,hi=>by
  have h1:=(h (j+1) hj hj).2.2 (by omega)
  rw[List.getD_eq_getElem?_getD,Nat.add_sub_cancel,List.getElem?_eq_getElem (by omega)]at h1
  dsimp only[Option.getD]at h1
  by_cases e:i=j
  ·subst e
   exact h1
  ·have:=rises_fresh h j i (by omega) (by omega)
   omega
theorem rises_not {l:List Int} {c:Int} (h:RisesTo l c l.length) {j:Nat} (hj:j<l.length):¬l[j]∈l.take j:=fun hm=>by
 obtain⟨i,hi,e⟩:=List.getElem_of_mem hm
 rw[List.length_take]at hi
 rw[List.getElem_take]at e
 have:=rises_fresh h j i hj (by omega)
 omega
def oneN (p:Prop) [Decidable p]:Nat:=if p then 1 else 0
def mineB (l:List Oth) (k:Nat) (x:Int) (i:Nat):Bool:=decide (k<i) && (match l[k]? with|none=>false|some o=>decide (x∈o.has))
theorem mine_next {l:List Oth} {k:Nat} {x:Int} {i:Nat} (hi:i<l.length):mineB l k x (i+1)=(mineB l k x i || (decide (i=k) && decide (x∈l[i].has))):=by
 unfold mineB
 by_cases h:i=k
 ·subst h
  rw[List.getElem?_eq_getElem hi]
  simp
 ·have h1:decide (k<i+1)=decide (k<i):=by
   by_cases h2:k<i
   ·rw[decide_eq_true h2,decide_eq_true (by omega)]
   ·rw[decide_eq_false h2,decide_eq_false (by omega)]
  rw[h1,decide_eq_false h]
  simp
def manyZ (l:List Oth) (k:Nat) (rs:List Int) (x:Int):Int:=if askB l x=true then -1 else if (mineB l k x l.length && !decide (x∈rs))=true then (ownN l x:Nat) else -1
theorem askB_take {m:List MO} {j:Nat} {x:Int} (hj:j<m.length) (h:m[j].1.asked=x+1):askB (oths m) x=true:=by
 unfold askB
 rw[List.any_eq_true]
 exact⟨m[j].1,List.mem_map_of_mem (List.getElem_mem hj),by simp[h]⟩
theorem askB_none {m:List MO} {x:Int} (h:∀ t (ht:t<m.length),¬m[t].1.asked=x+1):askB (oths m) x=false:=by
 unfold askB
 rw[List.any_eq_false]
 intro o ho
 obtain⟨q,hq,rfl⟩:=List.mem_map.1 ho
 obtain⟨t,ht,rfl⟩:=List.getElem_of_mem hq
 simp[h t ht]
theorem many_spec (w W:World) (gg:Nat) (z b:Int) (r s:ByteArray) (y:Int) (ao:Option Addr) (n co:Nat) (va:Value) (mo:List MO) (mr:List MR) (hg:Game w W gg z b r s y ao n co va mo mr) (hm:mo.length=n) (hn:n<=4) (hr:mr.length<=1048576) (c:Int) (hris:∀ o∈Pe.oths mo,RisesTo o.has c o.has.length) (hsm:∀ y∈mo,y.1.has.length<=1048576) (k:Nat) (hk:k<n) (x:Int) (hx0:0<=x) (hx1:x<=1048576) :
  Calls Tryz.prog 125 #[.pointer (some ⟨gg,0,none⟩),.int .i64 k,.int .i64 x] W fun e w'=>e=.returned (.int .i64 (manyZ (Pe.oths mo) k (idxs mr) x))/\Below W.heap.size W w':=by
 have GM:=hideK hg
 have HM:=hideK hm
 have HRI:=hideK hris
 have HSM:=hideK hsm
 have c5:W.cell? ⟨gg,5,none⟩=some (.slice ao n co):=cell_of_row W gg 5 _ _ _ (by have:=hg.blk;unfold gmB at this;exact this)
 have HYE:Hid (∀ j (hj:j<mo.length),mo[j].1.asked=x+1->manyZ (Pe.oths mo) k (idxs mr) x = -1):=fun j hj h=>by unfold manyZ;rw[if_pos (askB_take hj h)]
 clear hg hm hris hsm
 go_enter Tryz.func125,Tryz.ntmps125
 go_wp2_with fail
 go_loopw [7,8,9,10,11] (fun nv bv iv _ _ wr=>∃ (i q:Nat),iv=.int .i64 i/\nv=.int .i64 (q:Int)/\bv=.bool (mineB (Pe.oths mo) k x i)/\i<=n/\q<=i/\q=ownN (Pe.oths (mo.take i)) x/\(∀ t (ht:t<mo.length),t<i->¬mo[t].1.asked=x+1)/\Below W.heap.size W wr) (fun _ _ iv _ _ _=>n-(intOf iv).toNat)
 case atStart=>exact⟨0,0,rfl,rfl,by unfold mineB;simp,Nat.zero_le _,Nat.le_refl _,rfl,fun t _ h=>absurd h (by omega),Below.refl _ _⟩
 case round =>
  obtain⟨i,q,rfl,rfl,rfl,hi,hqi,hq,hno,hbel⟩:=hrel
  have HQ:=hideK hq
  have HNO:=hideK hno
  have GB:=hideK hbel
  have e5:wr.cell? ⟨gg,5,none⟩=some (.slice ao n co):=(hbel.cell (p:=⟨gg,5,none⟩) (lt_rowK GM.out.blk)).trans c5
  clear hq hno hbel
  by_cases hlt:i<n
  ·have hlt':(i:Int)<(n:Int):=by omega
   have hil:i<mo.length:=by rw[HM.out];exact hlt
   obtain⟨g,cp,hv,_,hgs,_,hcc⟩:=GM.out.orow.cells (by omega)
   obtain⟨rfl,rfl⟩:ao=some ⟨g,0,none⟩/\co=cp:=by simp at hv;exact⟨hv.1,hv.2.2⟩
   obtain⟨d0,d1,d2,d3,d4⟩:=(hcc i hil).below GB.out hgs
   obtain⟨ax,cx,hxv,_,hix⟩:=(GM.out.has mo[i] (List.getElem_mem hil)).ints
   rw[hxv]at d1
   have HOW:Hid (ownN (Pe.oths (mo.take (i+1))) x=q+if x∈mo[i].1.has then 1 else 0):=by
    unfold Hid
    rw[oths_take hil,ownN_snoc,HQ.out]
   have hio:i<(Pe.oths mo).length:=by rw[oths_length];exact hil
   have HMI:Hid (mineB (Pe.oths mo) k x (i+1)=(mineB (Pe.oths mo) k x i || (decide (i=k) && decide (x∈mo[i].1.has)))):=by
    unfold Hid
    rw[mine_next hio,oths_get mo i hil]
   have HYX:=hideK (HYE.out i hil)
   have HRX:Hid (RisesTo mo[i].1.has c mo[i].1.has.length):=HRI.out _ (List.mem_map_of_mem (List.getElem_mem hil))
   have hlb:mo[i].1.has.length<=1048576:=HSM.out _ (List.getElem_mem hil)
   have HNX:Hid (¬mo[i].1.asked=x+1->∀ t (ht:t<mo.length),t<i+1->¬mo[t].1.asked=x+1):=fun h t ht hti=>by
    by_cases e:t=i
    ·subst e;exact h
    ·exact HNO.out t ht (by omega)
   have HIX:=hideK (fun V (hV:Below W.heap.size W V)=>hix.below hV)
   generalize mo[i].1.name=nm at d0
   generalize mo[i].1.asked=qa at d2 HYX HNX
   generalize mo[i].1.age=ga at d3
   generalize mo[i].1.strikes=st at d4
   generalize mo[i].1.has=hl at d1 HOW HMI HRX hlb HIX hix hxv
   generalize hhl:hl.length=hln at d1 hlb hxv
   have HHL:=hideK hhl
   have XB:=hideK (heap_alloc_new wr (.cells #[.string nm,.slice ax hln cx,.int .i64 qa,.int .i64 ga,.int .i64 st] 86))
   have D1:=hideK (GB.out.alloc GB.out.size (.cells #[.string nm,.slice ax hln cx,.int .i64 qa,.int .i64 ga,.int .i64 st] 86))
   generalize hmm:mineB (Pe.oths mo) k x i=mb at HMI ⊢
   clear hcc hxv hhl hv hmm hix
   go_upto_region 7 with fail
   generalize wr.alloc (.cells #[.string nm,.slice ax hln cx,.int .i64 qa,.int .i64 ga,.int .i64 st] 86)=W2 at XB D1 ⊢
   generalize wr.heap.size=g2 at XB ⊢
   obtain⟨e0,e1,e2,e3,e4⟩:=cells5 XB.out
   clear d0 d1 d2 d3 d4
   by_cases hqa:qa=x+1
   ·have hq1:(qa==x+1)=true:=beq_iff_eq.2 hqa
    have HE:=hideK (HYX.out hqa)
    clear hqa
    go_wp2_with fail
    go_ret
    exact⟨by rw[HE.out];rfl,D1.out⟩
   ·have hq1:(qa==x+1)=false:=by simp[hqa]
    have HN2:=hideK (HNX.out hqa)
    go_wp2_with fail
    go_loopw [7,8,11] (fun nv bv jv wx=>∃ (j q':Nat) (mb':Bool),jv=.int .i64 j/\nv=.int .i64 (q':Int)/\bv=.bool mb'/\j<=hln/\q'<=q+1/\q'=q+oneN (x∈hl.take j)/\mb'=(mb || (decide (i=k) && decide (x∈hl.take j)))/\wx=W2) (fun _ _ jv _=>hln-(intOf jv).toNat)
    case atStart=>exact⟨0,q,mb,rfl,rfl,rfl,Nat.zero_le _,Nat.le_succ _,by unfold oneN;simp,by simp,rfl⟩
    case round =>
     obtain⟨j,q',mb',rfl,rfl,rfl,hj,hq',hqe,hmb,hw⟩:=hrel
     subst hw
     have HQE:=hideK hqe
     have HMB:=hideK hmb
     clear hqe hmb
     by_cases hjl:j<hln
     ·have hjl':(j:Int)<(hln:Int):=by omega
      have hjm:j<hl.length:=by rw[HHL.out];exact hjl
      obtain⟨bx,ox,rfl,hbx,hcx⟩:∃ b off,ax=some ⟨b,off,none⟩/\b<W.heap.size/\∀ t (ht:t<hl.length),wr.cell? ⟨b,off+t,none⟩=some (.int .i64 hl[t]):=by
       rcases HIX.out wr D1.out with h|h
       ·rw[h]at hjm;simp at hjm
       ·exact h
      have cj:=hcx j hjm
      have HFR:=hideK (rises_not HRX.out hjm)
      have HTK:Hid (hl.take (j+1)=hl.take j++[hl[j]]):=List.take_succ_eq_append_getElem hjm
      generalize hl[j]=hj' at cj HFR HTK
      clear hcx
      by_cases hxe:hj'=x
      ·have hb1:(hj' == x)=true:=beq_iff_eq.2 hxe
       have HQN:Hid (q'=q):=by
        have h1:=HQE.out
        have h2:=HFR.out
        rw[hxe]at h2
        unfold oneN at h1
        rw[if_neg h2]at h1
        exact h1
       have HX1:Hid (q' + 1=q+oneN (x∈hl.take (j+1))):=by
        unfold Hid oneN
        rw[HTK.out,hxe,if_pos (by simp),HQN.out]
       have hq2:q'<=q:=Nat.le_of_eq HQN.out
       have HX2:Hid ((mb' || decide (i=k))=(mb || (decide (i=k) && decide (x∈hl.take (j+1))))):=by
        unfold Hid
        rw[HTK.out,hxe,decide_eq_true (show x∈hl.take j++[x] by simp),HMB.out,Bool.and_true]
        have h2:=HFR.out
        rw[hxe]at h2
        rw[decide_eq_false h2,Bool.and_false,Bool.or_false]
       clear hxe HQN
       cases mb' with
       |true =>
        rw[Bool.true_or]at HX2
        go_wp2_with fail
        go_roundw
        case rel=>exact⟨j+1,q' + 1,true,by go_num,by go_num,rfl,by omega,by omega,HX1.out,HX2.out,by trivial⟩
        case measure=>simp[intOf];omega
       |false =>
        rw[Bool.false_or]at HX2
        by_cases hik:i=k
        ·have hikb:((i:Int)==(k:Int))=true:=by simp[hik]
         have hikI:(i:Int)=(k:Int):=by omega
         rw[decide_eq_true hik]at HX2
         clear HMI
         go_wp2_with fail
         go_roundw
         case rel=>exact⟨j+1,q' + 1,true,by go_num,by go_num,rfl,by omega,by omega,HX1.out,by rw[decide_eq_true hik];exact HX2.out,by trivial⟩
         case measure=>simp[intOf];omega
        ·have hikb:((i:Int)==(k:Int))=false:=by simp;omega
         have hikI:¬(i:Int)=(k:Int):=by omega
         rw[decide_eq_false hik]at HX2
         clear HMI
         go_wp2_with fail
         go_roundw
         case rel=>exact⟨j+1,q' + 1,false,by go_num,by go_num,rfl,by omega,by omega,HX1.out,by rw[decide_eq_false hik];exact HX2.out,by trivial⟩
         case measure=>simp[intOf];omega
      ·have hb1:(hj' == x)=false:=by simp[hxe]
       have HX0:Hid ((x∈hl.take (j+1))=(x∈hl.take j)):=by
        unfold Hid
        rw[HTK.out]
        have hne:¬x=hj':=fun e=>hxe e.symm
        simp[hne]
       have HX1:Hid (q'=q+oneN (x∈hl.take (j+1))):=by
        have:=HQE.out
        unfold Hid
        unfold oneN at this ⊢
        simp only[HX0.out]
        exact this
       have HX2:Hid (mb'=(mb || (decide (i=k) && decide (x∈hl.take (j+1))))):=by
        have:=HMB.out
        unfold Hid
        simp only[HX0.out]
        exact this
       go_wp2_with fail
       go_roundw
       case rel=>exact⟨j+1,q',mb',by go_num,rfl,rfl,by omega,hq',HX1.out,HX2.out,by trivial⟩
       case measure=>simp[intOf];omega
     ·have hjD:decide ((j:Int)<(hln:Int))=false:=by simp;omega
      have hjI:¬(j:Int)<(hln:Int):=by omega
      have HTA:Hid (hl.take j=hl):=List.take_of_length_le (by rw[HHL.out];omega)
      have HF1:Hid (q'=ownN (Pe.oths (mo.take (i+1))) x):=by
       have:=HQE.out
       rw[HTA.out]at this
       unfold Hid
       rw[HOW.out,this]
       rfl
      have HF2:Hid (mineB (Pe.oths mo) k x (i+1)=mb'):=by
       have:=HMB.out
       rw[HTA.out]at this
       unfold Hid
       rw[HMI.out,this]
      clear HMI
      go_wp2_with fail
      go_roundw
      case rel=>exact⟨i+1,q',by go_num,rfl,by rw[HF2.out],by omega,by omega,HF1.out,HN2.out,D1.out⟩
      case measure=>simp[intOf];omega
  ·obtain rfl:i=n:=by omega
   have hltD:decide ((i:Int)<(i:Int))=false:=by simp
   have HAS:Hid (askB (Pe.oths mo) x=false):=askB_none fun t ht=>HNO.out t ht (by have:=HM.out;omega)
   have HON:Hid (ownN (Pe.oths mo) x=q):=by
    unfold Hid
    rw[HQ.out,List.take_of_length_le (by rw[HM.out];exact Nat.le_refl _)]
   have HLO:Hid ((Pe.oths mo).length=i):=by unfold Hid;rw[oths_length,HM.out]
   have HZ:Hid (manyZ (Pe.oths mo) k (idxs mr) x=if (mineB (Pe.oths mo) k x i && !decide (x∈idxs mr))=true then (q:Int) else -1):=by
    unfold Hid manyZ
    rw[if_neg (by rw[HAS.out];decide),HLO.out,HON.out]
   have HHS:=hideK (l08Has_any w.heap.size mr.length x va mr wr ((GM.out.call GB.out).rrow) rfl hr)
   have e6:wr.cell? ⟨gg,6,none⟩=some va:=cell_of_row wr gg 6 _ _ _ (by have:=(GM.out.call GB.out).blk;unfold gmB at this;exact this)
   obtain⟨ar,cr,hva,_⟩:=GM.out.rrow.one
   subst hva
   cases hmb:mineB (Pe.oths mo) k x i with
   |false =>
    rw[hmb]at HZ
    have HE:Hid (manyZ (Pe.oths mo) k (idxs mr) x = -1):=HZ.out
    clear HHS HZ hmb
    go_wp2_with fail
    go_ret
    exact⟨by rw[HE.out];rfl,GB.out⟩
   |true =>
    rw[hmb]at HZ
    clear hmb
    go_wp2_with fail
    refine HHS.out.mono ?_
    rintro e w1 ⟨⟨j,hj,hje,_,rfl⟩|⟨hno,rfl⟩,hw⟩
    ·subst w1
     have HE:Hid (manyZ (Pe.oths mo) k (idxs mr) x = -1):=by
      unfold Hid
      rw[HZ.out,decide_eq_true (show x∈idxs mr by unfold idxs;rw[<-hje];exact List.mem_map.2 ⟨mr[j],List.getElem_mem hj,rfl⟩)]
      rfl
     have hj0:(0:Int)<=(j:Int):=by omega
     clear hje HHS HZ
     go_wp2_with fail
     go_ret
     exact⟨by rw[HE.out];rfl,GB.out⟩
    ·subst w1
     have HE:Hid (manyZ (Pe.oths mo) k (idxs mr) x=(q:Int)):=by
      unfold Hid
      rw[HZ.out,decide_eq_false (show ¬x∈idxs mr by
       unfold idxs
       intro hx
       obtain⟨y,hy,e⟩:=List.mem_map.1 hx
       obtain⟨j,hj,rfl⟩:=List.getElem_of_mem hy
       exact hno j hj e)]
      rfl
     clear hno HHS HZ
     go_wp2_with fail
     go_ret
     exact⟨by rw[HE.out];rfl,GB.out⟩
end Go.Proofs.YtpddanmnlkcdpaaGreatDoor.Tk


namespace Go.Proofs.YtpddanmnlkcdpaaGreatDoor.Tk
open Go.RowKit
open Kp
open Pe
open Pl
open In (Ints OwnI)
open Ls (lowL blk_alloc countN count_spec)
theorem many_cand {l:List Oth} {k:Nat} {rs:List Int} {x:Int} (hk:k<l.length):manyZ l k rs x=if candB l[k].has l rs x=true then ((ownN l x:Nat):Int) else -1:=by
 have hmi:mineB l k x l.length=decide (x∈l[k].has):=by
  unfold mineB
  rw[decide_eq_true hk,List.getElem?_eq_getElem hk,Bool.true_and]
 unfold manyZ candB
 rw[hmi]
 cases askB l x with
 |true=>simp
 |false=>simp
def rareV:Option (Int × Nat)->Int
 |none=>-1
 |some p=>p.1
def leastV:Option (Int × Nat)->Nat
 |none=>0
 |some p=>p.2
theorem rare_nn {h:List Int} {l:List Oth} {rs:List Int} {d:Int} {c i:Nat} {p:Int × Nat} (hic:i<=c) (hp:rareZ h l rs d c i=some p):0<=p.1/\p.1<(c:Int):=by
 rcases rare_mem _ _ _ hp with hq|hq
 ·cases hq
 ·unfold turnL at hq
  obtain⟨j,hj,e⟩:=List.mem_map.1 hq
  have:=List.mem_range.1 hj
  rw[<-e]
  exact⟨Int.emod_nonneg _ (by omega),Int.emod_lt_of_pos _ (by omega)⟩
theorem rarest_spec (w W:World) (gg:Nat) (z b:Int) (r s:ByteArray) (y:Int) (ao:Option Addr) (n co:Nat) (va:Value) (mo:List MO) (mr:List MR) (hg:Game w W gg z b r s y ao n co va mo mr) (hm:mo.length=n) (hn:n<=4) (hr:mr.length<=1048576) (hcn:countN z b r<=1048576) (q:Int) (hris:∀ o∈Pe.oths mo,RisesTo o.has q o.has.length) (hsm:∀ y∈mo,y.1.has.length<=1048576) (k:Nat) (hk:k<mo.length) (d:Int) (hd:0<=d) (hd2:d<=1048576) :
  Calls Tryz.prog 93 #[.pointer (some ⟨gg,0,none⟩),.int .i64 k,.int .i64 d] W fun e w'=>e=.returned (.int .i64 (rareV (rareZ mo[k].1.has (Pe.oths mo) (idxs mr) d (countN z b r) (countN z b r))))/\Below W.heap.size W w':=by
 have hko:k<(Pe.oths mo).length:=by rw[oths_length];exact hk
 have HMA:=hideK (fun V (hV:Below W.heap.size W V) (x:Int) (h0:0<=x) (h1:x<=1048576)=>many_spec w V gg z b r s y ao n co va mo mr (hg.call hV) hm hn hr q hris hsm k (by rw[<-hm];exact hk) x h0 h1)
 have HMC:Hid (∀ x,manyZ (Pe.oths mo) k (idxs mr) x=if candB mo[k].1.has (Pe.oths mo) (idxs mr) x=true then ((ownN (Pe.oths mo) x:Nat):Int) else -1):=fun x=>by
  rw[many_cand hko,oths_get mo k hk]
 have H4:Hid ((Pe.oths mo).length<=4):=by unfold Hid;rw[oths_length,hm];exact hn
 have HCS:=hideK (fun W=>count_spec z b r W)
 obtain⟨c0,c1,c2,_,_,_,_⟩:=cellsP7 (W:=W) (g:=gg) (by have:=hg.blk;unfold gmB at this;exact this)
 clear hg hm hris hsm
 unfold Ls.lV at HCS
 go_enter Tryz.func93,Tryz.ntmps93
 go_wp2_with fail
 refine(HCS.out _).mono ?_
 rintro e w1 ⟨rfl,hb⟩
 have HB1:=hideK hb
 clear hb HCS c0 c1 c2
 generalize hce:countN z b r=c at hcn ⊢
 generalize hhe:mo[k].1.has=hl at HMC ⊢
 generalize hle:Pe.oths mo=l at HMA HMC H4 ⊢
 have HE:Hid (countN z b r=c/\mo[k].1.has=hl/\Pe.oths mo=l):=⟨hce,hhe,hle⟩
 clear hce hhe hle
 go_wp2_with fail
 go_loopw [8,9,10,11,12] (fun bv lv iv _ _ wr=>∃ (i:Nat),iv=.int .i64 i/\i<=c/\bv=.int .i64 (rareV (rareZ hl l (idxs mr) d c i))/\lv=.int .i64 (leastV (rareZ hl l (idxs mr) d c i):Nat)/\Below W.heap.size W wr) (fun _ _ iv _ _ _=>c-(intOf iv).toNat)
 case atStart=>exact⟨0,rfl,Nat.zero_le _,rfl,rfl,HB1.out⟩
 case round =>
  obtain⟨i,rfl,hi,rfl,rfl,hbel⟩:=hrel
  have GB:=hideK hbel
  clear hbel
  by_cases hlt:i<c
  ·have hlt':(i:Int)<(c:Int):=by omega
   have hc0:¬(c:Int)=0:=by omega
   have hc0':¬c=0:=by omega
   have hc0b:((c:Int)==0)=false:=by simp;omega
   have hx0:0<=(d+(i:Int))%(c:Int):=Int.emod_nonneg _ hc0
   have hx1:(d+(i:Int))%(c:Int)<(c:Int):=Int.emod_lt_of_pos _ (by omega)
   have htm:(d+(i:Int)).tmod (c:Int)=(d+(i:Int))%(c:Int):=Int.tmod_eq_emod_of_nonneg (by omega)
   have HSU:=hideK (rareZ_succ hl l (idxs mr) d c i)
   have HNN:Hid (∀ p,rareZ hl l (idxs mr) d c i=some p->0<=p.1):=fun p hp=>(rare_nn hi hp).1
   generalize (d+(i:Int))%(c:Int)=x at hx0 hx1 htm HSU
   have MA:=hideK (HMA.out wr GB.out x hx0 (by omega))
   have HM1:=hideK (HMC.out x)
   generalize hacc:rareZ hl l (idxs mr) d c i=acc at HSU HNN ⊢
   clear hacc
   by_cases hcd:candB hl l (idxs mr) x=true
   ·rw[if_pos hcd]at HM1
    rw[HM1.out]at MA
    have HOL:=hideK (ownN_le l x)
    cases acc with
    |none =>
     have HSX:Hid (rareZ hl l (idxs mr) d c (i+1)=some (x,ownN l x)):=by
      unfold Hid
      rw[HSU.out]
      exact rareS_yes none hcd (by have:=HOL.out;have:=H4.out;show ownN l x<5;omega)
     simp only[rareV,leastV]
     generalize ownN l x=qn at MA HSX
     have hq0:(0:Int)<=(qn:Int):=by omega
     clear hcd HSU HNN HM1 HOL
     go_wp2_with fail
     refine MA.out.mono ?_
     rintro e w2 ⟨rfl,hb⟩
     have HB2:=hideK (GB.out.trans (hb.mono GB.out.size))
     clear hb MA
     go_wp2_with fail
     go_roundw
     case rel=>exact⟨i+1,by go_num,by omega,(by rw[HSX.out];try rfl),(by rw[HSX.out];try rfl),HB2.out⟩
     case measure=>simp[intOf];omega
    |some p =>
     obtain⟨yb,qb⟩:=p
     have hy0:0<=yb:=HNN.out _ rfl
     have hy1:¬yb<0:=by omega
     have hyD:decide (yb<(0:Int))=false:=by simp;omega
     simp only[rareV,leastV]
     by_cases hlq:ownN l x<qb
     ·have HSX:Hid (rareZ hl l (idxs mr) d c (i+1)=some (x,ownN l x)):=by
       unfold Hid
       rw[HSU.out]
       exact rareS_yes (some (yb,qb)) hcd hlq
      generalize ownN l x=qn at MA HSX hlq
      have hq0:(0:Int)<=(qn:Int):=by omega
      have hlI:(qn:Int)<(qb:Int):=by omega
      clear hcd HSU HNN HM1 HOL
      go_wp2_with fail
      refine MA.out.mono ?_
      rintro e w2 ⟨rfl,hb⟩
      have HB2:=hideK (GB.out.trans (hb.mono GB.out.size))
      clear hb MA
      go_wp2_with fail
      go_roundw
      case rel=>exact⟨i+1,by go_num,by omega,(by rw[HSX.out];try rfl),(by rw[HSX.out];try rfl),HB2.out⟩
      case measure=>simp[intOf];omega
     ·have HSX:Hid (rareZ hl l (idxs mr) d c (i+1)=some (yb,qb)):=by
       unfold Hid
       rw[HSU.out]
       exact rareS_not (some (yb,qb)) H4.out hlq
      generalize ownN l x=qn at MA hlq
      have hq0:(0:Int)<=(qn:Int):=by omega
      have hlI:¬(qn:Int)<(qb:Int):=by omega
      have hlD:decide ((qn:Int)<(qb:Int))=false:=by simp;omega
      clear hcd HSU HNN HM1 HOL
      go_wp2_with fail
      refine MA.out.mono ?_
      rintro e w2 ⟨rfl,hb⟩
      have HB2:=hideK (GB.out.trans (hb.mono GB.out.size))
      clear hb MA
      go_wp2_with fail
      go_roundw
      case rel=>exact⟨i+1,by go_num,by omega,(by rw[HSX.out];try rfl),(by rw[HSX.out];try rfl),HB2.out⟩
      case measure=>simp[intOf];omega
   ·rw[if_neg hcd]at HM1
    rw[HM1.out]at MA
    have HSX:Hid (rareZ hl l (idxs mr) d c (i+1)=acc):=by
     unfold Hid
     rw[HSU.out]
     exact rareS_no acc (by simpa using hcd)
    clear hcd HSU HNN HM1
    go_wp2_with fail
    refine MA.out.mono ?_
    rintro e w2 ⟨rfl,hb⟩
    have HB2:=hideK (GB.out.trans (hb.mono GB.out.size))
    clear hb MA
    go_wp2_with fail
    go_roundw
    case rel=>exact⟨i+1,by go_num,by omega,(by rw[HSX.out];try rfl),(by rw[HSX.out];try rfl),HB2.out⟩
    case measure=>simp[intOf];omega
  ·obtain rfl:i=c:=by omega
   have hltD:decide ((i:Int)<(i:Int))=false:=by simp
   go_wp2_with fail
   go_ret
   exact⟨by rw[HE.out.1,HE.out.2.1,HE.out.2.2];rfl,GB.out⟩
end Go.Proofs.YtpddanmnlkcdpaaGreatDoor.Tk

