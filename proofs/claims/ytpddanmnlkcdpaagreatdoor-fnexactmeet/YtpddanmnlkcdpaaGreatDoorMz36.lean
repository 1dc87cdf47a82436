/- Texts put together: PoMark, PoHeld, PoOut, PeEq, PoEq. -/
import Derived.Test.YtpddanmnlkcdpaaGreatDoorMz47
import Derived.Test.YtpddanmnlkcdpaaGreatDoorMz35
import Derived.Test.YtpddanmnlkcdpaaGreatDoorMz30
set_option maxRecDepth 100000
set_option maxHeartbeats 8000000
namespace Go.Proofs.YtpddanmnlkcdpaaGreatDoor.Pl
open Go.RowKit
open Kp
open Pe
open Ls (lowL)
open St (markT markT_any)
def mkS (k:Nat):ML:=(⟨markT k,((k+1:Nat):Int),((k+2:Nat):Int),markT (k+3),[]⟩,.slice none 0 0)
def mkSs (k n:Nat):List ML:=(List.range n).map fun j=>mkS (k+4*j)
theorem mkSs_length (k n:Nat):(mkSs k n).length=n:=by simp[mkSs]
theorem mkSs_get (k n j:Nat) (h:j<(mkSs k n).length):(mkSs k n)[j]=mkS (k+4*j):=by simp[mkSs]
def midS (m:List ML) (k j:Nat):List ML:=mkSs k j++m.drop j
theorem midS_zero (m:List ML) (k:Nat):midS m k 0=m:=by simp[midS,mkSs]
theorem midS_length (m:List ML) (k j:Nat) (h:j<=m.length):(midS m k j).length=m.length:=by simp[midS,mkSs_length];omega
theorem midS_all (m:List ML) (k:Nat):midS m k m.length=mkSs k m.length:=by simp[midS]
theorem midS_next (m:List ML) (k j:Nat) (h:j<m.length):(midS m k j).set j (mkS (k+4*j))=midS m k (j+1):=by
 have hs:mkSs k (j+1)=mkSs k j++[mkS (k+4*j)]:=by simp[mkSs,List.range_succ]
 unfold midS
 rw[List.set_append,if_neg (by rw[mkSs_length];omega),mkSs_length,Nat.sub_self,List.drop_eq_getElem_cons h,List.set_cons_zero,hs,List.append_assoc]
 rfl
theorem cellsL_set4:∀ (m:List ML) (i:Nat) (x:ML) (h:i<m.length),x.2=m[i].2->cellsL (m.set i x)=((((cellsL m).set (i*5) (.string x.1.who)).set (i*5+1) (.int .i64 x.1.kind)).set (i*5+2) (.int .i64 x.1.index)).set (i*5+3) (.string x.1.piece)
 |y :: m,0,x,_,e=>by
  have e':x.2=y.2:=e
  rw[List.set_cons_zero,cellsL,cellsL,e']
  rfl
 |y :: m,i+1,x,h,e=>by
  rw[List.set_cons_succ,cellsL,cellsL,cellsL_set4 m i x (Nat.lt_of_succ_lt_succ h) e,show (i+1)*5=i*5+5 by omega,show i*5+5+1=(i*5+1)+5 by omega,show i*5+5+2=(i*5+2)+5 by omega,show i*5+5+3=(i*5+3)+5 by omega]
  rfl
def NoPath (m:List ML):Prop:=∀ x∈m,x.2=.slice none 0 0/\x.1.path=[]
theorem mkSs_noPath (k n:Nat):NoPath (mkSs k n):=fun x hx=>by
 unfold mkSs at hx
 obtain⟨j,_,rfl⟩:=List.mem_map.1 hx
 exact⟨rfl,rfl⟩
structure RowL (W:World) (lo hi:Nat) (v:Value) (m:List ML):Prop where
 row:OwnL W lo v m
 inb:∀ g,v.ownBlock=some g->lo<=g/\g<hi
 nop:NoPath m
theorem RowL.call {W W':World} {lo hi:Nat} {v:Value} {m:List ML} (h:RowL W lo hi v m) (hb:Below W.heap.size W W'):RowL W' lo hi v m:=⟨h.row.below hb,h.inb,h.nop⟩
theorem markS_nil (a:Option Addr) (c k:Nat) (w:World) :
  Calls Tryz.prog 52 #[.slice a 0 c,.int .i64 k] w fun e w'=>e=.returned (.int .i64 (k:Int))/\w'=w:=by
 go_enter Tryz.func52,Tryz.ntmps52
 go_wp2_with fail
 go_loopw [5,1] (fun i kv wr=>i=.int .i64 0/\kv=.int .i64 (k:Int)/\wr=w) (fun _ _ _=>0)
 case atStart=>exact⟨rfl,rfl,rfl⟩
 case round =>
  obtain⟨rfl,rfl,hw⟩:=hrel
  subst hw
  go_wp2_with fail
  go_ret
  exact⟨rfl,rfl⟩
theorem markS_round {W w1 w5:World} {lo hi g n cap j kj:Nat} {m:List ML} (h:RowL W lo hi (.slice (some ⟨g,0,none⟩) n cap) m) (hn:m.length=n) (hj:j<m.length) (hb1:Below W.heap.size W w1)
  (hb5:Below (((w1.setCell ⟨g,j*5,none⟩ (.string (markT kj))).setCell ⟨g,j*5+1,none⟩ (.int .i64 ((kj+1:Nat):Int))).setCell ⟨g,j*5+2,none⟩ (.int .i64 ((kj+2:Nat):Int))).heap.size (((w1.setCell ⟨g,j*5,none⟩ (.string (markT kj))).setCell ⟨g,j*5+1,none⟩ (.int .i64 ((kj+1:Nat):Int))).setCell ⟨g,j*5+2,none⟩ (.int .i64 ((kj+2:Nat):Int))) w5) :
  (w1.cell? ⟨g,j*5,none⟩=some (.string m[j].1.who)/\w1.frozen? ⟨g,j*5,none⟩=false) /\
  ((w1.setCell ⟨g,j*5,none⟩ (.string (markT kj))).cell? ⟨g,j*5+1,none⟩=some (.int .i64 m[j].1.kind)/\(w1.setCell ⟨g,j*5,none⟩ (.string (markT kj))).frozen? ⟨g,j*5+1,none⟩=false) /\
  (((w1.setCell ⟨g,j*5,none⟩ (.string (markT kj))).setCell ⟨g,j*5+1,none⟩ (.int .i64 ((kj+1:Nat):Int))).cell? ⟨g,j*5+2,none⟩=some (.int .i64 m[j].1.index)/\((w1.setCell ⟨g,j*5,none⟩ (.string (markT kj))).setCell ⟨g,j*5+1,none⟩ (.int .i64 ((kj+1:Nat):Int))).frozen? ⟨g,j*5+2,none⟩=false) /\
  (w5.cell? ⟨g,j*5+3,none⟩=some (.string m[j].1.piece)/\w5.frozen? ⟨g,j*5+3,none⟩=false) /\
  (w5.setCell ⟨g,j*5+3,none⟩ (.string (markT (kj+3)))).cell? ⟨g,j*5+4,none⟩=some (.slice none 0 0) /\
  RowL (w5.setCell ⟨g,j*5+3,none⟩ (.string (markT (kj+3)))) lo hi (.slice (some ⟨g,0,none⟩) n cap) (m.set j (mkS kj)):=by
 have R0:W.ownsRow lo 114 5 (.slice (some ⟨g,0,none⟩) n cap) n (cellsL m):=by have:=h.row;unfold OwnL at this;rwa[hn]at this
 have hc:=cellsL_at m j hj
 have R1:=own_down R0 hb1
 have R2:=own_set (p:=j*5) R1 (.string (markT kj))
 have R3:=own_set (p:=j*5+1) R2 (.int .i64 ((kj+1:Nat):Int))
 have R4:=own_set (p:=j*5+2) R3 (.int .i64 ((kj+2:Nat):Int))
 have R5:=own_down R4 hb5
 have R6:=own_set (p:=j*5+3) R5 (.string (markT (kj+3)))
 have hx:=h.nop m[j] (List.getElem_mem hj)
 refine⟨own_cell R1 hc.1,own_cell R2 (by rw[List.getElem?_set_ne (by omega)];exact hc.2.1),own_cell R3 (by rw[List.getElem?_set_ne (by omega),List.getElem?_set_ne (by omega)];exact hc.2.2.1),own_cell R5 (by rw[List.getElem?_set_ne (by omega),List.getElem?_set_ne (by omega),List.getElem?_set_ne (by omega)];exact hc.2.2.2.1),?_,?_,h.inb,?_⟩
 ·refine(own_cell R6 ?_).1
  rw[List.getElem?_set_ne (by omega),List.getElem?_set_ne (by omega),List.getElem?_set_ne (by omega),List.getElem?_set_ne (by omega),hc.2.2.2.2,hx.1]
 ·unfold OwnL
  rw[List.length_set,hn,cellsL_set4 m j (mkS kj) hj (by rw[hx.1];rfl)]
  exact R6
 ·intro y hy
  rcases List.mem_or_eq_of_mem_set hy with hy|rfl
  ·exact h.nop y hy
  ·exact⟨rfl,rfl⟩
theorem markSs_any (k lo hi:Nat) (v:Value) (m:List ML) (w:World) (h:RowL w lo hi v m) (hn:m.length<=1048576) (h0:0<k) (hk:k+4*m.length<=1099511627776) :
  Calls Tryz.prog 44 #[v,.int .i64 k] w fun e w'=>e=.returned (.int .i64 ((k+4*m.length:Nat):Int))/\RowL w' lo hi v (mkSs k m.length)/\Chg lo hi w w':=by
 have HS:=hideK h
 obtain⟨a,cap,hv,_,_⟩:=h.row.one
 subst hv
 generalize hnn:m.length=n at hn hk ⊢
 rw[hnn]at HS
 have HN:=hideK hnn
 clear h hnn
 generalize hE:k+4*n=E at hk ⊢
 have HE:=hideK hE
 clear hE
 have HEND:Hid (midS m k n=mkSs k n):=by
  unfold Hid
  rw[<-HN.out]
  exact midS_all m k
 go_enter Tryz.func44,Tryz.ntmps44
 go_wp2_with fail
 go_loopw [5,1] (fun i kv wr=>∃ j kj:Nat,i=.int .i64 j/\kv=.int .i64 (kj:Int)/\j<=n/\kj=k+4*j/\RowL wr lo hi (.slice a n cap) (midS m k j)/\Chg lo hi w wr) (fun i _ _=>n-(intOf i).toNat)
 case atStart=>exact⟨0,k,rfl,rfl,Nat.zero_le _,rfl,by rw[midS_zero];exact HS.out,Chg.refl _ _ _⟩
 case round =>
  obtain⟨j,kj,rfl,rfl,hj,hkj,hrow,hch⟩:=hrel
  have R:=hideK hrow
  have CH:=hideK hch
  have HKJ:=hideK hkj
  have hkb:kj<=E:=by have:=HE.out;omega
  have hk0:0<kj:=by omega
  have hk2:kj<=1099511627776:=by omega
  clear hrow hch hkj
  by_cases hlt:j<n
  ·have hlt':(j:Int)<(n:Int):=by omega
   have hkb3:kj+4<=1099511627776:=by have:=HKJ.out;have:=HE.out;omega
   have hjl:j<m.length:=by rw[HN.out];exact hlt
   have hml:(midS m k j).length=n:=by rw[midS_length m k j (by omega),HN.out]
   have hjm:j<(midS m k j).length:=by omega
   obtain⟨g,cp,hv,hlo,hgz,_,_⟩:=R.out.row.cells (by omega)
   obtain⟨rfl,rfl⟩:a=some ⟨g,0,none⟩/\cap=cp:=by simp at hv;exact⟨hv.1,hv.2.2⟩
   clear hv
   have hghi:=(R.out.inb g rfl).2
   have HRD:=hideK (fun (w1 w5:World) h1 h5=>markS_round (W:=wr) (w1:=w1) (w5:=w5) (j:=j) (kj:=kj) R.out hml hjm h1 h5)
   have HNX:=hideK (midS_next m k j hjl)
   rw[<-HKJ.out]at HNX
   rw[HNX.out]at HRD
   generalize (midS m k j)[j].1=x at HRD
   clear hml HNX
   have HMT:=hideK (fun W=>markT_any kj W hk0 hk2)
   have HMT3:=hideK (fun W=>markT_any (kj+3) W (by omega) (by omega))
   have HMN:=hideK (fun W=>markS_nil none 0 (kj+4) W)
   have HC:=hideK (fun (w1:World) (hb1:Below wr.heap.size wr w1)=>(((CH.out.call hb1).set (i:=j*5) hlo hghi (.string (markT kj))).set (i:=j*5+1) hlo hghi (.int .i64 ((kj+1:Nat):Int))).set (i:=j*5+2) hlo hghi (.int .i64 ((kj+2:Nat):Int)))
   rw[show ((kj+1:Nat):Int)=(kj:Int)+1 by omega,show ((kj+2:Nat):Int)=(kj:Int)+1+1 by omega]at HRD HC
   rw[show ((kj+3:Nat):Int)=(kj:Int)+1+1+1 by omega]at HMT3
   rw[show ((kj+4:Nat):Int)=(kj:Int)+1+1+1+1 by omega]at HMN
   have HK4:Hid ((kj:Int)+1+1+1+1=((kj+4:Nat):Int)):=by unfold Hid;omega
   have hb9:(kj:Int)<=1099511627776:=by omega
   have hb8:0<=(kj:Int):=by omega
   generalize ((kj:Nat):Int)=K at HRD HC HMT3 HMN HMT HK4 hb8 hb9 ⊢
   generalize markT kj=t0 at HRD HC HMT
   generalize markT (kj+3)=t3 at HRD HMT3
   go_wp2_with fail
   refine(HMT.out _).mono ?_
   rintro e w1 ⟨rfl,hb1⟩
   obtain⟨⟨y0,f0⟩,⟨y1,f1⟩,⟨y2,f2⟩,_⟩:=HRD.out w1 _ hb1 (Below.refl _ _)
   have C1:=hideK (HC.out w1 hb1)
   have HR1:=hideK (fun w5=>HRD.out w1 w5 hb1)
   clear hb1 HMT HC HRD
   go_upto_region 10 with fail
   generalize ((w1.setCell ⟨g,j*5,none⟩ (.string t0)).setCell ⟨g,j*5+1,none⟩ (.int .i64 (K+1))).setCell ⟨g,j*5+2,none⟩ (.int .i64 (K+1+1))=W4 at C1 HR1 ⊢
   clear y0 y1 y2 f0 f1 f2
   go_wp2_with fail
   refine(HMT3.out _).mono ?_
   rintro e w5 ⟨rfl,hb5⟩
   obtain⟨_,_,_,⟨y3,f3⟩,y4,hrow5⟩:=HR1.out w5 hb5
   have R5:=hideK hrow5
   have C5:=hideK ((C1.out.call hb5).set (i:=j*5+3) hlo hghi (.string t3))
   clear hb5 HMT3 HR1 hrow5
   go_upto_region 12 with fail
   generalize w5.setCell ⟨g,j*5+3,none⟩ (.string t3)=W6 at R5 C5 y4 ⊢
   go_wp2_with fail
   refine(HMN.out _).mono ?_
   rintro e w7 ⟨rfl,hw⟩
   subst w7
   go_wp2_with fail
   go_roundw
   case rel=>exact⟨j+1,kj+4,by go_num,by rw[<-HK4.out],by omega,by have:=HKJ.out;omega,R5.out,C5.out⟩
   case measure=>simp[intOf];omega
  ·obtain rfl:j=n:=by omega
   have hltD:decide ((j:Int)<(j:Int))=false:=by simp
   have HQ:Hid (RowL wr lo hi (.slice a j cap) (mkSs k j)):=by rw[<-HEND.out];exact R.out
   obtain rfl:kj=E:=by have:=HKJ.out;have:=HE.out;omega
   go_wp2_with fail
   go_ret
   exact⟨rfl,HQ.out,CH.out⟩
end Go.Proofs.YtpddanmnlkcdpaaGreatDoor.Pl


namespace Go.Proofs.YtpddanmnlkcdpaaGreatDoor.Pl
open Go.RowKit
open Kp
open Pe
open In (Ints OwnI)
open Ls (lowL)
open St (markT markT_any)
theorem heldI_from (a:Option Addr) (n c k:Nat) (w:World) (h:Ints w w.heap.size a (In.marks k n)) (hn:n<=1048576) (hk:k<=1099511627776) :
  Calls Tryz.prog 118 #[.slice a n c,.int .i64 k] w fun e w'=>e=.returned (.int .i64 ((k+n:Nat):Int))/\Below w.heap.size w w':=by
 have HS:=hideK h
 clear h
 generalize hE:k+n=E
 have HE:=hideK hE
 clear hE
 go_enter Tryz.func118,Tryz.ntmps118
 go_wp2_with fail
 go_loopw [5,1] (fun i kv wr=>∃ j kj:Nat,i=.int .i64 j/\kv=.int .i64 (kj:Int)/\j<=n/\kj=k+j/\wr=w) (fun i _ _=>n-(intOf i).toNat)
 case atStart=>exact⟨0,k,rfl,rfl,by omega,rfl,rfl⟩
 case round =>
  obtain⟨j,kj,rfl,rfl,hj,hkj,hw⟩:=hrel
  subst hw
  have HKJ:=hideK hkj
  have hkb:kj<=2199023255552:=by omega
  clear hkj
  by_cases hlt:j<n
  ·have hlt':(j:Int)<(n:Int):=by omega
   have hkl:j<(In.marks k n).length:=by rw[In.marks_length];exact hlt
   obtain⟨b,off,ha,hb,hcc⟩:∃ b off,a=some ⟨b,off,none⟩/\b<wr.heap.size/\∀ t (ht:t<(In.marks k n).length),wr.cell? ⟨b,off+t,none⟩=some (.int .i64 (In.marks k n)[t]):=by
    rcases HS.out with h|h
    ·rw[h]at hkl;simp at hkl
    ·exact h
   subst ha
   have ce:=hcc j hkl
   rw[In.marks_get,<-HKJ.out]at ce
   have hne:((kj:Int) != (kj:Int))=false:=by simp
   clear hcc
   go_wp2_with fail
   go_roundw
   case rel=>exact⟨j+1,kj+1,by go_num,by go_num,by omega,by have:=HKJ.out;omega,trivial⟩
   case measure=>simp[intOf];omega
  ·obtain rfl:j=n:=by omega
   obtain rfl:kj=E:=by have:=HKJ.out;have:=HE.out;omega
   have hltD:decide ((j:Int)<(j:Int))=false:=by simp
   go_wp2_with fail
   go_ret
   exact⟨rfl,Below.refl _ _⟩
theorem mkL_get:∀ (l:List Oth) (k j:Nat) (h:j<l.length),(mkL k l)[j]'(by rw[mkL_length];exact h)=mkO (mkE k (l.take j)) l[j]
 |o :: l,k,0,_=>rfl
 |o :: l,k,j+1,h=>by
  have:=mkL_get l (mkN k o) j (Nat.lt_of_succ_lt_succ h)
  simp only[mkL,List.getElem_cons_succ,List.take_succ_cons,mkE]
  exact this
theorem mkE_step (l:List Oth) (k j:Nat) (h:j<l.length):mkE k (l.take (j+1))=mkN (mkE k (l.take j)) l[j]:=by
 rw[List.take_succ_eq_append_getElem h,mkE_append]
 rfl
theorem mkE_part (l:List Oth) (k j:Nat):mkE k (l.take j)<=mkE k l:=by
 have h:mkE k l=mkE (mkE k (l.take j)) (l.drop j):=by rw[<-mkE_append,List.take_append_drop]
 rw[h]
 exact mkE_le _ _
theorem heldOs_any (k lo:Nat) (v:Value) (l:List Oth) (m:List MO) (w:World) (h:OwnO w lo v m) (hh:Hass w lo m) (hq:oths m=mkL k l) (hn:l.length<=1048576) (hsm:∀ o∈l,o.has.length<=1048576) (h0:0<k) (hk:mkE k l<=1099511627776) :
  Calls Tryz.prog 83 #[v,.int .i64 k] w fun e w'=>e=.returned (.int .i64 (mkE k l:Nat))/\Below w.heap.size w w':=by
 have hml:m.length=l.length:=by rw[<-oths_length,hq,mkL_length]
 obtain⟨a,cap,hv,_,_⟩:=h.one
 subst hv
 have HR:=hideK h
 have HH:=hideK hh
 have HSM:=hideK hsm
 have HKE:=hideK hk
 generalize hnn:m.length=n at hml HR ⊢
 rw[<-hml]at hn
 have HN:=hideK hnn
 have HL:=hideK hml
 have HAT:Hid (∀ j (h1:j<m.length) (h2:j<l.length),m[j].1=mkO (mkE k (l.take j)) l[j]):=fun j h1 h2=>by rw[<-oths_get m j h1];simp only[hq];exact mkL_get l k j h2
 have HEE:Hid (mkE k (l.take n)=mkE k l):=by unfold Hid;rw[List.take_of_length_le (by rw[hml];exact Nat.le_refl _)]
 have hmx:=mixedK
 clear h hh hsm hk hnn hml hq
 go_enter Tryz.func83,Tryz.ntmps83
 go_wp2_with fail
 go_loopw [5,1] (fun i kv wr=>∃ j kj:Nat,i=.int .i64 j/\kv=.int .i64 (kj:Int)/\j<=n/\kj=mkE k (l.take j)/\Below w.heap.size w wr) (fun i _ _=>n-(intOf i).toNat)
 case atStart=>exact⟨0,k,rfl,rfl,Nat.zero_le _,rfl,Below.refl _ _⟩
 case round =>
  obtain⟨j,kj,rfl,rfl,hj,hkj,hbel⟩:=hrel
  have GB:=hideK hbel
  have HKJ:=hideK hkj
  have hkb:kj<=1099511627776:=by rw[hkj];exact Nat.le_trans (mkE_part l k j) HKE.out
  have hk0:0<kj:=by rw[hkj];exact Nat.lt_of_lt_of_le h0 (mkE_le _ _)
  clear hbel hkj
  by_cases hlt:j<n
  ·have hlt':(j:Int)<(n:Int):=by omega
   have hjm:j<m.length:=by rw[HN.out];exact hlt
   have hjl:j<l.length:=by rw[<-HL.out];exact hlt
   have hr:=HR.out.below (w':=wr) (by exact GB.out)
   obtain⟨g,cp,hv,hlo,hgz,_,hcc⟩:=hr.cells (by omega)
   obtain⟨rfl,rfl⟩:a=some ⟨g,0,none⟩/\cap=cp:=by simp at hv;exact⟨hv.1,hv.2.2⟩
   obtain⟨d0,d1,d2,d3,d4⟩:=hcc j hjm
   have hx:=HH.out.below (W':=wr) (by exact GB.out) m[j] (List.getElem_mem hjm)
   rw[HAT.out j hjm hjl,<-HKJ.out]at d0 d2 d3 d4 hx
   have HNX:=hideK (mkE_step l k j hjl)
   rw[<-HKJ.out]at HNX
   have hz4:mkE k (l.take (j+1))<=1099511627776:=Nat.le_trans (mkE_part l k (j+1)) HKE.out
   rw[HNX.out]at hz4
   have hkx:=HSM.out l[j] (List.getElem_mem hjl)
   unfold mkN at HNX hz4
   unfold mkO at d0 d2 d3 d4 hx
   dsimp only at d0 d2 d3 d4 hx
   obtain⟨av,cv,hxv,_,hiv⟩:=hx.ints
   rw[In.marks_length]at hxv
   rw[hxv]at d1
   have HHI:=hideK (fun W (hW:Below wr.heap.size wr W)=>heldI_from av l[j].has.length cv (kj+1) W ((hiv.below hW).mono hW.size) hkx (by omega))
   generalize l[j].has.length=ll at d1 d2 d3 d4 HNX hz4 HHI hkx
   have HMT:=hideK (fun W=>markT_any kj W hk0 hkb)
   rw[show ((kj+1:Nat):Int)=(kj:Int)+1 by omega]at HHI
   rw[show ((kj+2+ll:Nat):Int)=((kj+1+ll:Nat):Int)+1 by omega]at d3
   rw[show ((kj+3+ll:Nat):Int)=((kj+1+ll:Nat):Int)+1+1 by omega]at d4
   have HS3:Hid (((kj+1+ll:Nat):Int)+1+1+1=((kj+4+ll:Nat):Int)):=by unfold Hid;omega
   have hb9:((kj+1+ll:Nat):Int)<=1099511627776:=by omega
   have hb8:0<=((kj+1+ll:Nat):Int):=by omega
   generalize ((kj+1+ll:Nat):Int)=K1 at d2 d3 d4 HS3 hb8 hb9 HHI
   generalize markT kj=t at d0 HMT
   have ht:(t.toList==t.toList)=true:=by simp
   have hK1:(K1 != K1)=false:=by simp
   have hK2:(K1+1 != K1+1)=false:=by simp
   have hK3:(K1+1+1 != K1+1+1)=false:=by simp
   have hK0:¬K1<0:=by omega
   have r0:=fun d os=>cell_regrown d0 d os
   clear hv hcc hr hx hxv hiv
   go_wp2_with fail
   refine wp_region_quiet_below (by assumption) (by kernel_rfl) ?_
   repeat (go_big_quiet_step ((go_at_call 81;exact Calls.regrown_of (HMT.out _))))
   refine wpQuiet_nil ?_
   intro _ hw'
   obtain⟨⟨dq,osq⟩,hw''⟩:=hw'
   subst hw''
   have BR:=below_regrown wr dq osq
   have K8:=hideK (lowL GB.out BR)
   have e1:=(BR.cell (p:=⟨g,j*5+1,none⟩) hgz).trans d1
   have e2:=(BR.cell (p:=⟨g,j*5+2,none⟩) hgz).trans d2
   have e3:=(BR.cell (p:=⟨g,j*5+3,none⟩) hgz).trans d3
   have e4:=(BR.cell (p:=⟨g,j*5+4,none⟩) hgz).trans d4
   have hg8:=Nat.lt_of_lt_of_le hgz BR.size
   have HH8:=hideK (HHI.out _ BR)
   clear d0 d1 d2 d3 d4 r0 BR HHI HMT
   generalize Go.Sort.grow (redrawn wr dq) osq=w8 at K8 e1 e2 e3 e4 hg8 HH8 ⊢
   go_wp2_with fail
   refine HH8.out.mono ?_
   rintro e w9 ⟨rfl,hb⟩
   have K9:=hideK (lowL K8.out hb)
   have f2:=(hb.cell (p:=⟨g,j*5+2,none⟩) hg8).trans e2
   have f3:=(hb.cell (p:=⟨g,j*5+3,none⟩) hg8).trans e3
   have f4:=(hb.cell (p:=⟨g,j*5+4,none⟩) hg8).trans e4
   clear e1 e2 e3 e4 hb HH8
   go_wp2_with fail
   go_roundw
   case rel=>exact⟨j+1,kj+4+ll,by go_num,by rw[<-HS3.out],by omega,HNX.out.symm,K9.out⟩
   case measure=>simp[intOf];omega
  ·obtain rfl:j=n:=by omega
   have HE2:Hid (kj=mkE k l):=by unfold Hid;rw[HKJ.out,HEE.out]
   have hltD:decide ((j:Int)<(j:Int))=false:=by simp
   go_wp2_with fail
   go_ret
   exact⟨by rw[<-HE2.out];rfl,GB.out⟩
end Go.Proofs.YtpddanmnlkcdpaaGreatDoor.Pl


namespace Go.Proofs.YtpddanmnlkcdpaaGreatDoor.Pl
open Go.RowKit
open Kp
open Pe
open In (Ints OwnI)
open Ls (lowL)
open St (markT markT_any)
theorem heldS_nil (a:Option Addr) (c k:Nat) (w:World) :
  Calls Tryz.prog 84 #[.slice a 0 c,.int .i64 k] w fun e w'=>e=.returned (.int .i64 (k:Int))/\w'=w:=by
 go_enter Tryz.func84,Tryz.ntmps84
 go_wp2_with fail
 go_loopw [5,1] (fun i kv wr=>i=.int .i64 0/\kv=.int .i64 (k:Int)/\wr=w) (fun _ _ _=>0)
 case atStart=>exact⟨rfl,rfl,rfl⟩
 case round =>
  obtain⟨rfl,rfl,hw⟩:=hrel
  subst hw
  go_wp2_with fail
  go_ret
  exact⟨rfl,rfl⟩
theorem heldSs_any (k lo n:Nat) (v:Value) (w:World) (h:OwnL w lo v (mkSs k n)) (hn:n<=1048576) (h0:0<k) (hk:k+4*n<=1099511627776) :
  Calls Tryz.prog 46 #[v,.int .i64 k] w fun e w'=>e=.returned (.int .i64 ((k+4*n:Nat):Int))/\Below w.heap.size w w':=by
 obtain⟨a,cap,hv,_,_⟩:=h.one
 rw[mkSs_length]at hv
 subst hv
 have HR:=hideK h
 generalize hE:k+4*n=E at hk ⊢
 have HE:=hideK hE
 have hmx:=mixedK
 clear h hE
 go_enter Tryz.func46,Tryz.ntmps46
 go_wp2_with fail
 go_loopw [5,1] (fun i kv wr=>∃ j kj:Nat,i=.int .i64 j/\kv=.int .i64 (kj:Int)/\j<=n/\kj=k+4*j/\Below w.heap.size w wr) (fun i _ _=>n-(intOf i).toNat)
 case atStart=>exact⟨0,k,rfl,rfl,Nat.zero_le _,rfl,Below.refl _ _⟩
 case round =>
  obtain⟨j,kj,rfl,rfl,hj,hkj,hbel⟩:=hrel
  have GB:=hideK hbel
  have HKJ:=hideK hkj
  have hkb:kj<=E:=by have:=HE.out;omega
  have hk0:0<kj:=by omega
  clear hbel hkj
  by_cases hlt:j<n
  ·have hlt':(j:Int)<(n:Int):=by omega
   have hk4:kj+4<=1099511627776:=by have:=HKJ.out;have:=HE.out;omega
   have hjm:j<(mkSs k n).length:=by rw[mkSs_length];exact hlt
   have hr:=HR.out.below (w':=wr) (by exact GB.out)
   obtain⟨g,cp,hv,hlo,hgz,_,hcc⟩:=hr.cells (by omega)
   obtain⟨rfl,rfl⟩:a=some ⟨g,0,none⟩/\cap=cp:=by simp at hv;exact⟨hv.1,hv.2.2⟩
   have hF:=hcc j hjm
   rw[mkSs_get,<-HKJ.out]at hF
   obtain⟨d0,d1,d2,d3,d4⟩:=hF
   unfold mkS at d0 d1 d2 d3 d4
   dsimp only at d0 d1 d2 d3 d4
   have HMT:=hideK (fun W=>markT_any kj W hk0 (by omega))
   have HMT3:=hideK (fun W=>markT_any (kj+3) W (by omega) (by omega))
   have HMN:=hideK (fun W=>heldS_nil none 0 (kj+4) W)
   rw[show ((kj+1:Nat):Int)=(kj:Int)+1 by omega]at d1
   rw[show ((kj+2:Nat):Int)=(kj:Int)+1+1 by omega]at d2
   rw[show ((kj+3:Nat):Int)=(kj:Int)+1+1+1 by omega]at HMT3
   rw[show ((kj+4:Nat):Int)=(kj:Int)+1+1+1+1 by omega]at HMN
   have HK4:Hid ((kj:Int)+1+1+1+1=((kj+4:Nat):Int)):=by unfold Hid;omega
   have hb9:(kj:Int)<=1099511627776:=by omega
   have hb8:0<=(kj:Int):=by omega
   generalize ((kj:Nat):Int)=K at d1 d2 HMT3 HMN HMT HK4 hb8 hb9 ⊢
   generalize markT kj=t0 at d0 HMT
   generalize markT (kj+3)=t3 at d3 HMT3
   have ht:(t0.toList==t0.toList)=true:=by simp
   have ht3:(t3.toList==t3.toList)=true:=by simp
   have hK1:(K+1 != K+1)=false:=by simp
   have hK2:(K+1+1 != K+1+1)=false:=by simp
   have hK4:¬K+1+1+1+1<0:=by omega
   have r0:=fun d os=>cell_regrown d0 d os
   clear hv hcc hr
   go_wp2_with fail
   refine wp_region_quiet_below (by assumption) (by kernel_rfl) ?_
   repeat (go_big_quiet_step ((go_at_call 81;exact Calls.regrown_of (HMT.out _))))
   refine wpQuiet_nil ?_
   intro _ hw'
   obtain⟨⟨dq,osq⟩,hw''⟩:=hw'
   subst hw''
   have BR:=below_regrown wr dq osq
   have K8:=hideK (lowL GB.out BR)
   have e1:=(BR.cell (p:=⟨g,j*5+1,none⟩) hgz).trans d1
   have e2:=(BR.cell (p:=⟨g,j*5+2,none⟩) hgz).trans d2
   have e3:=(BR.cell (p:=⟨g,j*5+3,none⟩) hgz).trans d3
   have e4:=(BR.cell (p:=⟨g,j*5+4,none⟩) hgz).trans d4
   have hg8:=Nat.lt_of_lt_of_le hgz BR.size
   clear d0 d1 d2 d3 d4 r0 BR HMT
   generalize Go.Sort.grow (redrawn wr dq) osq=w8 at K8 e1 e2 e3 e4 hg8 ⊢
   have r3:=fun d os=>cell_regrown e3 d os
   go_wp2_with fail
   refine wp_region_quiet_below (by assumption) (by kernel_rfl) ?_
   repeat (go_big_quiet_step ((go_at_call 81;exact Calls.regrown_of (HMT3.out _))))
   refine wpQuiet_nil ?_
   intro _ hw'
   obtain⟨⟨dq3,osq3⟩,hw''⟩:=hw'
   subst hw''
   have BR:=below_regrown w8 dq3 osq3
   have K9:=hideK (lowL K8.out BR)
   have f4:=(BR.cell (p:=⟨g,j*5+4,none⟩) hg8).trans e4
   clear e1 e2 e3 e4 r3 BR HMT3
   generalize Go.Sort.grow (redrawn w8 dq3) osq3=w9 at K9 f4 ⊢
   go_wp2_with fail
   refine(HMN.out _).mono ?_
   rintro e w10 ⟨rfl,hw⟩
   subst w10
   go_wp2_with fail
   go_roundw
   case rel=>exact⟨j+1,kj+4,by go_num,by rw[<-HK4.out],by omega,by have:=HKJ.out;omega,K9.out⟩
   case measure=>simp[intOf];omega
  ·obtain rfl:j=n:=by omega
   obtain rfl:kj=E:=by have:=HKJ.out;have:=HE.out;omega
   have hltD:decide ((j:Int)<(j:Int))=false:=by simp
   go_wp2_with fail
   go_ret
   exact⟨rfl,GB.out⟩
theorem heldP_any (z b:Int) (r s:ByteArray) (y:Int) (k lo:Nat) (v:Value) (l:List Oth) (m:List MO) (w:World) (h:OwnO w lo v m) (hh:Hass w lo m) (hq:oths m=mkL k l) (hn:l.length<=1048576) (hsm:∀ o∈l,o.has.length<=1048576) (h0:0<k) (hk:mkE k l<=1099511627776) :
  Calls Tryz.prog 45 #[peerV z b r s y v,.int .i64 k] w fun e w'=>e=.returned (.int .i64 (mkE k l:Nat))/\Below w.heap.size w w':=by
 have C0:=hideK ((Cx.nil w).new (peerO z b r s y v))
 have HM:=hideK (fun W (hW:Below w.heap.size w W)=>heldOs_any k lo v l m W (h.below hW) (hh.below hW) hq hn hsm h0 hk)
 obtain⟨a,cap,hv,_,_⟩:=h.one
 subst hv
 clear h hh hsm hk
 generalize mkE k l=E at HM ⊢
 have hE:¬(E:Int)<0:=by omega
 have hE2:decide ((E:Int)<0)=false:=by simp
 unfold peerV
 unfold peerO at C0
 go_enter Tryz.func45,Tryz.ntmps45
 go_upto_region 1 with fail
 generalize w.alloc _=W0 at C0 ⊢
 obtain⟨p0,p1,p2,p3,p4,p5⟩:=cellsP6 (C0.out.get 0 rfl)
 go_wp2_with fail
 refine(HM.out _ C0.out.low).mono ?_
 rintro e w1 ⟨rfl,hb⟩
 have C1:=hideK (C0.out.call hb)
 clear hb
 go_wp2_with fail
 go_ret
 exact⟨rfl,C1.out.low⟩
structure Mkd (W:World) (lo hi:Nat) (vo vs:Value) (l:List Oth) (n:Nat) (m:List MO):Prop where
 rm:RowM W lo hi vo m
 os:oths m=mkL 1 l
 rl:RowL W lo hi vs (mkSs (mkE 1 l) n)
theorem Mkd.call {W W':World} {lo hi:Nat} {vo vs:Value} {l:List Oth} {n:Nat} {m:List MO} (h:Mkd W lo hi vo vs l n m) (hb:Below W.heap.size W W'):Mkd W' lo hi vo vs l n m:=⟨h.rm.call hb,h.os,h.rl.call hb⟩
theorem RowL.keepO {W W':World} {lo hi:Nat} {v:Value} {m:List ML} (h:RowL W lo hi v m) (hk:KeepO W W'):RowL W' lo hi v m:=by
 refine⟨?_,h.inb,h.nop⟩
 obtain⟨hl,h⟩:=h.row
 refine⟨hl,?_⟩
 rcases h with h|⟨g,cap,cur,hv,hg,hb,rest⟩
 ·exact .inl h
 ·exact .inr ⟨g,cap,cur,hv,hg,hk g _ _ hb (by decide) (by decide),rest⟩
theorem Chg.more {lo hi:Nat} {w w1 w2:World} (h:Chg lo hi w w1) (h2:Chg lo hi w1 w2):Chg lo hi w w2 :=
 ⟨h2.os.trans h.os,h2.tape.trans h.tape,h2.output.trans h.output,Nat.le_trans h.size h2.size,fun k hk ho=>(h2.block k (Nat.lt_of_lt_of_le hk h.size) ho).trans (h.block k hk ho)⟩
def KeepL (w w':World):Prop:=∀ (k:Nat) (cs:Array Value) (T:TypeId),w.heap[k]? = some (.cells cs T (0,0))->T≠114->w'.heap[k]? = some (.cells cs T (0,0))
theorem RowM.keepL {W W':World} {lo hi:Nat} {v:Value} {m:List MO} (h:RowM W lo hi v m) (hk:KeepL W W'):RowM W' lo hi v m:=by
 refine⟨?_,fun x hx=>?_,h.ap,h.inb⟩
 ·obtain⟨hl,h⟩:=h.row
  refine⟨hl,?_⟩
  rcases h with h|⟨g,cap,cur,hv,hg,hb,rest⟩
  ·exact .inl h
  ·exact .inr ⟨g,cap,cur,hv,hg,hk g _ _ hb (by decide),rest⟩
 ·obtain⟨hl,h⟩:=h.has x hx
  refine⟨hl,?_⟩
  rcases h with h|⟨g,cap,cur,hv,hg,hb,rest⟩
  ·exact .inl h
  ·exact .inr ⟨g,cap,cur,hv,hg,hk g _ _ hb (by decide),rest⟩
theorem OwnL.blkOf {W:World} {base g:Nat} {v:Value} {m:List ML} (h:OwnL W base v m) (hg:v.ownBlock=some g):∃ cur,W.heap[g]? = some (.cells cur 114 (0,0)):=by
 obtain⟨_,h⟩:=h
 rcases h with⟨rfl,_⟩|⟨g',cap',cur,rfl,_,hb,_⟩
 ·simp[Value.ownBlock]at hg
 ·simp[Value.ownBlock]at hg
  subst hg
  exact⟨cur,hb⟩
theorem keepL_of {W W':World} {lo g:Nat} {v:Value} {m:List ML} (h:OwnL W lo v m) (hg:v.ownBlock=some g) (hc:Chg g (g+1) W W'):KeepL W W':=fun k cs T hk hT=>by
 obtain⟨cur,hb⟩:=h.blkOf hg
 have hne:=ty_ne hk hb hT
 exact(hc.block k (lt_rowK hk) (by omega)).trans hk
theorem markPO_any (z b:Int) (r s:ByteArray) (y:Int) (c:Int) (lo hi:Nat) (vo vs:Value) (mo:List MO) (ms:List ML) (w:World) (h:RowM w lo hi vo mo) (g:RowL w lo hi vs ms) (hn:mo.length<=1048576) (hsm:∀ x∈mo,x.1.has.length<=1048576) (gn:ms.length<=1048576) (hk:mkE 1 (oths mo)+4*ms.length<=1099511627776) :
  Calls Tryz.prog 13 #[poV z b r s y vo vs c,.int .i64 1] w fun e w'=>e=.returned (.int .i64 ((mkE 1 (oths mo)+4*ms.length:Nat):Int))/\(∃ m',Mkd w' lo hi vo vs (oths mo) ms.length m')/\Chg lo hi w w':=by
 have C0:=hideK ((Cx.nil w).new (poO z b r s y vo vs c))
 have B0:Hid (Below w.heap.size w (w.alloc (poO z b r s y vo vs c))):=(Below.refl _ _).alloc (Nat.le_refl _) _
 have HM:=hideK (fun W (hW:Below w.heap.size w W)=>markP_any z b r s y 1 lo hi vo mo W (h.call hW) hn hsm (by decide) (by omega))
 have HRL:=hideK (fun W (hW:Below w.heap.size w W)=>g.call hW)
 have HL:Hid (∀ W,RowL W lo hi vs ms->Calls Tryz.prog 44 #[vs,.int .i64 (mkE 1 (oths mo):Nat)] W fun e w'=>e=.returned (.int .i64 ((mkE 1 (oths mo)+4*ms.length:Nat):Int))/\RowL w' lo hi vs (mkSs (mkE 1 (oths mo)) ms.length)/\Chg lo hi W w'/\KeepL W w'):=fun W hW=>by
  have h1:0<mkE 1 (oths mo):=mkE_le _ _
  cases hv:vs.ownBlock with
  |none =>
   have hm0:vs=.slice none 0 0/\ms=[]:=by
    obtain⟨_,hq⟩:=hW.row
    rcases hq with⟨h,h0⟩|⟨g,cap,cur,rfl,_⟩
    ·exact⟨h,List.eq_nil_of_length_eq_zero h0⟩
    ·simp[Value.ownBlock]at hv
   obtain⟨rfl,rfl⟩:=hm0
   have hq:=markSs_any (mkE 1 (oths mo)) 0 0 (.slice none 0 0) [] W ⟨OwnL.nil _ _,fun g hg=>by simp[Value.ownBlock]at hg,fun _ hx=>absurd hx List.not_mem_nil⟩ (by decide) h1 (by simp at hk ⊢;omega)
   refine hq.mono ?_
   rintro e w' ⟨he,hr,hc⟩
   exact⟨he,⟨OwnL.nil _ _,fun g hg=>by simp[Value.ownBlock]at hg,mkSs_noPath _ _⟩,⟨hc.os,hc.tape,hc.output,hc.size,fun k hk _=>hc.block k hk (by omega)⟩,fun k cs T hk _=>(hc.block k (lt_rowK hk) (by omega)).trans hk⟩
  |some q =>
   have hin:=hW.inb q hv
   have hq:=markSs_any (mkE 1 (oths mo)) q (q+1) vs ms W ⟨?_,fun g hg=>by rw[hv]at hg;cases hg;omega,hW.nop⟩ gn h1 hk
   refine hq.mono ?_
   rintro e w' ⟨he,hr,hc⟩
   refine⟨he,⟨hr.row.mono hin.1,fun g hg=>by rw[hv]at hg;cases hg;exact hin,hr.nop⟩,⟨hc.os,hc.tape,hc.output,hc.size,fun k hk ho=>hc.block k hk (by omega)⟩,keepL_of hW.row hv hc⟩
   obtain⟨hl,hq⟩:=hW.row
   refine⟨hl,?_⟩
   rcases hq with h|⟨g,cap,cur,hvv,hg,rest⟩
   ·exact .inl h
   ·refine .inr ⟨g,cap,cur,hvv,?_,rest⟩
    rw[hvv]at hv
    simp[Value.ownBlock]at hv
    omega
 obtain⟨a,cap,hv,_,_⟩:=h.row.one
 subst hv
 obtain⟨a',cap',hv',_,_⟩:=g.row.one
 subst hv'
 clear h g hsm hk
 generalize mkE 1 (oths mo)+4*ms.length=E2 at HL ⊢
 unfold poV
 unfold poO at C0 B0
 unfold peerV at HM
 go_enter Tryz.func13,Tryz.ntmps13
 go_upto_region 1 with fail
 generalize hW0:w.alloc _=W0 at C0 B0 ⊢
 obtain⟨p0,p1,p2,p3,p4,p5,p6,p7⟩:=cellsP8 (C0.out.get 0 rfl)
 have HW0:Hid (W0.heap[w.heap.size]? = some (.cells #[.int .i64 z,.int .i64 b,.string r,.string s,.int .i64 y,.slice a mo.length cap,.slice a' ms.length cap',.int .i64 c] 38 (0,0))):=C0.out.get 0 rfl
 clear hW0
 go_wp2_with fail
 refine(HM.out _ B0.out).mono ?_
 rintro e w1 ⟨rfl,⟨m',hos,hsnd,hrow⟩,hc,hko⟩
 have R1:=hideK hrow
 have OS1:=hideK hos
 have C1:=hideK (Chg.after B0.out hc)
 have L1:=hideK ((HRL.out _ B0.out).keepO hko)
 have K1:=hko _ _ _ HW0.out (by decide) (by decide)
 clear hos hsnd hrow hc hko p0 p1 p2 p3 p4 p5 p6 p7
 obtain⟨p0,p1,p2,p3,p4,p5,p6,p7⟩:=cellsP8 K1
 have HL1:=hideK (HL.out w1 L1.out)
 clear K1 HL HM HRL
 go_wp2_with fail
 refine HL1.out.mono ?_
 rintro e w2 ⟨rfl,hr2,hc2,hk2⟩
 have R2:=hideK (RowM.keepL R1.out hk2)
 have L2:=hideK hr2
 have C2:=hideK (Pl.Chg.more C1.out hc2)
 clear hr2 hc2 hk2 HL1
 go_wp2_with fail
 go_ret
 exact⟨rfl,⟨m',R2.out,OS1.out,L2.out⟩,C2.out⟩
theorem heldPO_any (z b:Int) (r s:ByteArray) (y:Int) (c:Int) (lo hi:Nat) (vo vs:Value) (l:List Oth) (n:Nat) (m:List MO) (w:World) (h:Mkd w lo hi vo vs l n m) (hn:l.length<=1048576) (hsm:∀ o∈l,o.has.length<=1048576) (gn:n<=1048576) (hk:mkE 1 l+4*n<=1099511627776) :
  Calls Tryz.prog 14 #[poV z b r s y vo vs c,.int .i64 1] w fun e w'=>e=.returned (.int .i64 ((mkE 1 l+4*n:Nat):Int))/\Below w.heap.size w w':=by
 have C0:=hideK ((Cx.nil w).new (poO z b r s y vo vs c))
 have HM:=hideK (fun W (hW:Below w.heap.size w W)=>heldP_any z b r s y 1 lo vo l m W (h.rm.row.below hW) (h.rm.has.below hW) h.os hn hsm (by decide) (by omega))
 have HL:=hideK (fun W (hW:Below w.heap.size w W)=>heldSs_any (mkE 1 l) lo n vs W (h.rl.row.below hW) gn (mkE_le _ _) hk)
 obtain⟨a,cap,hv,_,_⟩:=h.rm.row.one
 subst hv
 obtain⟨a',cap',hv',_,_⟩:=h.rl.row.one
 rw[mkSs_length]at hv'
 subst hv'
 clear h hsm hk
 generalize mkE 1 l+4*n=E2 at HL ⊢
 generalize mkE 1 l=E at HM HL
 have hE:¬(E:Int)<0:=by omega
 have hE2:decide ((E:Int)<0)=false:=by simp
 have hE3:¬(E2:Int)<0:=by omega
 have hE4:decide ((E2:Int)<0)=false:=by simp
 unfold poV
 unfold poO at C0
 unfold peerV at HM
 go_enter Tryz.func14,Tryz.ntmps14
 go_upto_region 1 with fail
 generalize w.alloc _=W0 at C0 ⊢
 obtain⟨p0,p1,p2,p3,p4,p5,p6,p7⟩:=cellsP8 (C0.out.get 0 rfl)
 go_wp2_with fail
 refine(HM.out _ C0.out.low).mono ?_
 rintro e w1 ⟨rfl,hb⟩
 have C1:=hideK (C0.out.call hb)
 clear hb p0 p1 p2 p3 p4 p5 p6 p7
 obtain⟨p0,p1,p2,p3,p4,p5,p6,p7⟩:=cellsP8 (C1.out.get 0 rfl)
 go_wp2_with fail
 refine(HL.out _ C1.out.low).mono ?_
 rintro e w2 ⟨rfl,hb⟩
 have C2:=hideK (C1.out.call hb)
 clear hb
 go_wp2_with fail
 go_ret
 exact⟨rfl,C2.out.low⟩
end Go.Proofs.YtpddanmnlkcdpaaGreatDoor.Pl


namespace Go.Proofs.YtpddanmnlkcdpaaGreatDoor.Pe
open Go.RowKit
open Kp
open In (Ints OwnI)
open Ls (lowL)
theorem eqO_any (nm:ByteArray) (a a':Option Addr) (n cap cap':Nat) (l:List Int) (q g t:Int) (w:World) (h:Ints w w.heap.size a l) (h':Ints w w.heap.size a' l) (hln:l.length=n) (hn:n<=1048576) :
  Calls Tryz.prog 80 #[.agg #[.string nm,.slice a n cap,.int .i64 q,.int .i64 g,.int .i64 t],.agg #[.string nm,.slice a' n cap',.int .i64 q,.int .i64 g,.int .i64 t]] w fun e w'=>e=.returned (.bool true)/\Below w.heap.size w w':=by
 have C0:=hideK (((Cx.nil w).new (.cells #[.string nm,.slice a n cap,.int .i64 q,.int .i64 g,.int .i64 t] 86)).new (.cells #[.string nm,.slice a' n cap',.int .i64 q,.int .i64 g,.int .i64 t] 86))
 simp only[World.size_alloc]at C0
 have HE:=hideK (fun W (hW:Below w.heap.size w W)=>In.eq_any a a' cap cap' l W W.heap.size ((h.below hW).mono hW.size) ((h'.below hW).mono hW.size) (by rw[hln];exact hn))
 rw[hln]at HE
 clear h h' hln
 have h1:(nm.toList==nm.toList)=true:=by simp
 have h2:(q != q)=false:=by simp
 have h3:(g != g)=false:=by simp
 have h4:(t != t)=false:=by simp
 go_enter Tryz.func80,Tryz.ntmps80
 go_upto_region 1 with fail
 generalize (w.alloc _).alloc _=W0 at C0 ⊢
 obtain⟨p0,p1,p2,p3,p4⟩:=cells5 (C0.out.get 0 rfl)
 obtain⟨q0,q1,q2,q3,q4⟩:=cells5 (C0.out.get 1 rfl)
 go_wp2_with fail
 refine(HE.out _ C0.out.low).mono ?_
 rintro e w1 ⟨rfl,hb⟩
 have C1:=hideK (C0.out.call hb)
 clear hb C0 p0 p1 p2 p3 p4 q0 q1 q2 q3 q4
 obtain⟨p0,p1,p2,p3,p4⟩:=cells5 (C1.out.get 0 rfl)
 obtain⟨q0,q1,q2,q3,q4⟩:=cells5 (C1.out.get 1 rfl)
 go_wp2_with fail
 go_ret
 exact⟨rfl,C1.out.low⟩
theorem eqOs_any (a a':Option Addr) (n cap cap':Nat) (m m':List MO) (w:World) (h:Oths w w.heap.size a m) (h':Oths w w.heap.size a' m') (he:oths m=oths m') (hm:m.length=n) (hn:n<=1048576) (hsm:Small m) :
  Calls Tryz.prog 42 #[.slice a n cap,.slice a' n cap'] w fun e w'=>e=.returned (.bool true)/\Below w.heap.size w w':=by
 have hm':m'.length=n:=by rw[<-hm,<-oths_length m,<-oths_length m',he]
 have HS:=hideK h
 have HS':=hideK h'
 have HM:=hideK hm
 have HM':=hideK hm'
 have HSM:=hideK hsm
 have HEQ:Hid (∀ j (h1:j<m.length) (h2:j<m'.length),m'[j].1=m[j].1):=fun j h1 h2=>by rw[<-oths_get m' j h2,<-oths_get m j h1];simp only[he]
 have hmx:=mixedK
 have hnn:((n:Int) != (n:Int))=false:=by simp
 clear h h' he hm hm' hsm
 go_enter Tryz.func42,Tryz.ntmps42
 go_wp2_with fail
 go_loopw [5] (fun jv wr=>∃ j:Nat,jv=.int .i64 j/\j<=n/\Below w.heap.size w wr) (fun jv _=>n-(intOf jv).toNat)
 case atStart=>exact⟨0,rfl,Nat.zero_le _,Below.refl _ _⟩
 case round =>
  obtain⟨j,rfl,hj,hbel⟩:=hrel
  have GB:=hideK hbel
  clear hbel
  by_cases hlt:j<n
  ·have hlt':(j:Int)<(n:Int):=by omega
   have hjl:j<m.length:=by rw[HM.out];exact hlt
   have hjl':j<m'.length:=by rw[HM'.out];exact hlt
   obtain⟨b,off,rfl,hb,hc⟩:=HS.out.some (by omega)
   obtain⟨b',off',rfl,hb',hc'⟩:=HS'.out.some (by omega)
   obtain⟨d0,d1,d2,d3,d4⟩:=(hc j hjl).below GB.out hb
   obtain⟨e0,e1,e2,e3,e4⟩:=(hc' j hjl').below GB.out hb'
   obtain⟨ax,cx,hxv,_,_,hix⟩:=HS.out.2 m[j] (List.getElem_mem hjl)
   obtain⟨ax',cx',hxv',_,_,hix'⟩:=HS'.out.2 m'[j] (List.getElem_mem hjl')
   have hkx:=(HSM.out m[j] (List.getElem_mem hjl)).1
   rw[HEQ.out j hjl hjl']at e0 e2 e3 e4 hxv' hix'
   rw[hxv]at d1
   rw[hxv']at e1
   have HEO:=hideK (fun W (hW:Below w.heap.size w W)=>eqO_any m[j].1.name ax ax' _ cx cx' m[j].1.has m[j].1.asked m[j].1.age m[j].1.strikes W ((hix.below hW).mono hW.size) ((hix'.below hW).mono hW.size) rfl hkx)
   clear hix hix' hxv hxv' hc hc' hkx
   generalize m[j].1.name=nm at d0 e0 HEO
   generalize m[j].1.has.length=k at d1 e1 HEO
   generalize m[j].1.asked=q at d2 e2 HEO
   generalize m[j].1.age=g at d3 e3 HEO
   generalize m[j].1.strikes=t at d4 e4 HEO
   have r0:=fun d os=>cell_regrown d0 d os
   have r1:=fun d os=>cell_regrown d1 d os
   have r2:=fun d os=>cell_regrown d2 d os
   have r3:=fun d os=>cell_regrown d3 d os
   have r4:=fun d os=>cell_regrown d4 d os
   have s0:=fun d os=>cell_regrown e0 d os
   have s1:=fun d os=>cell_regrown e1 d os
   have s2:=fun d os=>cell_regrown e2 d os
   have s3:=fun d os=>cell_regrown e3 d os
   have s4:=fun d os=>cell_regrown e4 d os
   go_wp2_with fail
   refine wp_region_quiet_below (by assumption) (by kernel_rfl) ?_
   repeat (go_big_quiet_step ((go_at_call 80;exact Calls.regrown_of (HEO.out _ (lowL GB.out (below_regrown _ _ _))))))
   refine wpQuiet_nil ?_
   intro _ hw'
   obtain⟨⟨dq,osq⟩,hw''⟩:=hw'
   subst hw''
   have K1:=hideK (lowL GB.out (below_regrown wr dq osq))
   generalize Go.Sort.grow (redrawn wr dq) osq=w8 at K1 ⊢
   clear r0 r1 r2 r3 r4 s0 s1 s2 s3 s4 d0 d1 d2 d3 d4 e0 e1 e2 e3 e4
   go_wp2_with fail
   go_roundw
   case rel=>exact⟨j+1,by go_num,by omega,K1.out⟩
   case measure=>simp[intOf];omega
  ·have hltD:decide ((j:Int)<(n:Int))=false:=by simp;omega
   have hlt2:¬((j:Int)<(n:Int)):=by omega
   go_wp2_with fail
   go_ret
   exact⟨rfl,GB.out⟩
theorem eqP_any (z b:Int) (r s:ByteArray) (y:Int) (a a':Option Addr) (n cap cap':Nat) (m m':List MO) (w:World) (h:Oths w w.heap.size a m) (h':Oths w w.heap.size a' m') (he:oths m=oths m') (hm:m.length=n) (hn:n<=1048576) (hsm:Small m) :
  Calls Tryz.prog 11 #[peerV z b r s y (.slice a n cap),peerV z b r s y (.slice a' n cap')] w fun e w'=>e=.returned (.bool true)/\Below w.heap.size w w':=by
 have HK:=hideK (fun W=>eqK_same z b r s y W)
 have HO:=hideK (fun W (hW:Below w.heap.size w W)=>eqOs_any a a' n cap cap' m m' W ((h.below hW).mono hW.size) ((h'.below hW).mono hW.size) he hm hn hsm)
 have C0:=hideK (((Cx.nil w).new (peerO z b r s y (.slice a n cap))).new (peerO z b r s y (.slice a' n cap')))
 simp only[World.size_alloc]at C0
 clear h h' hsm
 unfold peerV
 unfold kV at HK
 unfold peerO at C0
 go_enter Tryz.func11,Tryz.ntmps11
 go_wp2_with fail
 generalize (w.alloc _).alloc _=W0 at C0 ⊢
 refine(HK.out _).mono ?_
 rintro e w1 ⟨rfl,hb⟩
 have C1:=hideK (C0.out.call hb)
 clear hb C0
 obtain⟨l0,l1,l2,l3,l4,l5⟩:=cellsP6 (C1.out.get 0 rfl)
 obtain⟨k0,k1,k2,k3,k4,k5⟩:=cellsP6 (C1.out.get 1 rfl)
 go_wp2_with fail
 refine(HO.out _ C1.out.low).mono ?_
 rintro e w2 ⟨rfl,hb⟩
 have C2:=hideK (C1.out.call hb)
 clear hb C1
 go_wp2_with fail
 go_ret
 exact⟨rfl,C2.out.low⟩
end Go.Proofs.YtpddanmnlkcdpaaGreatDoor.Pe


namespace Go.Proofs.YtpddanmnlkcdpaaGreatDoor.Pl
open Go.RowKit
open Kp
open Pe
open St (Strs OwnS)
open Ls (lowL)
theorem cellsQ4 {W:World} {g:Nat} {x0 x1 x2 x3:Value} {T:TypeId} (h:W.heap[g]? = some (.cells #[x0,x1,x2,x3] T (0,0))):W.cell? ⟨g,0,none⟩=some x0/\W.cell? ⟨g,1,none⟩=some x1/\W.cell? ⟨g,2,none⟩=some x2/\W.cell? ⟨g,3,none⟩=some x3 :=
 ⟨cell_of_row W g 0 _ _ _ h,cell_of_row W g 1 _ _ _ h,cell_of_row W g 2 _ _ _ h,cell_of_row W g 3 _ _ _ h⟩
def SmallL (m:List ML):Prop:=∀ x∈m,x.1.path.length<=1048576
theorem eqSay_any (k i:Int) (p:ByteArray) (a a':Option Addr) (n cap cap':Nat) (l:List ByteArray) (w:World) (h:Strs w w.heap.size a l) (h':Strs w w.heap.size a' l) (hln:l.length=n) (hn:n<=1048576) :
  Calls Tryz.prog 19 #[.agg #[.int .i64 k,.int .i64 i,.string p,.slice a n cap],.agg #[.int .i64 k,.int .i64 i,.string p,.slice a' n cap']] w fun e w'=>e=.returned (.bool true)/\Below w.heap.size w w':=by
 have C0:=hideK (((Cx.nil w).new (.cells #[.int .i64 k,.int .i64 i,.string p,.slice a n cap] 51)).new (.cells #[.int .i64 k,.int .i64 i,.string p,.slice a' n cap'] 51))
 simp only[World.size_alloc]at C0
 have HE:=hideK (fun W (hW:Below w.heap.size w W)=>St.eq_any a a' cap cap' l W W.heap.size ((h.below hW).mono hW.size) ((h'.below hW).mono hW.size) (by rw[hln];exact hn))
 rw[hln]at HE
 clear h h' hln
 have h1:(p.toList==p.toList)=true:=by simp
 have h2:(k != k)=false:=by simp
 have h3:(i != i)=false:=by simp
 go_enter Tryz.func19,Tryz.ntmps19
 go_upto_region 1 with fail
 generalize (w.alloc _).alloc _=W0 at C0 ⊢
 obtain⟨p0,p1,p2,p3⟩:=cellsQ4 (C0.out.get 0 rfl)
 obtain⟨q0,q1,q2,q3⟩:=cellsQ4 (C0.out.get 1 rfl)
 go_wp2_with fail
 refine(HE.out _ C0.out.low).mono ?_
 rintro e w1 ⟨rfl,hb⟩
 have C1:=hideK (C0.out.call hb)
 clear hb C0 p0 p1 p2 p3 q0 q1 q2 q3
 go_wp2_with fail
 go_ret
 exact⟨rfl,C1.out.low⟩
theorem eqSent_any (t:ByteArray) (k i:Int) (p:ByteArray) (a a':Option Addr) (n cap cap':Nat) (l:List ByteArray) (w:World) (h:Strs w w.heap.size a l) (h':Strs w w.heap.size a' l) (hln:l.length=n) (hn:n<=1048576) :
  Calls Tryz.prog 78 #[.agg #[.string t,.int .i64 k,.int .i64 i,.string p,.slice a n cap],.agg #[.string t,.int .i64 k,.int .i64 i,.string p,.slice a' n cap']] w fun e w'=>e=.returned (.bool true)/\Below w.heap.size w w':=by
 have C0:=hideK (((Cx.nil w).new (.cells #[.string t,.int .i64 k,.int .i64 i,.string p,.slice a n cap] 114)).new (.cells #[.string t,.int .i64 k,.int .i64 i,.string p,.slice a' n cap'] 114))
 simp only[World.size_alloc]at C0
 have HE:=hideK (fun W (hW:Below w.heap.size w W)=>eqSay_any k i p a a' n cap cap' l W ((h.below hW).mono hW.size) ((h'.below hW).mono hW.size) hln hn)
 clear h h' hln
 have h1:(t.toList==t.toList)=true:=by simp
 go_enter Tryz.func78,Tryz.ntmps78
 go_upto_region 1 with fail
 generalize (w.alloc _).alloc _=W0 at C0 ⊢
 obtain⟨p0,p1,p2,p3,p4⟩:=cells5 (C0.out.get 0 rfl)
 obtain⟨q0,q1,q2,q3,q4⟩:=cells5 (C0.out.get 1 rfl)
 go_wp2_with fail
 refine(HE.out _ C0.out.low).mono ?_
 rintro e w1 ⟨rfl,hb⟩
 have C1:=hideK (C0.out.call hb)
 clear hb C0 p0 p1 p2 p3 p4 q0 q1 q2 q3 q4
 go_wp2_with fail
 go_ret
 exact⟨rfl,C1.out.low⟩
theorem eqSs_any (a a':Option Addr) (n cap cap':Nat) (m m':List ML) (w:World) (h:Snts w w.heap.size a m) (h':Snts w w.heap.size a' m') (he:snts m=snts m') (hm:m.length=n) (hn:n<=1048576) (hsm:SmallL m) :
  Calls Tryz.prog 40 #[.slice a n cap,.slice a' n cap'] w fun e w'=>e=.returned (.bool true)/\Below w.heap.size w w':=by
 have hm':m'.length=n:=by rw[<-hm,<-snts_length m,<-snts_length m',he]
 have HS:=hideK h
 have HS':=hideK h'
 have HM:=hideK hm
 have HM':=hideK hm'
 have HSM:=hideK hsm
 have HEQ:Hid (∀ j (h1:j<m.length) (h2:j<m'.length),m'[j].1=m[j].1):=fun j h1 h2=>by rw[<-snts_get m' j h2,<-snts_get m j h1];simp only[he]
 have hmx:=mixedK
 have hnn:((n:Int) != (n:Int))=false:=by simp
 clear h h' he hm hm' hsm
 go_enter Tryz.func40,Tryz.ntmps40
 go_wp2_with fail
 go_loopw [5] (fun jv wr=>∃ j:Nat,jv=.int .i64 j/\j<=n/\Below w.heap.size w wr) (fun jv _=>n-(intOf jv).toNat)
 case atStart=>exact⟨0,rfl,Nat.zero_le _,Below.refl _ _⟩
 case round =>
  obtain⟨j,rfl,hj,hbel⟩:=hrel
  have GB:=hideK hbel
  clear hbel
  by_cases hlt:j<n
  ·have hlt':(j:Int)<(n:Int):=by omega
   have hjl:j<m.length:=by rw[HM.out];exact hlt
   have hjl':j<m'.length:=by rw[HM'.out];exact hlt
   obtain⟨b,off,rfl,hb,hc⟩:=HS.out.some (by omega)
   obtain⟨b',off',rfl,hb',hc'⟩:=HS'.out.some (by omega)
   obtain⟨d0,d1,d2,d3,d4⟩:=(hc j hjl).below GB.out hb
   obtain⟨e0,e1,e2,e3,e4⟩:=(hc' j hjl').below GB.out hb'
   obtain⟨ax,cx,hxv,_,hix⟩:=HS.out.2 m[j] (List.getElem_mem hjl)
   obtain⟨ax',cx',hxv',_,hix'⟩:=HS'.out.2 m'[j] (List.getElem_mem hjl')
   have hkx:=HSM.out m[j] (List.getElem_mem hjl)
   rw[HEQ.out j hjl hjl']at e0 e1 e2 e3 hxv' hix'
   rw[hxv]at d4
   rw[hxv']at e4
   have HEO:=hideK (fun W (hW:Below w.heap.size w W)=>eqSent_any m[j].1.who m[j].1.kind m[j].1.index m[j].1.piece ax ax' _ cx cx' m[j].1.path W ((hix.below hW).mono hW.size) ((hix'.below hW).mono hW.size) rfl hkx)
   clear hix hix' hxv hxv' hc hc' hkx
   generalize m[j].1.who=nm at d0 e0 HEO
   generalize m[j].1.path.length=k at d4 e4 HEO
   generalize m[j].1.kind=q at d1 e1 HEO
   generalize m[j].1.index=g at d2 e2 HEO
   generalize m[j].1.piece=t at d3 e3 HEO
   have r0:=fun d os=>cell_regrown d0 d os
   have r1:=fun d os=>cell_regrown d1 d os
   have r2:=fun d os=>cell_regrown d2 d os
   have r3:=fun d os=>cell_regrown d3 d os
   have r4:=fun d os=>cell_regrown d4 d os
   have s0:=fun d os=>cell_regrown e0 d os
   have s1:=fun d os=>cell_regrown e1 d os
   have s2:=fun d os=>cell_regrown e2 d os
   have s3:=fun d os=>cell_regrown e3 d os
   have s4:=fun d os=>cell_regrown e4 d os
   go_wp2_with fail
   refine wp_region_quiet_below (by assumption) (by kernel_rfl) ?_
   repeat (go_big_quiet_step ((go_at_call 78;exact Calls.regrown_of (HEO.out _ (lowL GB.out (below_regrown _ _ _))))))
   refine wpQuiet_nil ?_
   intro _ hw'
   obtain⟨⟨dq,osq⟩,hw''⟩:=hw'
   subst hw''
   have K1:=hideK (lowL GB.out (below_regrown wr dq osq))
   generalize Go.Sort.grow (redrawn wr dq) osq=w8 at K1 ⊢
   clear r0 r1 r2 r3 r4 s0 s1 s2 s3 s4 d0 d1 d2 d3 d4 e0 e1 e2 e3 e4
   go_wp2_with fail
   go_roundw
   case rel=>exact⟨j+1,by go_num,by omega,K1.out⟩
   case measure=>simp[intOf];omega
  ·have hltD:decide ((j:Int)<(n:Int))=false:=by simp;omega
   have hlt2:¬((j:Int)<(n:Int)):=by omega
   go_wp2_with fail
   go_ret
   exact⟨rfl,GB.out⟩
theorem eqPO_any (z b:Int) (r s:ByteArray) (y:Int) (ao ao' as' as2:Option Addr) (no ns co co' cs cs':Nat) (c:Int) (mo mo':List MO) (ms ms':List ML) (w:World) (h:Oths w w.heap.size ao mo) (h':Oths w w.heap.size ao' mo') (he:oths mo=oths mo') (hm:mo.length=no) (hn:no<=1048576) (hsm:Small mo)
  (g:Snts w w.heap.size as' ms) (g':Snts w w.heap.size as2 ms') (ge:snts ms=snts ms') (gm:ms.length=ns) (gn:ns<=1048576) (gsm:SmallL ms) :
  Calls Tryz.prog 10 #[poV z b r s y (.slice ao no co) (.slice as' ns cs) c,poV z b r s y (.slice ao' no co') (.slice as2 ns cs') c] w fun e w'=>e=.returned (.bool true)/\Below w.heap.size w w':=by
 have HO:=hideK (fun W (hW:Below w.heap.size w W)=>eqP_any z b r s y ao ao' no co co' mo mo' W ((h.below hW).mono hW.size) ((h'.below hW).mono hW.size) he hm hn hsm)
 have HL:=hideK (fun W (hW:Below w.heap.size w W)=>eqSs_any as' as2 ns cs cs' ms ms' W ((g.below hW).mono hW.size) ((g'.below hW).mono hW.size) ge gm gn gsm)
 have C0:=hideK (((Cx.nil w).new (poO z b r s y (.slice ao no co) (.slice as' ns cs) c)).new (poO z b r s y (.slice ao' no co') (.slice as2 ns cs') c))
 simp only[World.size_alloc]at C0
 clear h h' hsm g g' gsm
 have h2:(c != c)=false:=by simp
 unfold poV
 unfold peerV at HO
 unfold poO at C0
 go_enter Tryz.func10,Tryz.ntmps10
 go_upto_region 1 with fail
 generalize (w.alloc _).alloc _=W0 at C0 ⊢
 obtain⟨l0,l1,l2,l3,l4,l5,l6,l7⟩:=cellsP8 (C0.out.get 0 rfl)
 obtain⟨k0,k1,k2,k3,k4,k5,k6,k7⟩:=cellsP8 (C0.out.get 1 rfl)
 go_wp2_with fail
 refine(HO.out _ C0.out.low).mono ?_
 rintro e w1 ⟨rfl,hb⟩
 have C1:=hideK (C0.out.call hb)
 clear hb C0 l0 l1 l2 l3 l4 l5 l6 l7 k0 k1 k2 k3 k4 k5 k6 k7
 obtain⟨l0,l1,l2,l3,l4,l5,l6,l7⟩:=cellsP8 (C1.out.get 0 rfl)
 obtain⟨k0,k1,k2,k3,k4,k5,k6,k7⟩:=cellsP8 (C1.out.get 1 rfl)
 go_wp2_with fail
 refine(HL.out _ C1.out.low).mono ?_
 rintro e w2 ⟨rfl,hb⟩
 have C2:=hideK (C1.out.call hb)
 clear hb C1 l0 l1 l2 l3 l4 l5 l6 l7 k0 k1 k2 k3 k4 k5 k6 k7
 obtain⟨l0,l1,l2,l3,l4,l5,l6,l7⟩:=cellsP8 (C2.out.get 0 rfl)
 obtain⟨k0,k1,k2,k3,k4,k5,k6,k7⟩:=cellsP8 (C2.out.get 1 rfl)
 go_wp2_with fail
 go_ret
 exact⟨rfl,C2.out.low⟩
end Go.Proofs.YtpddanmnlkcdpaaGreatDoor.Pl

