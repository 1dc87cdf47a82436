/- Texts put together: PeTo3, PeMark, PeMark2, PeMark3, TkOwn, PmMeet, TkKeep, TkWork, TkOld, TkRare, TkAskP, TkAsk. -/
import Derived.Test.YtpddanmnlkcdpaaGreatDoorTz40
import Derived.Test.YtpddanmnlkcdpaaGreatDoorTz34
import Derived.Test.YtpddanmnlkcdpaaGreatDoorTz29
import Derived.Test.YtpddanmnlkcdpaaGreatDoorTz36
import Derived.Test.YtpddanmnlkcdpaaGreatDoorTz32
import Derived.Test.YtpddanmnlkcdpaaGreatDoorTz47
import Derived.RangeFuncNested
import Derived.Test.YtpddanmnlkcdpaaGreatDoorTz35
import Derived.Test.YtpddanmnlkcdpaaGreatDoorTz0
set_option maxRecDepth 100000
set_option maxHeartbeats 8000000
namespace Go.Proofs.YtpddanmnlkcdpaaGreatDoor.Pe
open Go.RowKit
open Kp
open In (Ints OwnI)
open Ap (KeepE)
open Ls (lowL)
theorem OwnO.keepE {W W':World} {base:Nat} {v:Value} {m:List MO} {e:TypeId} (h:OwnO W base v m) (k:KeepE e W W') (he:(86:TypeId)≠e):OwnO W' base v m:=by
 obtain⟨hl,h⟩:=h
 refine⟨hl,?_⟩
 rcases h with h|⟨g,cap,cur,hv,hg,hb,rest⟩
 ·exact .inl h
 ·exact .inr ⟨g,cap,cur,hv,hg,k g cur _ he hb,rest⟩
theorem MadeO.keepE {W W':World} {base:Nat} {v:Value} {m mo:List MO} {e:TypeId} (h:MadeO W base v m mo) (k:KeepE e W W') (h1:(86:TypeId)≠e) (h2:(2:TypeId)≠e):MadeO W' base v m mo:=⟨h.os,h.row.keepE k h1,h.has.keep k h2,h.ap⟩
theorem keepE_six {W:World} {g:Nat} {cs:Array Value} {e:TypeId} (hg:W.heap[g]? = some (.cells cs e (0,0))) (a0 a1 a2 a3 a4 a5:Value):KeepE e W ((((((W.setCell ⟨g,0,none⟩ a0).setCell ⟨g,1,none⟩ a1).setCell ⟨g,2,none⟩ a2).setCell ⟨g,3,none⟩ a3).setCell ⟨g,4,none⟩ a4).setCell ⟨g,5,none⟩ a5):=fun k cur t ht hk =>
 setP6_keep hk (by
  rintro rfl
  rw[hg]at hk
  simp at hk
  exact ht hk.2.symm) _ _ _ _ _ _
def pZ:Obj:=.cells #[.int .i64 0,.int .i64 0,.string ⟨#[]⟩,.string ⟨#[]⟩,.int .i64 0,.slice none 0 0] 35
theorem toP_any (z b:Int) (r s:ByteArray) (y:Int) (a:Option Addr) (n cap:Nat) (m:List MO) (w:World) (h:Oths w w.heap.size a m) (hm:m.length=n) (hn:n<=1048576) (hsm:Small m) :
  Calls Tryz.prog 8 #[lpV z b r s y (.slice a n cap)] w fun e w'=>∃ g mo,e=.returned (peerV z b r s y (.slice (some ⟨g,0,none⟩) n n))/\MadeO w' w.heap.size (.slice (some ⟨g,0,none⟩) n n) m mo/\Below w.heap.size w w':=by
 have HK:=hideK (fun W=>toK_any z b r s y W)
 have HO:=hideK (fun W (hW:Below w.heap.size w W)=>toOs_any a n cap m W ((h.below hW).mono hW.size) hm hn hsm)
 have C0:=hideK ((((Cx.nil w).new (lpO z b r s y (.slice a n cap))).new pZ).new pZ)
 simp only[World.size_alloc]at C0
 clear h hsm
 unfold peerV
 unfold kV at HK
 unfold lpV
 unfold lpO pZ at C0
 go_enter Tryz.func8,Tryz.ntmps8
 go_wp2_with fail
 generalize ((w.alloc _).alloc _).alloc _=W0 at C0 ⊢
 refine(HK.out _).mono ?_
 rintro e w1 ⟨rfl,hb⟩
 have C1:=hideK (C0.out.call hb)
 clear hb C0
 obtain⟨q0,q1,q2,q3,q4,q5⟩:=cellsP6 (C1.out.get 0 rfl)
 have ff:=fun o=>frozen_of_row w1 (w.heap.size+1+1) o _ _ (C1.out.get 0 rfl)
 have D1:Hid (Cx w w1 [(w.heap.size+1,.cells #[.int .i64 0,.int .i64 0,.string ⟨#[]⟩,.string ⟨#[]⟩,.int .i64 0,.slice none 0 0] 35),(w.heap.size,.cells #[.int .i64 z,.int .i64 b,.string r,.string s,.int .i64 y,.slice a n cap] 28)]):=⟨C1.out.low,fun x hx=>C1.out.blk x (List.mem_cons_of_mem _ hx)⟩
 have ne:∀ x∈[(w.heap.size+1,Obj.cells #[.int .i64 0,.int .i64 0,.string ⟨#[]⟩,.string ⟨#[]⟩,.int .i64 0,.slice none 0 0] 35),(w.heap.size,.cells #[.int .i64 z,.int .i64 b,.string r,.string s,.int .i64 y,.slice a n cap] 28)],x.1≠w.heap.size+1+1:=fun x hx=>by
   rcases List.mem_cons.1 hx with rfl|hx
   ·show w.heap.size+1≠w.heap.size+1+1;omega
   ·rw[List.mem_singleton.1 hx];show w.heap.size≠w.heap.size+1+1;omega
 have D5:=hideK (((((D1.out.set (g:=w.heap.size+1+1) (by omega) ne 0 (.int .i64 z)).set (g:=w.heap.size+1+1) (by omega) ne 1 (.int .i64 b)).set (g:=w.heap.size+1+1) (by omega) ne 2 (.string r)).set (g:=w.heap.size+1+1) (by omega) ne 3 (.string s)).set (g:=w.heap.size+1+1) (by omega) ne 4 (.int .i64 y))
 have X1:=setC (cs':=#[.int .i64 z,.int .i64 0,.string ⟨#[]⟩,.string ⟨#[]⟩,.int .i64 0,.slice none 0 0]) (C1.out.get 0 rfl) 0 (.int .i64 z) rfl
 have X2:=setC (cs':=#[.int .i64 z,.int .i64 b,.string ⟨#[]⟩,.string ⟨#[]⟩,.int .i64 0,.slice none 0 0]) X1 1 (.int .i64 b) rfl
 have X3:=setC (cs':=#[.int .i64 z,.int .i64 b,.string r,.string ⟨#[]⟩,.int .i64 0,.slice none 0 0]) X2 2 (.string r) rfl
 have X4:=setC (cs':=#[.int .i64 z,.int .i64 b,.string r,.string s,.int .i64 0,.slice none 0 0]) X3 3 (.string s) rfl
 have X5:=hideK (setC (cs':=#[.int .i64 z,.int .i64 b,.string r,.string s,.int .i64 y,.slice none 0 0]) X4 4 (.int .i64 y) rfl)
 clear X1 X2 X3 X4 D1 C1
 go_upto_region 3 with fail
 generalize ((((w1.setCell _ _).setCell _ _).setCell _ _).setCell _ _).setCell _ _=W5 at D5 X5 ⊢
 clear q0 q1 q2 q3 q4 q5 ff
 have k5:=cell_of_row W5 w.heap.size 5 _ _ _ (D5.out.get 1 rfl)
 simp at k5
 go_wp2_with fail
 refine(HO.out _ D5.out.low).mono ?_
 rintro e w6 ⟨rfl,⟨mo,hmo⟩,hb⟩
 have M6:=hideK (hmo.mono D5.out.low.size)
 have X6:=hideK (Ls.blkL X5.out hb)
 have D6:=hideK (D5.out.call hb)
 clear hb hmo k5 D5 X5
 generalize W5.heap.size=gm at M6 ⊢
 obtain⟨q0,q1,q2,q3,q4,q5⟩:=cellsP6 X6.out
 have ff:=fun o=>frozen_of_row w6 (w.heap.size+1+1) o _ _ X6.out
 have D7:=hideK (D6.out.set (g:=w.heap.size+1+1) (by omega) ne 5 (.slice (some ⟨gm,0,none⟩) n n))
 have X7:=hideK (setC (cs':=#[.int .i64 z,.int .i64 b,.string r,.string s,.int .i64 y,.slice (some ⟨gm,0,none⟩) n n]) X6.out 5 (.slice (some ⟨gm,0,none⟩) n n) rfl)
 have M7:=hideK (M6.out.keepE (keepE_set X6.out 5 (.slice (some ⟨gm,0,none⟩) n n)) (by decide) (by decide))
 go_upto_region 4 with fail
 generalize w6.setCell _ _=W7 at D7 X7 M7 ⊢
 clear q0 q1 q2 q3 q4 q5 ff D6 X6 M6
 obtain⟨q0,q1,q2,q3,q4,q5⟩:=cellsP6 X7.out
 obtain⟨p0,p1,p2,p3,p4,p5⟩:=cellsP6 (D7.out.get 0 rfl)
 have ff:=fun o=>frozen_of_row W7 (w.heap.size+1) o _ _ (D7.out.get 0 rfl)
 have s6:=cellsP6 (setP6 (D7.out.get 0 rfl) (.int .i64 z) (.int .i64 b) (.string r) (.string s) (.int .i64 y) (.slice (some ⟨gm,0,none⟩) n n))
 have E6:=hideK (setP6_low D7.out.low (g:=w.heap.size+1) (by omega) (.int .i64 z) (.int .i64 b) (.string r) (.string s) (.int .i64 y) (.slice (some ⟨gm,0,none⟩) n n))
 have M8:=hideK (M7.out.keepE (keepE_six (D7.out.get 0 rfl) (.int .i64 z) (.int .i64 b) (.string r) (.string s) (.int .i64 y) (.slice (some ⟨gm,0,none⟩) n n)) (by decide) (by decide))
 clear ne
 go_wp2_with fail
 exact bodyPost_ret (v:=.agg #[.int .i64 z,.int .i64 b,.string r,.string s,.int .i64 y,.slice (some ⟨gm,0,none⟩) n n]) (by simp[results,Tryz.results8,go_sem,s6.1,s6.2.1,s6.2.2.1,s6.2.2.2.1,s6.2.2.2.2.1,s6.2.2.2.2.2]) rfl ⟨gm,mo,rfl,M8.out,E6.out⟩
end Go.Proofs.YtpddanmnlkcdpaaGreatDoor.Pe


namespace Go.Proofs.YtpddanmnlkcdpaaGreatDoor.Pe
open Go.RowKit
open Kp
open In (Ints OwnI)
open Ap (KeepE keepE_own)
open Ls (lowL)
open St (markT markT_any)
structure Chg (lo hi:Nat) (w w':World):Prop where
 os:w'.os=w.os
 tape:w'.tape=w.tape
 output:w'.output=w.output
 size:w.heap.size<=w'.heap.size
 block:∀ k,k<w.heap.size->(k<lo∨hi<=k)->w'.heap[k]? = w.heap[k]?
theorem Chg.refl (lo hi:Nat) (w:World):Chg lo hi w w:=⟨rfl,rfl,rfl,Nat.le_refl _,fun _ _ _=>rfl⟩
theorem Chg.call {lo hi:Nat} {w w1 w2:World} (h:Chg lo hi w w1) (hb:Below w1.heap.size w1 w2):Chg lo hi w w2 :=
 ⟨hb.os.trans h.os,hb.tape.trans h.tape,hb.output.trans h.output,Nat.le_trans h.size hb.size,fun k hk ho=>(hb.block k (Nat.lt_of_lt_of_le hk h.size)).trans (h.block k hk ho)⟩
theorem Chg.set {lo hi g i:Nat} {w w1:World} (h:Chg lo hi w w1) (hl:lo<=g) (hh:g<hi) (v:Value):Chg lo hi w (w1.setCell ⟨g,i,none⟩ v) :=
 ⟨h.os,h.tape,h.output,by simp;exact h.size,fun k hk ho=>by rw[heap_setCell_other w1 _ k v (by show k≠g;omega)];exact h.block k hk ho⟩
theorem Chg.grown {lo hi:Nat} {row:Option Nat} {w w1 w2:World} (h:Chg lo hi w w1) (hg:w1.grownBy w2 row) (hr:∀ g,row=some g->lo<=g/\g<hi):Chg lo hi w w2:=by
 obtain⟨h1,h2,h3,h4,h5⟩:=hg
 refine⟨h1.trans h.os,h2.trans h.tape,h3.trans h.output,Nat.le_trans h.size h4,fun k hk ho=>(h5 k (Nat.lt_of_lt_of_le hk h.size) (fun e=>?_)).trans (h.block k hk ho)⟩
 have:=hr k e.symm
 omega
theorem Chg.below {lo hi B:Nat} {w0 w w':World} (hb:Below B w0 w) (h:Chg lo hi w w') (hl:B<=lo) (hB:B<=w.heap.size):Below B w0 w' :=
 ⟨h.os.trans hb.os,h.tape.trans hb.tape,h.output.trans hb.output,Nat.le_trans hb.size h.size,fun k hk=>(h.block k (by omega) (by omega)).trans (hb.block k hk)⟩
theorem iset_mid (k i:Nat) (l:List Int) (h:i<l.length):(In.mmid l k i).set i ((k+i:Nat):Int)=In.mmid l k (i+1):=In.mmid_next l k i h
theorem ownI_set {W:World} {base g n cap:Nat} {l:List Int} {i:Nat} (h:OwnI W base (.slice (some ⟨g,0,none⟩) n cap) l) (hn:l.length=n) (x:Int):OwnI (W.setCell ⟨g,i,none⟩ (.int .i64 x)) base (.slice (some ⟨g,0,none⟩) n cap) (l.set i x):=by
 unfold OwnI at h ⊢
 rw[List.length_set,List.map_set]
 rw[hn]at h ⊢
 exact own_set h _
theorem markI_from (g n c k base:Nat) (l:List Int) (w:World) (h:OwnI w base (.slice (some ⟨g,0,none⟩) n c) l) (hln:l.length=n) (hn:n<=1048576) (hk:k<=1099511627776) :
  Calls Tryz.prog 82 #[.slice (some ⟨g,0,none⟩) n c,.int .i64 k] w fun e w'=>e=.returned (.int .i64 ((k+n:Nat):Int))/\OwnI w' base (.slice (some ⟨g,0,none⟩) n c) (In.marks k n)/\w.grownBy w' (some g):=by
 have HS:=hideK h
 have HLN:=hideK hln
 clear h hln
 go_enter Tryz.func82,Tryz.ntmps82
 go_wp2_with fail
 go_loopw [5,1] (fun i kv wr=>∃ j:Nat,i=.int .i64 j/\kv=.int .i64 ((k+j:Nat):Int)/\j<=n/\OwnI wr base (.slice (some ⟨g,0,none⟩) n c) (In.mmid l k j)/\w.grownBy wr (some g)) (fun i _ _=>n-(intOf i).toNat)
 case atStart=>exact⟨0,rfl,rfl,by omega,by rw[In.mmid_zero];exact HS.out,Tr.grown_refl _ _⟩
 case round =>
  obtain⟨j,rfl,rfl,hj,h1,ha⟩:=hrel
  have G1:=hideK h1
  have GA:=hideK ha
  clear h1 ha
  by_cases hlt:j<n
  ·have hjl:j<l.length:=by rw[HLN.out];exact hlt
   have hlt':(j:Int)<(n:Int):=by omega
   have HM:=hideK (iset_mid k j l hjl)
   have HL:=hideK (In.mmid_length l k j (by omega))
   have hml:(In.mmid l k j).length=n:=by rw[HL.out,HLN.out]
   obtain⟨v0,ce,cf⟩:∃ v,wr.cell? ⟨g,j,none⟩=some (.int .i64 v)/\wr.frozen? ⟨g,j,none⟩=false:=by
    rcases G1.out.split with⟨h,_⟩|⟨g',cap',hv,_,_,ho⟩
    ·cases h
    ·obtain rfl:g=g':=by simp at hv;exact hv.1
     exact⟨_,ho.cell (j:=j) (by omega),ho.frozen j⟩
   have N1:Hid (OwnI (wr.setCell ⟨g,j,none⟩ (.int .i64 ((k+j:Nat):Int))) base (.slice (some ⟨g,0,none⟩) n c) (In.mmid l k (j+1))):=by
    unfold Hid
    rw[<-HM.out]
    exact ownI_set G1.out hml _
   have N2:Hid (w.grownBy (wr.setCell ⟨g,j,none⟩ (.int .i64 ((k+j:Nat):Int))) (some g)):=by
    obtain⟨a1,a2,a3,a4,a5⟩:=GA.out
    exact⟨a1,a2,a3,by simp;exact a4,fun q hq hne=>by rw[heap_setCell_other wr _ q _ (by exact fun e=>hne (by rw[e]))];exact a5 q hq hne⟩
   clear HM HL hml
   generalize hkk:k+j=kk at N1 N2 ⊢
   have hk2:kk+1=k+(j+1):=by omega
   have hk3:kk<=2199023255552:=by omega
   clear hkk
   have HK2:=hideK hk2
   clear hk2
   go_wp2_with fail
   go_roundw
   case rel=>exact⟨j+1,by go_num,by rw[<-HK2.out];go_num,by omega,N1.out,N2.out⟩
   case measure=>simp[intOf];omega
  ·obtain rfl:j=n:=by omega
   have HE:Hid (In.mmid l k j=In.marks k j):=by
    have:=HLN.out
    subst this
    exact In.mmid_all l k
   have N1:Hid (OwnI wr base (.slice (some ⟨g,0,none⟩) j c) (In.marks k j)):=by rw[<-HE.out];exact G1.out
   have hltD:decide ((j:Int)<(j:Int))=false:=by simp
   generalize hkk:k+j=kk
   have HKK:=hideK hkk
   clear hkk
   go_wp2_with fail
   go_ret
   exact⟨by rw[HKK.out];rfl,N1.out,GA.out⟩
theorem markI_nil (a:Option Addr) (c k:Nat) (w:World) :
  Calls Tryz.prog 82 #[.slice a 0 c,.int .i64 k] w fun e w'=>e=.returned (.int .i64 (k:Int))/\w'=w:=by
 go_enter Tryz.func82,Tryz.ntmps82
 go_wp2_with fail
 go_loopw [5,1] (fun i kv wr=>i=.int .i64 0/\kv=.int .i64 (k:Int)/\wr=w) (fun _ _ _=>0)
 case atStart=>exact⟨rfl,rfl,rfl⟩
 case round =>
  obtain⟨rfl,rfl,hw⟩:=hrel
  subst hw
  go_wp2_with fail
  go_ret
  exact⟨rfl,rfl⟩
theorem markI_own (k base:Nat) (v:Value) (l:List Int) (w:World) (h:OwnI w base v l) (hn:l.length<=1048576) (hk:k<=1099511627776) :
  Calls Tryz.prog 82 #[v,.int .i64 k] w fun e w'=>e=.returned (.int .i64 ((k+l.length:Nat):Int))/\OwnI w' base v (In.marks k l.length)/\w.grownBy w' v.ownBlock:=by
 rcases h.split with⟨rfl,rfl⟩|⟨g,cap,rfl,_,_,_⟩
 ·refine(markI_nil none 0 k w).mono ?_
  rintro e w' ⟨rfl,rfl⟩
  exact⟨rfl,OwnI.nil _ _,Tr.grown_refl _ _⟩
 ·exact markI_from g _ cap k base l w h rfl hn hk
end Go.Proofs.YtpddanmnlkcdpaaGreatDoor.Pe


/- The laws' marks in a row of others. -/
namespace Go.Proofs.YtpddanmnlkcdpaaGreatDoor.Pe
open Go.RowKit
open Kp
open In (Ints OwnI)
open Ap (KeepE keepE_own)
open Ls (lowL)
open St (markT markT_any)
def mkO (k:Nat) (o:Oth):Oth:=⟨markT k,In.marks (k+1) o.has.length,((k+1+o.has.length:Nat):Int),((k+2+o.has.length:Nat):Int),((k+3+o.has.length:Nat):Int)⟩
def mkN (k:Nat) (o:Oth):Nat:=k+4+o.has.length
def mkL:Nat->List Oth->List Oth
 |_,[]=>[]
 |k,o :: l=>mkO k o :: mkL (mkN k o) l
def mkE:Nat->List Oth->Nat
 |k,[]=>k
 |k,o :: l=>mkE (mkN k o) l
theorem mkL_length:∀ (l:List Oth) (k:Nat),(mkL k l).length=l.length
 |[],_=>rfl
 |o :: l,k=>by rw[mkL,List.length_cons,List.length_cons,mkL_length l]
theorem mkE_append:∀ (l l':List Oth) (k:Nat),mkE k (l++l')=mkE (mkE k l) l'
 |[],_,_=>rfl
 |o :: l,l',k=>by rw[List.cons_append,mkE,mkE,mkE_append l]
theorem mkL_append:∀ (l l':List Oth) (k:Nat),mkL k (l++l')=mkL k l++mkL (mkE k l) l'
 |[],_,_=>rfl
 |o :: l,l',k=>by rw[List.cons_append,mkL,mkL,mkE,mkL_append l];rfl
theorem mkE_le:∀ (l:List Oth) (k:Nat),k<=mkE k l
 |[],k=>Nat.le_refl _
 |o :: l,k=>by
  have:=mkE_le l (mkN k o)
  rw[mkE]
  unfold mkN at this ⊢
  omega
theorem mkE_take {m:List MO} {j k:Nat} (h:j<m.length):mkE k (oths (m.take (j+1)))=mkN (mkE k (oths (m.take j))) m[j].1:=by rw[oths_take h,mkE_append];rfl
theorem mkE_take_le {m:List MO} (k j:Nat):mkE k (oths (m.take j))<=mkE k (oths m):=by
 have h:oths m=oths (m.take j)++oths (m.drop j):=by
  unfold oths
  rw[<-List.map_append,List.take_append_drop]
 rw[h,mkE_append]
 exact mkE_le _ _
theorem mkE_bd:∀ (l:List Oth) (k:Nat),mkE k l<=k+4*l.length+tot l
 |[],k=>by
  unfold mkE
  omega
 |o :: l,k=>by
  have h:=mkE_bd l (mkN k o)
  rw[mkE,List.length_cons]
  have ht:tot (o :: l)=cost o+tot l:=by unfold tot;rw[List.map_cons,List.sum_cons]
  rw[ht]
  unfold mkN at h ⊢
  unfold cost
  omega
theorem cellsO_set4:∀ (m:List MO) (i:Nat) (x:MO) (h:i<m.length),x.2=m[i].2->cellsO (m.set i x)=((((cellsO m).set (i*5) (.string x.1.name)).set (i*5+2) (.int .i64 x.1.asked)).set (i*5+3) (.int .i64 x.1.age)).set (i*5+4) (.int .i64 x.1.strikes)
 |y :: m,0,x,_,e=>by
  have e':x.2=y.2:=e
  rw[List.set_cons_zero,cellsO,cellsO,e']
  rfl
 |y :: m,i+1,x,h,e=>by
  rw[List.set_cons_succ,cellsO,cellsO,cellsO_set4 m i x (Nat.lt_of_succ_lt_succ h) e,show (i+1)*5=i*5+5 by omega,show i*5+5+2=(i*5+2)+5 by omega,show i*5+5+3=(i*5+3)+5 by omega,show i*5+5+4=(i*5+4)+5 by omega]
  rfl
def KeepO (w w':World):Prop:=∀ (k:Nat) (cs:Array Value) (T:TypeId),w.heap[k]? = some (.cells cs T (0,0))->T≠86->T≠2->w'.heap[k]? = some (.cells cs T (0,0))
theorem KeepO.refl (w:World):KeepO w w:=fun _ _ _ h _ _=>h
theorem KeepO.call {w w1 w2:World} (h:KeepO w w1) (hb:Below w1.heap.size w1 w2):KeepO w w2:=fun k cs T hk h1 h2=>(hb.block k (lt_rowK (h k cs T hk h1 h2))).trans (h k cs T hk h1 h2)
theorem KeepO.after {w w1 w2:World} (hb:Below w.heap.size w w1) (h:KeepO w1 w2):KeepO w w2:=fun k cs T hk h1 h2=>h k cs T ((hb.block k (lt_rowK hk)).trans hk) h1 h2
theorem KeepO.set {w w1:World} {g i:Nat} {cur:Array Value} (h:KeepO w w1) (hg:w1.heap[g]? = some (.cells cur 86 (0,0))) (v:Value):KeepO w (w1.setCell ⟨g,i,none⟩ v)/\∃ cur',(w1.setCell ⟨g,i,none⟩ v).heap[g]? = some (.cells cur' 86 (0,0)) :=
 ⟨fun k cs T hk h1 h2=>(heap_setCell_other w1 ⟨g,i,none⟩ k v (by exact fun e=>ty_ne (h k cs T hk h1 h2) hg h1 e)).trans (h k cs T hk h1 h2),_,heap_setCell_same w1 g i _ _ v hg⟩
theorem KeepO.grown {w w1 w2:World} {row:Option Nat} (h:KeepO w w1) (hg:w1.grownBy w2 row) (hr:∀ g,row=some g->∃ cur,w1.heap[g]? = some (.cells cur 2 (0,0))):KeepO w w2:=fun k cs T hk h1 h2=>by
 have hk1:=h k cs T hk h1 h2
 refine(hg.block k (lt_rowK hk1) (fun e=>?_)).trans hk1
 obtain⟨cur,hc⟩:=hr k e.symm
 exact ty_ne hk1 hc h2 rfl
def InB (lo hi:Nat) (v:Value) (m:List MO):Prop:=(∀ g,v.ownBlock=some g->lo<=g/\g<hi)/\∀ x∈m,∀ g,x.2.ownBlock=some g->lo<=g/\g<hi
def midM (k:Nat) (m:List MO) (j:Nat):List MO:=(List.zip (mkL k (oths (m.take j))) ((m.take j).map (·.2)))++m.drop j
theorem midM_zero (k:Nat) (m:List MO):midM k m 0=m:=by unfold midM;simp
theorem midM_length (k:Nat) (m:List MO) (j:Nat) (h:j<=m.length):(midM k m j).length=m.length:=by
 unfold midM
 rw[List.length_append,List.length_zip,mkL_length,oths_length,List.length_map,List.length_take,List.length_drop]
 omega
theorem midM_all (k:Nat) (m:List MO):oths (midM k m m.length)=mkL k (oths m)/\(midM k m m.length).map (·.2)=m.map (·.2):=by
 unfold midM
 rw[List.take_length,List.drop_length,List.append_nil]
 constructor
 ·unfold oths
  rw[List.map_fst_zip (by rw[mkL_length,List.length_map,List.length_map];exact Nat.le_refl _)]
 ·rw[List.map_snd_zip (by rw[mkL_length,oths_length,List.length_map];exact Nat.le_refl _)]
theorem midM_at (k:Nat) (m:List MO) (j:Nat) (h:j<m.length):(midM k m j)[j]'(by rw[midM_length k m j (by omega)];exact h)=m[j]:=by
 have hl:(List.zip (mkL k (oths (m.take j))) ((m.take j).map (·.2))).length=j:=by
  rw[List.length_zip,mkL_length,oths_length,List.length_map,List.length_take]
  omega
 unfold midM
 rw[List.getElem_append_right (by omega)]
 simp only[hl,Nat.sub_self]
 rw[List.getElem_drop]
 rfl
theorem midM_next (k:Nat) (m:List MO) (j:Nat) (h:j<m.length):(midM k m j).set j (mkO (mkE k (oths (m.take j))) m[j].1,m[j].2)=midM k m (j+1):=by
 have hl:(List.zip (mkL k (oths (m.take j))) ((m.take j).map (·.2))).length=j:=by
  rw[List.length_zip,mkL_length,oths_length,List.length_map,List.length_take]
  omega
 unfold midM
 rw[List.set_append,if_neg (by omega),hl,Nat.sub_self,List.drop_eq_getElem_cons h,List.set_cons_zero,oths_take h,mkL_append,List.take_succ_eq_append_getElem h,List.map_append,List.zip_append (by rw[mkL_length,oths_length,List.length_map]),List.append_assoc]
 rfl
theorem apart_snd {m m':List MO} (h:m'.map (·.2)=m.map (·.2)) (ha:Apart m):Apart m':=by
 unfold Apart at ha ⊢
 have:(m.map (·.2)).Pairwise (fun (x y:Value)=>∀ g,x.ownBlock=some g->y.ownBlock≠some g):=List.pairwise_map.2 ha
 rw[<-h]at this
 exact List.pairwise_map.1 this
theorem inB_snd {lo hi:Nat} {v:Value} {m m':List MO} (h:m'.map (·.2)=m.map (·.2)) (hb:InB lo hi v m):InB lo hi v m':=⟨hb.1,fun x hx g hg=>by
 have:x.2∈m.map (·.2):=by rw[<-h];exact List.mem_map_of_mem hx
 obtain⟨y,hy,he⟩:=List.mem_map.1 this
 exact hb.2 y hy g (by rw[he];exact hg)⟩
structure RowM (W:World) (lo hi:Nat) (v:Value) (m:List MO):Prop where
 row:OwnO W lo v m
 has:Hass W lo m
 ap:Apart m
 inb:InB lo hi v m
theorem hass_grown {W W':World} {lo j:Nat} {m:List MO} {x:MO} (h:Hass W lo m) (ha:Apart m) (hj:j<m.length) (hg:W.grownBy W' m[j].2.ownBlock) (hn:OwnI W' lo x.2 x.1.has):Hass W' lo (m.set j x):=by
 intro y hy
 obtain⟨i,hi,rfl⟩:=List.getElem_of_mem hy
 rw[List.length_set]at hi
 by_cases e:j=i
 ·subst e
  rw[List.getElem_set_self]
  exact hn
 ·rw[List.getElem_set_ne e]
  have hne:∀ g,m[i].2.ownBlock=some g->m[j].2.ownBlock≠some g:=fun g h1 h2=>by
   have hp:=List.pairwise_iff_getElem.1 ha
   rcases Nat.lt_or_gt_of_ne e with hlt|hgt
   ·exact hp j i hj hi hlt g h2 h1
   ·exact hp i j hi hj hgt g h1 h2
  obtain⟨hl,ho⟩:=h m[i] (List.getElem_mem hi)
  refine⟨hl,?_⟩
  rcases ho with ho|⟨g,cap,cur,hv,hgb,hb,rest⟩
  ·exact .inl ho
  ·refine .inr ⟨g,cap,cur,hv,hgb,?_,rest⟩
   rw[hg.block g (lt_rowK hb) (fun e=>hne g (by rw[hv];rfl) e.symm)]
   exact hb
end Go.Proofs.YtpddanmnlkcdpaaGreatDoor.Pe


namespace Go.Proofs.YtpddanmnlkcdpaaGreatDoor.Pe
open Go.RowKit
open Kp
open In (Ints OwnI)
open Ap (KeepE keepE_own)
open Ls (lowL)
open St (markT markT_any)
theorem own_cell {W:World} {base g k n cap p:Nat} {e:TypeId} {xs:List Value} {u:Value} (h:W.ownsRow base e k (.slice (some ⟨g,0,none⟩) n cap) n xs) (hx:xs[p]? = some u):W.cell? ⟨g,p,none⟩=some u/\W.frozen? ⟨g,p,none⟩=false:=by
 obtain⟨hl,h⟩:=h
 rcases h with⟨h,_⟩|⟨g',cap',cur,hv,hg,hb,h1,h2,h3,h4⟩
 ·cases h
 ·obtain rfl:g=g':=by simp at hv;exact hv.1
  have hp:p<n*k:=by
   have:=(List.getElem?_eq_some_iff.1 hx).1
   omega
  rw[<-h4,List.getElem?_take_of_lt hp,Array.getElem?_toList]at hx
  exact⟨(cell_of_row W g p _ _ _ hb).trans hx,frozen_of_row W g p _ _ hb⟩
theorem own_grown {W W':World} {base g k n cap:Nat} {e:TypeId} {xs:List Value} {row:Option Nat} (h:W.ownsRow base e k (.slice (some ⟨g,0,none⟩) n cap) n xs) (hg:W.grownBy W' row) (hr:row≠some g):W'.ownsRow base e k (.slice (some ⟨g,0,none⟩) n cap) n xs:=by
 obtain⟨hl,h⟩:=h
 refine⟨hl,?_⟩
 rcases h with h|⟨g',cap',cur,hv,hgb,hb,rest⟩
 ·exact .inl h
 ·obtain rfl:g=g':=by simp at hv;exact hv.1
  exact .inr ⟨g,cap',cur,hv,hgb,(hg.block g (lt_rowK hb) (fun e=>hr e.symm)).trans hb,rest⟩
theorem own_blk {W:World} {base g k n cap:Nat} {e:TypeId} {xs:List Value} (h:W.ownsRow base e k (.slice (some ⟨g,0,none⟩) n cap) n xs):∃ cur,W.heap[g]? = some (.cells cur e (0,0)):=by
 obtain⟨_,h⟩:=h
 rcases h with⟨h,_⟩|⟨g',cap',cur,hv,_,hb,_⟩
 ·cases h
 ·obtain rfl:g=g':=by simp at hv;exact hv.1
  exact⟨cur,hb⟩
theorem own_down {w w':World} {base e k n:Nat} {v:Value} {xs:List Value} (h:w.ownsRow base e k v n xs) (b:Below w.heap.size w w'):w'.ownsRow base e k v n xs:=by
 obtain⟨hl,h⟩:=h
 refine⟨hl,?_⟩
 rcases h with h|⟨g,cap,cur,hv,hg,hb,rest⟩
 ·exact .inl h
 ·exact .inr ⟨g,cap,cur,hv,hg,by rw[b.block g (lt_rowK hb)];exact hb,rest⟩
theorem ownI_blk {W:World} {base g:Nat} {v:Value} {l:List Int} (h:OwnI W base v l) (hg:v.ownBlock=some g):∃ cur,W.heap[g]? = some (.cells cur 2 (0,0)):=by
 obtain⟨_,h⟩:=h
 rcases h with⟨rfl,_⟩|⟨g',cap',cur,rfl,_,hb,_⟩
 ·simp[Value.ownBlock]at hg
 ·simp[Value.ownBlock]at hg
  subst hg
  exact⟨cur,hb⟩
theorem mark_round {W w1 w3:World} {lo hi g n cap j kj:Nat} {m:List MO} (h:RowM W lo hi (.slice (some ⟨g,0,none⟩) n cap) m) (hn:m.length=n) (hj:j<m.length) (hb1:Below W.heap.size W w1)
  (ho3:OwnI w3 lo m[j].2 (In.marks (kj+1) m[j].1.has.length)) (hg3:(w1.setCell ⟨g,j*5,none⟩ (.string (markT kj))).grownBy w3 m[j].2.ownBlock) :
  w3.ownsRow lo 86 5 (.slice (some ⟨g,0,none⟩) n cap) n ((cellsO m).set (j*5) (.string (markT kj))) /\
  RowM (((w3.setCell ⟨g,j*5+2,none⟩ (.int .i64 ((kj+1+m[j].1.has.length:Nat):Int))).setCell ⟨g,j*5+3,none⟩ (.int .i64 ((kj+2+m[j].1.has.length:Nat):Int))).setCell ⟨g,j*5+4,none⟩ (.int .i64 ((kj+3+m[j].1.has.length:Nat):Int))) lo hi (.slice (some ⟨g,0,none⟩) n cap) (m.set j (mkO kj m[j].1,m[j].2)):=by
 have R0:W.ownsRow lo 86 5 (.slice (some ⟨g,0,none⟩) n cap) n (cellsO m):=by have:=h.row;unfold OwnO at this;rwa[hn]at this
 have R1:=own_down R0 hb1
 have R2:=own_set (p:=j*5) R1 (.string (markT kj))
 obtain⟨cur1,hc1⟩:=own_blk R1
 obtain⟨cur2,hc2⟩:=own_blk R2
 have he:(2:TypeId)≠86:=by decide
 have H1:Hass w1 lo m:=h.has.below hb1
 have H2:Hass (w1.setCell ⟨g,j*5,none⟩ (.string (markT kj))) lo m:=H1.keep (keepE_set hc1 _ _) he
 have hne:m[j].2.ownBlock≠some g:=fun e=>by
  obtain⟨cur,hc⟩:=ownI_blk (H2 m[j] (List.getElem_mem hj)) e
  rw[hc2]at hc
  simp at hc
 have R3:=own_grown R2 hg3 hne
 have R4:=own_set (p:=j*5+2) R3 (.int .i64 ((kj+1+m[j].1.has.length:Nat):Int))
 have R5:=own_set (p:=j*5+3) R4 (.int .i64 ((kj+2+m[j].1.has.length:Nat):Int))
 have R6:=own_set (p:=j*5+4) R5 (.int .i64 ((kj+3+m[j].1.has.length:Nat):Int))
 obtain⟨cur3,hc3⟩:=own_blk R3
 obtain⟨cur4,hc4⟩:=own_blk R4
 obtain⟨cur5,hc5⟩:=own_blk R5
 have H3:Hass w3 lo (m.set j (mkO kj m[j].1,m[j].2)):=hass_grown H2 h.ap hj hg3 ho3
 have hsnd:(m.set j (mkO kj m[j].1,m[j].2)).map (·.2)=m.map (·.2):=by
  rw[List.map_set]
  apply List.ext_getElem?
  intro i
  rw[List.getElem?_set]
  split
  ·rename_i e
   subst e
   simp[hj]
  ·rfl
 refine⟨R3,?_,?_,apart_snd hsnd h.ap,inB_snd hsnd h.inb⟩
 ·unfold OwnO
  rw[List.length_set,hn,cellsO_set4 m j (mkO kj m[j].1,m[j].2) hj rfl]
  exact R6
 ·exact((H3.keep (keepE_set hc3 _ _) he).keep (keepE_set hc4 _ _) he).keep (keepE_set hc5 _ _) he
theorem markOs_any (k lo hi:Nat) (v:Value) (m:List MO) (w:World) (h:RowM w lo hi v m) (hn:m.length<=1048576) (hsm:∀ x∈m,x.1.has.length<=1048576) (h0:0<k) (hk:mkE k (oths m)<=1099511627776) :
  Calls Tryz.prog 43 #[v,.int .i64 k] w fun e w'=>e=.returned (.int .i64 (mkE k (oths m):Nat))/\(∃ m',oths m'=mkL k (oths m)/\m'.map (·.2)=m.map (·.2)/\RowM w' lo hi v m')/\Chg lo hi w w'/\KeepO w w':=by
 have HS:=hideK h
 obtain⟨a,cap,hv,_,_⟩:=h.row.one
 subst hv
 have HSM:=hideK hsm
 have HKE:=hideK hk
 generalize hnn:m.length=n at hn ⊢
 rw[hnn]at HS
 have HN:=hideK hnn
 clear h hsm hk hnn
 have HEND:Hid (∀ (W:World),RowM W lo hi (.slice a n cap) (midM k m n)->∃ m',oths m'=mkL k (oths m)/\m'.map (·.2)=m.map (·.2)/\RowM W lo hi (.slice a n cap) m'):=fun W hW=>⟨midM k m n,by rw[<-HN.out];exact(midM_all k m).1,by rw[<-HN.out];exact(midM_all k m).2,hW⟩
 have HEE:Hid (mkE k (oths (m.take n))=mkE k (oths m)):=by unfold Hid;rw[List.take_of_length_le (by rw[HN.out];exact Nat.le_refl _)]
 go_enter Tryz.func43,Tryz.ntmps43
 go_wp2_with fail
 go_loopw [5,1] (fun i kv wr=>∃ j kj:Nat,i=.int .i64 j/\kv=.int .i64 (kj:Int)/\j<=n/\kj=mkE k (oths (m.take j))/\RowM wr lo hi (.slice a n cap) (midM k m j)/\Chg lo hi w wr/\KeepO w wr) (fun i _ _=>n-(intOf i).toNat)
 case atStart=>exact⟨0,k,rfl,rfl,Nat.zero_le _,rfl,by rw[midM_zero];exact HS.out,Chg.refl _ _ _,KeepO.refl _⟩
 case round =>
  obtain⟨j,kj,rfl,rfl,hj,hkj,hrow,hch,hko⟩:=hrel
  have KO:=hideK hko
  have R:=hideK hrow
  have CH:=hideK hch
  have HKJ:=hideK hkj
  have hkb:kj<=1099511627776:=by rw[hkj];exact Nat.le_trans (mkE_take_le k j) HKE.out
  have hk0:0<kj:=by rw[hkj];exact Nat.lt_of_lt_of_le h0 (mkE_le _ _)
  clear hrow hch hkj hko
  by_cases hlt:j<n
  ·have hlt':(j:Int)<(n:Int):=by omega
   have hjl:j<m.length:=by rw[HN.out];exact hlt
   have hml:(midM k m j).length=n:=by rw[midM_length k m j (by omega),HN.out]
   have hjm:j<(midM k m j).length:=by omega
   have HAT:=hideK (midM_at k m j hjl)
   obtain⟨g,cp,hv,hlo,hgz,_,hcc⟩:=R.out.row.cells (by omega)
   obtain⟨rfl,rfl⟩:a=some ⟨g,0,none⟩/\cap=cp:=by simp at hv;exact⟨hv.1,hv.2.2⟩
   clear hv
   have hghi:=(R.out.inb.1 g rfl).2
   have hF:=hcc j hjm
   rw[HAT.out]at hF
   have HRD:Hid (∀ (w1 w3:World),Below wr.heap.size wr w1->OwnI w3 lo m[j].2 (In.marks (kj+1) m[j].1.has.length)->(w1.setCell ⟨g,j*5,none⟩ (.string (markT kj))).grownBy w3 m[j].2.ownBlock->w3.ownsRow lo 86 5 (.slice (some ⟨g,0,none⟩) n cap) n ((cellsO (midM k m j)).set (j*5) (.string (markT kj)))/\RowM (((w3.setCell ⟨g,j*5+2,none⟩ (.int .i64 ((kj+1+m[j].1.has.length:Nat):Int))).setCell ⟨g,j*5+3,none⟩ (.int .i64 ((kj+2+m[j].1.has.length:Nat):Int))).setCell ⟨g,j*5+4,none⟩ (.int .i64 ((kj+3+m[j].1.has.length:Nat):Int))) lo hi (.slice (some ⟨g,0,none⟩) n cap) (midM k m (j+1))):=fun w1 w3 h1 h2 h3=>by
    have hq:=mark_round (W:=wr) (w1:=w1) (w3:=w3) (j:=j) (kj:=kj) R.out hml hjm h1 (by rw[HAT.out];exact h2) (by rw[HAT.out];exact h3)
    rw[HAT.out,HKJ.out,midM_next k m j hjl,<-HKJ.out]at hq
    exact hq
   have HX2:Hid (∀ (w1:World),Below wr.heap.size wr w1->OwnI (w1.setCell ⟨g,j*5,none⟩ (.string (markT kj))) lo m[j].2 m[j].1.has/\(w1.setCell ⟨g,j*5,none⟩ (.string (markT kj))).cell? ⟨g,j*5+1,none⟩=some m[j].2):=fun w1 h1=>by
    have hr:=R.out.row.below h1
    obtain⟨cur,hc⟩:=hr.blk
    refine⟨?_,?_⟩
    ·have:=(R.out.has.below h1).keep (keepE_set hc (j*5) (.string (markT kj))) (by decide) ((midM k m j)[j]) (List.getElem_mem hjm)
     rw[HAT.out]at this
     exact this
    ·have hq:=own_set (p:=j*5) (show w1.ownsRow lo 86 5 (.slice (some ⟨g,0,none⟩) n cap) n (cellsO (midM k m j)) by have:=hr;unfold OwnO at this;rwa[hml]at this) (.string (markT kj))
     refine(own_cell hq ?_).1
     rw[List.getElem?_set_ne (by omega),(cellsO_at (midM k m j) j hjm).2.1,HAT.out]
   have HCL:Hid (∀ (W:World) (xs:List Value),xs=(cellsO (midM k m j)).set (j*5) (.string (markT kj))->W.ownsRow lo 86 5 (.slice (some ⟨g,0,none⟩) n cap) n xs->W.cell? ⟨g,j*5+2,none⟩=some (.int .i64 m[j].1.asked)/\W.cell? ⟨g,j*5+3,none⟩=some (.int .i64 m[j].1.age)/\W.cell? ⟨g,j*5+4,none⟩=some (.int .i64 m[j].1.strikes)/\∀ o,W.frozen? ⟨g,o,none⟩=false):=fun W xs hxs hW=>by
    have hc:=cellsO_at (midM k m j) j hjm
    rw[HAT.out]at hc
    obtain⟨cur,hb⟩:=own_blk hW
    exact⟨(own_cell hW (by rw[hxs,List.getElem?_set_ne (by omega)];exact hc.2.2.1)).1,(own_cell hW (by rw[hxs,List.getElem?_set_ne (by omega)];exact hc.2.2.2.1)).1,(own_cell hW (by rw[hxs,List.getElem?_set_ne (by omega)];exact hc.2.2.2.2)).1,fun o=>frozen_of_row W g o _ _ hb⟩
   have HNX:=hideK (mkE_take (k:=k) hjl)
   rw[<-HKJ.out]at HNX
   have hkx:=HSM.out m[j] (List.getElem_mem hjl)
   have HMI:=hideK (fun W (hW:OwnI W lo m[j].2 m[j].1.has)=>markI_own (kj+1) lo m[j].2 m[j].1.has W hW hkx (by have:=Nat.le_trans (mkE_take_le (m:=m) k (j+1)) HKE.out;rw[HNX.out]at this;unfold mkN at this;omega))
   have HBK:Hid (∀ q,m[j].2.ownBlock=some q->lo<=q/\q<hi):=fun q hq=>R.out.inb.2 ((midM k m j)[j]) (List.getElem_mem hjm) q (by rw[HAT.out];exact hq)
   obtain⟨av,cv,hxv,_,_⟩:=(show OwnI wr lo m[j].2 m[j].1.has by have:=R.out.has ((midM k m j)[j]) (List.getElem_mem hjm);rw[HAT.out]at this;exact this).ints
   unfold mkN at HNX
   obtain⟨d0,d1,d2,d3,d4⟩:=hF
   have hfz:=R.out.row.frozen (j*5)
   generalize m[j].1.name=nm at d0
   generalize m[j].1.has=l at HRD HX2 HMI HNX hkx hxv
   generalize m[j].1.asked=q1 at d2 HCL
   generalize m[j].1.age=q2 at d3 HCL
   generalize m[j].1.strikes=q3 at d4 HCL
   generalize m[j].2=xv at d1 HRD HX2 HMI HBK hxv
   subst hxv
   generalize hll:l.length=ll at HRD HMI HNX hkx d1 HX2 HBK
   have hz4:Hid (mkE k (oths (m.take (j+1)))<=1099511627776):=Nat.le_trans (mkE_take_le k (j+1)) HKE.out
   have hkl:kj+4+ll<=1099511627776:=by rw[<-HNX.out];exact hz4.out
   clear hcc hml HAT hll hz4
   have HMT:=hideK (markT_any kj wr hk0 hkb)
   go_wp2_with fail
   refine HMT.out.mono ?_
   rintro e w1 ⟨rfl,hb1⟩
   have B1:=hideK hb1
   have y0:=(hb1.cell (p:=⟨g,j*5,none⟩) hgz).trans d0
   have yf:=(hb1.frozen (p:=⟨g,j*5,none⟩) hgz).trans hfz
   obtain⟨hoi,hcell⟩:=HX2.out w1 hb1
   obtain⟨cur1,hcu1⟩:=(R.out.row.below hb1).blk
   have KO1:=hideK ((KO.out.call hb1).set (i:=j*5) hcu1 (.string (markT kj))).1
   have KT1:=hideK (fun q hq=>ownI_blk hoi (g:=q) hq)
   have HM2:=hideK (HMI.out _ hoi)
   have C1:=hideK ((CH.out.call hb1).set (i:=j*5) hlo hghi (.string (markT kj)))
   clear d0 d1 d2 d3 d4 hfz hb1 HMT hoi
   go_upto_region 6 with fail
   have HR1:=hideK (fun w3=>HRD.out w1 w3 B1.out)
   generalize w1.setCell ⟨g,j*5,none⟩ (.string (markT kj))=W2 at HM2 C1 hcell HR1 KO1 KT1 ⊢
   clear y0 yf HRD HX2
   rw[show ((kj+1:Nat):Int)=(kj:Int)+1 by omega]at HM2
   go_wp2_with fail
   refine HM2.out.mono ?_
   rintro e w3 ⟨rfl,ho3,hg3⟩
   obtain⟨hr3,hrm⟩:=HR1.out w3 ho3 hg3
   obtain⟨e2,e3,e4,ef⟩:=HCL.out w3 _ rfl hr3
   have C3:=hideK ((((C1.out.grown hg3 HBK.out).set (i:=j*5+2) hlo hghi (.int .i64 ((kj+1+ll:Nat):Int))).set (i:=j*5+3) hlo hghi (.int .i64 ((kj+2+ll:Nat):Int))).set (i:=j*5+4) hlo hghi (.int .i64 ((kj+3+ll:Nat):Int)))
   have RM:=hideK hrm
   obtain⟨cur3,hcu3⟩:=own_blk hr3
   have ka:=KeepO.grown KO1.out hg3 KT1.out
   obtain⟨kb,cub,hcub⟩:=ka.set (i:=j*5+2) hcu3 (.int .i64 ((kj+1+ll:Nat):Int))
   obtain⟨kc,cuc,hcuc⟩:=kb.set (i:=j*5+3) hcub (.int .i64 ((kj+2+ll:Nat):Int))
   have KO3:=hideK (kc.set (i:=j*5+4) hcuc (.int .i64 ((kj+3+ll:Nat):Int))).1
   clear ka kb kc hcub hcuc hcu3 KO1 KT1
   clear ho3 hg3 hr3 hrm hcell HR1 HCL HM2
   have hs1:((kj+2+ll:Nat):Int)=((kj+1+ll:Nat):Int)+1:=by omega
   have hs2:((kj+3+ll:Nat):Int)=((kj+1+ll:Nat):Int)+1+1:=by omega
   rw[hs1,hs2]at RM C3 KO3
   have hs3:((kj+1+ll:Nat):Int)+1+1+1=((kj+4+ll:Nat):Int):=by omega
   have HS3:=hideK hs3
   have hb9:((kj+1+ll:Nat):Int)<=1099511627776:=by omega
   have hb8:0<=((kj+1+ll:Nat):Int):=by omega
   clear hs1 hs2 hs3
   generalize ((kj+1+ll:Nat):Int)=K1 at RM C3 KO3 HS3 hb8 hb9 ⊢
   go_wp2_with fail
   go_roundw
   case rel=>exact⟨j+1,kj+4+ll,by go_num,by rw[<-HS3.out],by omega,HNX.out.symm,RM.out,C3.out,KO3.out⟩
   case measure=>simp[intOf];omega
  ·obtain rfl:j=n:=by omega
   have HE2:Hid (kj=mkE k (oths m)):=by unfold Hid;rw[HKJ.out,HEE.out]
   have HF:=hideK (HEND.out wr R.out)
   have hltD:decide ((j:Int)<(j:Int))=false:=by simp
   go_wp2_with fail
   go_ret
   exact⟨by rw[<-HE2.out];rfl,HF.out,CH.out,KO.out⟩
end Go.Proofs.YtpddanmnlkcdpaaGreatDoor.Pe


namespace Go.Proofs.YtpddanmnlkcdpaaGreatDoor.Tk
open Go.RowKit
open Kp
open Pe
open Pl
open In (Ints OwnI)
open Ls (lowL blk_alloc)
theorem index_any (x:Int) (a:Option Addr) (n cap:Nat) (l:List Int) (w:World) (h:Ints w w.heap.size a l) (hln:l.length=n) (hn:n<=1048576) :
  Calls Tryz.prog 191 #[.slice a n cap,.int .i64 x] w fun e w'=>∃ z:Int,e=.returned (.int .i64 z)/\(decide (0<=z)=decide (x∈l))/\w'=w:=by
 have HS:=hideK h
 have HL:=hideK hln
 clear h hln
 go_enter Tryz.func191,Tryz.ntmps191
 go_wp2_with fail
 go_loopw [5,8] (fun _ jv wr=>∃ j:Nat,jv=.int .i64 j/\j<=n/\(∀ t (ht:t<l.length),t<j->¬l[t]=x)/\wr=w) (fun _ jv _=>n-(intOf jv).toNat)
 case atStart=>exact⟨0,rfl,Nat.zero_le _,fun t _ h=>absurd h (by omega),rfl⟩
 case round =>
  obtain⟨j,rfl,hj,hno,hw⟩:=hrel
  subst hw
  have HNO:=hideK hno
  clear hno
  by_cases hlt:j<n
  ·have hlt':(j:Int)<(n:Int):=by omega
   have hjl:j<l.length:=by rw[HL.out];exact hlt
   obtain⟨b,off,ha,hb,hcc⟩:∃ b off,a=some ⟨b,off,none⟩/\b<wr.heap.size/\∀ t (ht:t<l.length),wr.cell? ⟨b,off+t,none⟩=some (.int .i64 l[t]):=by
    rcases HS.out with h|h
    ·rw[h]at hjl;simp at hjl
    ·exact h
   subst ha
   have ce:=hcc j hjl
   by_cases he:l[j]=x
   ·have he1:(x==l[j])=true:=by simp[he]
    have HE:Hid (decide (0<=(j:Int))=decide (x∈l)):=by
     have:x∈l:=by rw[<-he];exact List.getElem_mem hjl
     unfold Hid
     rw[decide_eq_true this,decide_eq_true (by omega)]
    generalize l[j]=xj at ce he1
    clear hcc he
    go_wp2_with fail
    go_ret
    exact⟨_,rfl,HE.out,rfl⟩
   ·have he1:(x==l[j])=false:=by simp;exact fun e=>he e.symm
    have HNX:Hid (∀ t (ht:t<l.length),t<j+1->¬l[t]=x):=fun t ht htj=>by
     by_cases e:t=j
     ·subst e;exact he
     ·exact HNO.out t ht (by omega)
    generalize l[j]=xj at ce he1
    clear hcc he
    go_wp2_with fail
    go_roundw
    case rel=>exact⟨j+1,by go_num,by omega,HNX.out,by trivial⟩
    case measure=>simp[intOf];omega
  ·obtain rfl:j=n:=by omega
   have hltD:decide ((j:Int)<(j:Int))=false:=by simp
   have HE:Hid (decide (0<=(-1:Int))=decide (x∈l)):=by
    have:¬x∈l:=fun hx=>by
     obtain⟨t,ht,e⟩:=List.getElem_of_mem hx
     exact HNO.out t ht (by rw[<-HL.out];exact ht) e
    unfold Hid
    rw[decide_eq_false this]
    rfl
   go_wp2_with fail
   go_ret
   exact⟨_,rfl,HE.out,rfl⟩
theorem contains_any (x:Int) (a:Option Addr) (n cap:Nat) (l:List Int) (w:World) (h:Ints w w.heap.size a l) (hln:l.length=n) (hn:n<=1048576) :
  Calls Tryz.prog 160 #[.slice a n cap,.int .i64 x] w fun e w'=>e=.returned (.bool (decide (x∈l)))/\w'=w:=by
 have HI:=hideK (index_any x a n cap l w h hln hn)
 clear h hln
 go_enter Tryz.func160,Tryz.ntmps160
 go_wp2_with fail
 refine HI.out.mono ?_
 rintro e w1 ⟨z,rfl,hz,hw⟩
 subst w1
 have HZ:=hideK hz
 clear hz HI
 go_wp2_with fail
 go_ret
 exact⟨by rw[<-HZ.out];rfl,rfl⟩
theorem isAsked_any (g:Nat) (v0 v1 v2 v3 v4 v5 v6 v8:Value) (x:Int) (a:Option Addr) (n cap:Nat) (m:List MO) (w:World) (hg:w.heap[g]? = some (.cells #[v0,v1,v2,v3,v4,v5,v6,.slice a n cap,v8] 78 (0,0))) (h:Oths w w.heap.size a m) (hm:m.length=n) (hn:n<=1048576) (hx:0<=x) (hx2:x<=1048576) :
  Calls Tryz.prog 161 #[.pointer (some ⟨g,0,none⟩),.int .i64 x] w fun e w'=>e=.returned (.bool (askB (oths m) x))/\Below w.heap.size w w':=by
 have HS:=hideK h
 have HM:=hideK hm
 have c7:w.cell? ⟨g,7,none⟩=some (.slice a n cap):=cell_of_row w g 7 _ _ _ hg
 clear h hm hg
 go_enter Tryz.func161,Tryz.ntmps161
 go_wp2_with fail
 go_loopw [12] (fun jv wr=>∃ j:Nat,jv=.int .i64 j/\j<=n/\askB (oths (m.take j)) x=false/\Below w.heap.size w wr) (fun jv _=>n-(intOf jv).toNat)
 case atStart=>exact⟨0,rfl,Nat.zero_le _,rfl,Below.refl _ _⟩
 case round =>
  obtain⟨j,rfl,hj,hno,hbel⟩:=hrel
  have HNO:=hideK hno
  have GB:=hideK hbel
  have hzr:=hbel.size
  clear hno hbel
  by_cases hlt:j<n
  ·have hlt':(j:Int)<(n:Int):=by omega
   have hjl:j<m.length:=by rw[HM.out];exact hlt
   obtain⟨b,off,rfl,hb,hc⟩:=HS.out.some (by omega)
   obtain⟨d0,d1,d2,d3,d4⟩:=(hc j hjl).below GB.out hb
   obtain⟨ax,cx,hxv,_⟩:=HS.out.2 m[j] (List.getElem_mem hjl)
   rw[hxv]at d1
   have HT:Hid (askB (oths (m.take (j+1))) x=decide (m[j].1.asked=x+1)):=by
    have:=HNO.out
    unfold askB at this ⊢
    unfold Hid
    rw[oths_take hjl,List.any_append,this]
    simp
   have HIN:Hid (m[j].1.asked=x+1->askB (oths m) x=true):=fun h=>by
    unfold askB
    rw[List.any_eq_true]
    exact⟨m[j].1,List.mem_map_of_mem (List.getElem_mem hjl),by simp[h]⟩
   generalize m[j].1.name=nm at d0
   generalize m[j].1.has.length=k at d1
   generalize m[j].1.asked=q at d2 HT HIN
   generalize m[j].1.age=gg at d3
   generalize m[j].1.strikes=t at d4
   have XB:=hideK (heap_alloc_new wr (.cells #[.string nm,.slice ax k cx,.int .i64 q,.int .i64 gg,.int .i64 t] 86))
   have D1:=hideK (GB.out.alloc GB.out.size (.cells #[.string nm,.slice ax k cx,.int .i64 q,.int .i64 gg,.int .i64 t] 86))
   clear hc hxv
   go_upto_region 4 with fail
   generalize wr.alloc (.cells #[.string nm,.slice ax k cx,.int .i64 q,.int .i64 gg,.int .i64 t] 86)=W2 at XB D1 ⊢
   generalize wr.heap.size=g2 at XB ⊢
   obtain⟨e0,e1,e2,e3,e4⟩:=cells5 XB.out
   clear d0 d1 d2 d3 d4
   by_cases hq:q=x+1
   ·have hq1:(q==x+1)=true:=beq_iff_eq.2 hq
    have HA:=hideK (HIN.out hq)
    clear hq
    go_wp2_with fail
    go_ret
    exact⟨by rw[HA.out];rfl,D1.out⟩
   ·have hq1:(q==x+1)=false:=by simp[hq]
    have HNX:Hid (askB (oths (m.take (j+1))) x=false):=by unfold Hid;rw[HT.out];simp[hq]
    go_wp2_with fail
    go_roundw
    case rel=>exact⟨j+1,by go_num,by omega,HNX.out,D1.out⟩
    case measure=>simp[intOf];omega
  ·obtain rfl:j=n:=by omega
   have hltD:decide ((j:Int)<(j:Int))=false:=by simp
   have HE:Hid (askB (oths m) x=false):=by
    have:=HNO.out
    rw[List.take_of_length_le (by rw[HM.out];exact Nat.le_refl _)]at this
    exact this
   go_wp2_with fail
   go_ret
   exact⟨by rw[HE.out];rfl,GB.out⟩
theorem owners_any (g:Nat) (v0 v1 v2 v3 v4 v5 v6 v8:Value) (x:Int) (a:Option Addr) (n cap:Nat) (m:List MO) (w:World) (hg:w.heap[g]? = some (.cells #[v0,v1,v2,v3,v4,v5,v6,.slice a n cap,v8] 78 (0,0))) (h:Oths w w.heap.size a m) (hm:m.length=n) (hn:n<=1048576) (hsm:∀ y∈m,y.1.has.length<=1048576) :
  Calls Tryz.prog 162 #[.pointer (some ⟨g,0,none⟩),.int .i64 x] w fun e w'=>e=.returned (.int .i64 (ownN (oths m) x:Nat))/\Below w.heap.size w w':=by
 have HS:=hideK h
 have HM:=hideK hm
 have HSM:=hideK hsm
 have c7:w.cell? ⟨g,7,none⟩=some (.slice a n cap):=cell_of_row w g 7 _ _ _ hg
 clear h hm hg hsm
 go_enter Tryz.func162,Tryz.ntmps162
 go_wp2_with fail
 go_loopw [5,13] (fun kv jv wr=>∃ j k:Nat,jv=.int .i64 j/\kv=.int .i64 (k:Int)/\j<=n/\k<=j/\k=ownN (oths (m.take j)) x/\Below w.heap.size w wr) (fun _ jv _=>n-(intOf jv).toNat)
 case atStart=>exact⟨0,0,rfl,rfl,Nat.zero_le _,Nat.le_refl _,rfl,Below.refl _ _⟩
 case round =>
  obtain⟨j,k,rfl,rfl,hj,hkj,hk,hbel⟩:=hrel
  have HK:=hideK hk
  have GB:=hideK hbel
  have hzr:=hbel.size
  clear hk hbel
  by_cases hlt:j<n
  ·have hlt':(j:Int)<(n:Int):=by omega
   have hjl:j<m.length:=by rw[HM.out];exact hlt
   obtain⟨b,off,rfl,hb,hc⟩:=HS.out.some (by omega)
   obtain⟨d0,d1,d2,d3,d4⟩:=(hc j hjl).below GB.out hb
   obtain⟨ax,cx,hxv,_,_,hix⟩:=HS.out.2 m[j] (List.getElem_mem hjl)
   rw[hxv]at d1
   have HT:Hid (ownN (oths (m.take (j+1))) x=k+if x∈m[j].1.has then 1 else 0):=by
    unfold Hid
    rw[oths_take hjl,ownN_snoc,HK.out]
   have HCT:=hideK (fun W (hW:Below w.heap.size w W)=>contains_any x ax _ cx m[j].1.has W ((hix.below hW).mono hW.size) rfl (HSM.out m[j] (List.getElem_mem hjl)))
   generalize m[j].1.name=nm at d0
   generalize m[j].1.asked=q at d2
   generalize m[j].1.age=gg at d3
   generalize m[j].1.strikes=t at d4
   have XB:=hideK (heap_alloc_new wr (.cells #[.string nm,.slice ax m[j].1.has.length cx,.int .i64 q,.int .i64 gg,.int .i64 t] 86))
   have D1:=hideK (GB.out.alloc GB.out.size (.cells #[.string nm,.slice ax m[j].1.has.length cx,.int .i64 q,.int .i64 gg,.int .i64 t] 86))
   generalize m[j].1.has=hl at d1 XB D1 HCT HT hxv
   generalize hl.length=hln at d1 XB D1 HCT hxv
   clear hc hxv hix
   go_upto_region 5 with fail
   generalize wr.alloc (.cells #[.string nm,.slice ax hln cx,.int .i64 q,.int .i64 gg,.int .i64 t] 86)=W2 at XB D1 ⊢
   generalize wr.heap.size=g2 at XB ⊢
   obtain⟨e0,e1,e2,e3,e4⟩:=cells5 XB.out
   have HC2:=hideK (HCT.out W2 D1.out)
   clear d0 d1 d2 d3 d4 HCT
   by_cases hq:x∈hl
   ·rw[decide_eq_true hq]at HC2
    rw[if_pos hq]at HT
    go_wp2_with fail
    refine HC2.out.mono ?_
    rintro e w3 ⟨rfl,hw⟩
    subst w3
    go_wp2_with fail
    go_roundw
    case rel=>exact⟨j+1,k+1,by go_num,by go_num,by omega,by omega,HT.out.symm,D1.out⟩
    case measure=>simp[intOf];omega
   ·rw[decide_eq_false hq]at HC2
    rw[if_neg hq]at HT
    go_wp2_with fail
    refine HC2.out.mono ?_
    rintro e w3 ⟨rfl,hw⟩
    subst w3
    go_wp2_with fail
    go_roundw
    case rel=>exact⟨j+1,k,by go_num,rfl,by omega,by omega,HT.out.symm,D1.out⟩
    case measure=>simp[intOf];omega
  ·obtain rfl:j=n:=by omega
   have hltD:decide ((j:Int)<(j:Int))=false:=by simp
   have HE:Hid (ownN (oths m) x=k):=by
    unfold Hid
    rw[HK.out,List.take_of_length_le (by rw[HM.out];exact Nat.le_refl _)]
   go_wp2_with fail
   go_ret
   exact⟨by rw[HE.out];rfl,GB.out⟩
end Go.Proofs.YtpddanmnlkcdpaaGreatDoor.Tk


/- The program: another one is met. -/
namespace Go.Proofs.YtpddanmnlkcdpaaGreatDoor.Pl
open Go.RowKit
open Kp
open Pe
open Pm
open In (Ints OwnI)
open Go.Proofs.YtpddanmnlkcdpaaGreatDoor.Nm (nameB)
open Ap (KeepE keepE_own)
open Ls (blk_alloc lowL HH hh_keep)
def newO (nm:ByteArray):Oth:=⟨nm,[],0,0,0⟩
def meetO (l:List Oth) (nm:ByteArray):List Oth:=l.take (posN l nm)++[newO nm]++l.drop (posN l nm)
def letterH (nm:ByteArray) (i:Int):Snt:=⟨nm,1,i,⟨#[]⟩,[]⟩
def meetS (fit:Rec->Bool) (s nm:ByteArray):List Snt:=(Kh.sortZ ((allR fit s).1.map (·.1))).map (letterH nm)
noncomputable def meetP (fit:Rec->Bool) (z b:Int) (r s:ByteArray) (y:Int) (l:List Oth) (nm:ByteArray):PO :=
 if 8000<nm.size then ill 2 else if (peerB fit z b r s y l && nameB nm)=false then ill 1 else if hasN l nm=true then ill 7 else if l.length=4 then ill 9 else ⟨z,b,r,s,y,meetO l nm,meetS fit s nm,0⟩
def KeepX (W W':World):Prop:=∀ (k:Nat) (cs:Array Value) (T:TypeId),W.heap[k]? = some (.cells cs T (0,0))->T≠78->T≠114->W'.heap[k]? = some (.cells cs T (0,0))
theorem own_keepX {W W':World} {base k n:Nat} {e:TypeId} {v:Value} {xs:List Value} (h:W.ownsRow base e k v n xs) (hk:KeepX W W') (h1:e≠78) (h2:e≠114):W'.ownsRow base e k v n xs:=by
 obtain⟨hl,h⟩:=h
 refine⟨hl,?_⟩
 rcases h with h|⟨g,cap,cur,hv,hg,hb,rest⟩
 ·exact .inl h
 ·exact .inr ⟨g,cap,cur,hv,hg,hk g _ _ hb h1 h2,rest⟩
theorem SendPost.keep {g base:Nat} {x:ML} {u:Value} {e z b:Int} {r s:ByteArray} {y:Int} {vo vs:Value} {m:List ML} {w w':World} (h:SendPost g base x u e z b r s y vo vs m w w') (hg:w.heap[g]? = some (wpB u e z b r s y vo vs)) (ho:OwnL w base vs m):KeepX w w':=fun k cs T hk h1 h2=>by
 obtain⟨v',_,_,h3,_⟩:=h
 unfold wpB at hg
 refine h3 k _ hk (ty_ne hk hg h1) (fun e=>?_)
 obtain⟨cs',hc⟩:=ho.blk e
 exact ty_ne hk hc h2 rfl
structure MS (w:World) (gw ga:Nat) (u:Value) (e z b:Int) (r s:ByteArray) (y:Int) (vo:Value) (mo:List MO) (ui:Value) (il:List Int) (nm:ByteArray) (j:Nat) (vs:Value) (ms:List ML) (W:World):Prop where
 low:Below w.heap.size w W
 gwb:W.heap[gw]? = some (wpB u e z b r s y vo vs)
 gab:W.heap[ga]? = some (poO 0 0 ⟨#[]⟩ ⟨#[]⟩ 0 (.slice none 0 0) (.slice none 0 0) 0)
 orow:OwnO W w.heap.size vo mo
 has:Hass W w.heap.size mo
 srow:OwnL W w.heap.size vs ms
 sm:snts ms=(il.take j).map (letterH nm)
 nl:∀ x∈ms,x.2=.slice none 0 0/\x.1.path=[]
 irow:OwnI W w.heap.size ui il
theorem pairwise_all {α:Type} {R:α->α->Prop}:∀ (l:List α),(∀ a∈l,∀ c∈l,R a c)->l.Pairwise R
 |[],_=>List.Pairwise.nil
 |x :: l,h=>List.Pairwise.cons (fun c hc=>h x (List.mem_cons_self ..) c (List.mem_cons_of_mem _ hc)) (pairwise_all l fun a ha c hc=>h a (List.mem_cons_of_mem _ ha) c (List.mem_cons_of_mem _ hc))
end Go.Proofs.YtpddanmnlkcdpaaGreatDoor.Pl


/- Blocks that stay while a peer works. -/
namespace Go.Proofs.YtpddanmnlkcdpaaGreatDoor.Tk
open Go.RowKit
open Kp
open Pe
open Pl
def KeepY (W W':World):Prop:=W.heap.size<=W'.heap.size/\∀ (k:Nat) (o:Obj),W.heap[k]? = some o->(∀ (cs:Array Value) (T:TypeId),o=.cells cs T (0,0)->T≠78/\T≠114/\T≠86)->W'.heap[k]? = some o
theorem KeepY.below {W W':World} (h:Below W.heap.size W W'):KeepY W W':=⟨h.size,fun k _ hk _=>(h.block k (lt_rowK hk)).trans hk⟩
theorem KeepY.trans {A B C:World} (h:KeepY A B) (g:KeepY B C):KeepY A C:=⟨Nat.le_trans h.1 g.1,fun k o hk ho=>g.2 k o (h.2 k o hk ho) ho⟩
theorem KeepY.set {W W':World} {go:Nat} {cs:Array Value} (hg:W.heap[go]? = some (.cells cs 86 (0,0))) (hgr:W.grownBy W' (some go)):KeepY W W' :=
 ⟨hgr.size,fun k o hk ho=>(hgr.block k (lt_rowK hk) (fun e=>by
  cases e
  rw[hg]at hk
  cases hk
  exact(ho _ _ rfl).2.2 rfl)).trans hk⟩
theorem KeepY.send {g base:Nat} {x:ML} {u:Value} {e z b:Int} {r s:ByteArray} {y:Int} {vo vs:Value} {m:List ML} {w w':World} (h:SendPost g base x u e z b r s y vo vs m w w') (hg:w.heap[g]? = some (wpB u e z b r s y vo vs)) (ho:OwnL w base vs m):KeepY w w':=by
 obtain⟨v',_,_,h3,h4⟩:=h
 refine⟨(h4 0 (Nat.zero_le _) (Nat.zero_le _)).size,fun k o hk hne=>h3 k o hk (fun e=>?_) (fun e=>?_)⟩
 ·subst e
  rw[hg]at hk
  cases hk
  unfold wpB at hne
  exact(hne _ _ rfl).1 rfl
 ·obtain⟨cs,hc⟩:=ho.blk e
  rw[hc]at hk
  cases hk
  exact(hne _ _ rfl).2.1 rfl
theorem KeepY.from {W W':World} (h:KeepY W W') (B:Nat):KeepsFrom B W W':=⟨h.1,fun k o _ hk ho=>h.2 k o hk (fun cs T e=>by subst e;cases ho)⟩
theorem KeepY.refl (W:World):KeepY W W:=⟨Nat.le_refl _,fun _ _ hk _=>hk⟩
theorem own_ck {W W':World} {base k n:Nat} {e:TypeId} {v:Value} {xs:List Value} (h:W.ownsRow base e k v n xs) (hk:∀ (g:Nat) (cs:Array Value) (T:TypeId),W.heap[g]? = some (.cells cs T (0,0))->W'.heap[g]? = some (.cells cs T (0,0))):W'.ownsRow base e k v n xs:=by
 obtain⟨hl,h⟩:=h
 refine⟨hl,?_⟩
 rcases h with h|⟨g,cap,cur,hv,hg,hb,rest⟩
 ·exact .inl h
 ·exact .inr ⟨g,cap,cur,hv,hg,hk g _ _ hb,rest⟩
end Go.Proofs.YtpddanmnlkcdpaaGreatDoor.Tk


namespace Go.Proofs.YtpddanmnlkcdpaaGreatDoor.Tk
open Go.RowKit
open Kp
open Pe
open Pl
open In (Ints OwnI)
open Ls (lowL blk_alloc)
structure WS (w W:World) (gw:Nat) (u:Value) (e z b:Int) (r s:ByteArray) (y:Int) (vo vs:Value) (mo:List MO) (ms:List ML) (mr:List MR):Prop where
 low:Below w.heap.size w W
 gw0:w.heap.size<=gw
 gwb:W.heap[gw]? = some (wpB u e z b r s y vo vs)
 orow:OwnO W w.heap.size vo mo
 has:Hass W w.heap.size mo
 ap:Apart mo
 srow:OwnL W w.heap.size vs ms
 nl:∀ x∈ms,x.2=.slice none 0 0/\x.1.path=[]
 rrow:OwnR W w.heap.size u mr
 rsl:∀ x∈mr,∃ a n cap,x.2=.slice a n cap
theorem WS.call {w W W':World} {gw:Nat} {u:Value} {e z b:Int} {r s:ByteArray} {y:Int} {vo vs:Value} {mo:List MO} {ms:List ML} {mr:List MR} (h:WS w W gw u e z b r s y vo vs mo ms mr) (hb:Below W.heap.size W W'):WS w W' gw u e z b r s y vo vs mo ms mr :=
 ⟨lowL h.low hb,h.gw0,(hb.block gw (lt_rowK h.gwb)).trans h.gwb,h.orow.below hb,h.has.below hb,h.ap,h.srow.below hb,h.nl,h.rrow.below hb,h.rsl⟩
theorem WS.send {w W W':World} {gw:Nat} {u:Value} {e z b:Int} {r s:ByteArray} {y:Int} {vo vs:Value} {mo:List MO} {ms:List ML} {mr:List MR} {x:Snt} (h:WS w W gw u e z b r s y vo vs mo ms mr) (hx:x.path=[]) (hs:SendPost gw w.heap.size (x,.slice none 0 0) u e z b r s y vo vs ms W W'):∃ v',WS w W' gw u e z b r s y vo v' mo (ms++[(x,.slice none 0 0)]) mr:=by
 have hk:=hs.keep h.gwb h.srow
 obtain⟨v',h1,h2,h3,h4⟩:=hs
 refine⟨v',h.low.trans (h4 _ (Nat.le_refl _) h.gw0),h.gw0,h1,own_keepX h.orow hk (by decide) (by decide),fun x hx=>own_keepX (h.has x hx) hk (by decide) (by decide),h.ap,h2,?_,own_keepX h.rrow hk (by decide) (by decide),h.rsl⟩
 intro q hq
 rcases List.mem_append.1 hq with hq|hq
 ·exact h.nl q hq
 ·rw[List.mem_singleton.1 hq]
  exact⟨rfl,hx⟩
theorem WS.oths {w W:World} {gw:Nat} {u:Value} {e z b:Int} {r s:ByteArray} {y:Int} {ao:Option Addr} {no co:Nat} {vs:Value} {mo:List MO} {ms:List ML} {mr:List MR} (h:WS w W gw u e z b r s y (.slice ao no co) vs mo ms mr):Oths W W.heap.size ao mo/\mo.length=no:=MadeO.oths (m:=mo) ⟨rfl,h.orow,h.has,h.ap⟩
def tellL (l:List Oth) (i:Int):List Snt:=(l.filter fun o=>!decide (o.strikes=3)).map fun o=>letterH o.name i
theorem tell_take {m:List MO} {j:Nat} (i:Int) (h:j<m.length):tellL (Pe.oths (m.take (j+1))) i=tellL (Pe.oths (m.take j)) i++(if m[j].1.strikes=3 then [] else [letterH m[j].1.name i]):=by
 unfold tellL
 rw[oths_take h,List.filter_append,List.map_append]
 by_cases hs:m[j].1.strikes=3
 ·simp[hs]
 ·simp[hs]
theorem tell_len (m:List MO) (j:Nat) (i:Int) (h:j<=m.length):(tellL (Pe.oths (m.take j)) i).length<=j:=by
 unfold tellL
 rw[List.length_map]
 refine Nat.le_trans (List.length_filter_le _ _) ?_
 rw[oths_length,List.length_take]
 omega
def Told (w W0:World) (gw:Nat) (u:Value) (e z b:Int) (r s:ByteArray) (y:Int) (vo:Value) (mo:List MO) (ms:List ML) (mr:List MR) (i:Int) (j:Nat) (W:World):Prop:=∃ vs' ms',WS w W gw u e z b r s y vo vs' mo ms' mr/\snts ms'=snts ms++tellL (Pe.oths (mo.take j)) i/\KeepY W0 W
theorem sendHave_any (w W:World) (gw:Nat) (u:Value) (e z b:Int) (r s:ByteArray) (y:Int) (ao:Option Addr) (n co:Nat) (vs:Value) (mo:List MO) (ms:List ML) (mr:List MR) (i:Int) (hw:WS w W gw u e z b r s y (.slice ao n co) vs mo ms mr) (hn:ms.length+n<=1048576) :
  Calls Tryz.prog 99 #[.pointer (some ⟨gw,0,none⟩),.int .i64 i] W fun q w'=>q=.returned (.tuple #[])/\∃ vs' ms',WS w w' gw u e z b r s y (.slice ao n co) vs' mo ms' mr/\snts ms'=snts ms++tellL (Pe.oths mo) i/\KeepY W w':=by
 have HW:=hideK hw
 have HM:=hideK (hw.oths.2)
 have c7:W.cell? ⟨gw,7,none⟩=some (.slice ao n co):=cell_of_row W gw 7 _ _ _ (by have:=hw.gwb;unfold wpB at this;exact this)
 clear hw
 go_enter Tryz.func99,Tryz.ntmps99
 go_wp2_with fail
 go_loopw [11] (fun jv wr=>∃ j:Nat,jv=.int .i64 j/\j<=n/\Told w W gw u e z b r s y (.slice ao n co) mo ms mr i j wr) (fun jv _=>n-(intOf jv).toNat)
 case atStart=>exact⟨0,rfl,Nat.zero_le _,vs,ms,HW.out,by unfold tellL Pe.oths;simp,KeepY.refl _⟩
 case round =>
  obtain⟨j,rfl,hj,vs',ms',hws,hsm,hky⟩:=hrel
  have KY:=hideK hky
  clear hky
  have WJ:=hideK hws
  have SM:=hideK hsm
  have HLN:Hid (ms'.length<=ms.length+j):=by
   have h1:=congrArg List.length hsm
   rw[snts_length,List.length_append,snts_length]at h1
   have h2:=tell_len mo j i (by rw[HM.out];exact hj)
   unfold Hid
   omega
  clear hws hsm
  by_cases hlt:j<n
  ·have hlt':(j:Int)<(n:Int):=by omega
   have hjl:j<mo.length:=by rw[HM.out];exact hlt
   obtain⟨go,cp,hv,_,hgz,_,hcc⟩:=WJ.out.orow.cells (by omega)
   obtain⟨rfl,rfl⟩:ao=some ⟨go,0,none⟩/\co=cp:=by simp at hv;exact⟨hv.1,hv.2.2⟩
   obtain⟨d0,d1,d2,d3,d4⟩:=hcc j hjl
   obtain⟨ax,cx,hxv,_⟩:=(WJ.out.has mo[j] (List.getElem_mem hjl)).ints
   rw[hxv]at d1
   have HT:=hideK (tell_take i hjl)
   generalize mo[j].1.name=nm at d0 HT
   generalize mo[j].1.has.length=k at d1
   generalize mo[j].1.asked=q at d2
   generalize mo[j].1.age=gg at d3
   generalize mo[j].1.strikes=t at d4 HT
   have XB:=hideK (heap_alloc_new wr (.cells #[.string nm,.slice ax k cx,.int .i64 q,.int .i64 gg,.int .i64 t] 86))
   have W1:=hideK (WJ.out.call ((Below.refl _ _).alloc (Nat.le_refl _) (.cells #[.string nm,.slice ax k cx,.int .i64 q,.int .i64 gg,.int .i64 t] 86)))
   have K1:=hideK (KY.out.trans (KeepY.below ((Below.refl _ _).alloc (Nat.le_refl _) (.cells #[.string nm,.slice ax k cx,.int .i64 q,.int .i64 gg,.int .i64 t] 86))))
   have HBA:=hideK (fun W=>banned_any nm ax k cx q gg t W)
   clear hcc hxv hv WJ
   go_upto_region 3 with fail
   generalize wr.alloc (.cells #[.string nm,.slice ax k cx,.int .i64 q,.int .i64 gg,.int .i64 t] 86)=W2 at XB W1 K1 ⊢
   generalize wr.heap.size=g2 at XB ⊢
   obtain⟨e0,e1,e2,e3,e4⟩:=cells5 XB.out
   have hg2:=lt_rowK XB.out
   clear d0 d1 d2 d3 d4
   by_cases ht:t=3
   ·have ht':(t==3)=true:=beq_iff_eq.2 ht
    rw[if_pos ht,List.append_nil]at HT
    rw[ht']at HBA
    clear ht ht'
    go_wp2_with fail
    refine(HBA.out _).mono ?_
    rintro e w3 ⟨rfl,hb⟩
    have W3:=hideK (W1.out.call hb)
    have K3:=hideK (K1.out.trans (KeepY.below hb))
    have SM3:Hid (snts ms'=snts ms++tellL (Pe.oths (mo.take (j+1))) i):=by unfold Hid;rw[HT.out];exact SM.out
    clear hb W1
    go_wp2_with fail
    go_roundw
    case rel=>exact⟨j+1,by go_num,by omega,_,_,W3.out,SM3.out,K3.out⟩
    case measure=>simp[intOf];omega
   ·have ht':(t==3)=false:=by simp[ht]
    rw[if_neg ht]at HT
    rw[ht']at HBA
    clear ht ht'
    go_wp2_with fail
    refine(HBA.out _).mono ?_
    rintro e w3 ⟨rfl,hb⟩
    have W3:=hideK (W1.out.call hb)
    have K3:=hideK (K1.out.trans (KeepY.below hb))
    have y0:=(hb.cell (p:=⟨g2,0,none⟩) hg2).trans e0
    have HSD:=hideK (send_any gw w.heap.size ms'.length (letterH nm i,.slice none 0 0) u _ z b r s y (.slice (some ⟨go,0,none⟩) n co) vs' ms' w3 W3.out.gwb W3.out.srow W3.out.low.size rfl (by have:=HLN.out;omega) ⟨_,_,_,rfl⟩)
    have HNX:=hideK (fun W'=>W3.out.send (W':=W') (x:=letterH nm i) rfl)
    have HK4:=hideK (fun W' (h:SendPost gw w.heap.size (letterH nm i,.slice none 0 0) u _ z b r s y (.slice (some ⟨go,0,none⟩) n co) vs' ms' w3 W')=>K3.out.trans (KeepY.send h W3.out.gwb W3.out.srow))
    unfold letterH at HSD
    dsimp only at HSD
    clear hb W1 W3 e0 e1 e2 e3 e4
    go_wp2_with fail
    refine HSD.out.mono ?_
    rintro e w4 ⟨rfl,hsp⟩
    obtain⟨v4,hws4⟩:=HNX.out w4 hsp
    have K4:=hideK (HK4.out w4 hsp)
    have W4:=hideK hws4
    have SM4:Hid (snts (ms'++[(letterH nm i,Value.slice none 0 0)])=snts ms++tellL (Pe.oths (mo.take (j+1))) i):=by
     have:=SM.out
     unfold Hid
     rw[HT.out,<-List.append_assoc,<-this]
     unfold snts
     rw[List.map_append]
     rfl
    clear hsp hws4 HSD HNX
    go_wp2_with fail
    go_roundw
    case rel=>exact⟨j+1,by go_num,by omega,_,_,W4.out,SM4.out,K4.out⟩
    case measure=>simp[intOf];omega
  ·obtain rfl:j=n:=by omega
   have hltD:decide ((j:Int)<(j:Int))=false:=by simp
   have HE:Hid (snts ms'=snts ms++tellL (Pe.oths mo) i):=by
    have:=SM.out
    rw[List.take_of_length_le (by rw[HM.out];exact Nat.le_refl _)]at this
    exact this
   go_wp2_with fail
   refine bodyPost_end (v:=.tuple #[]) (by simp[results,Tryz.results99,go_sem]) rfl ⟨rfl,?_⟩
   exact⟨_,_,WJ.out,HE.out,KY.out⟩
end Go.Proofs.YtpddanmnlkcdpaaGreatDoor.Tk


namespace Go.Proofs.YtpddanmnlkcdpaaGreatDoor.Tk
open Go.RowKit
open Kp
open Pe
open Pl
open In (Ints OwnI)
open Ls (lowL blk_alloc)
theorem grown_set {W:World} {g i:Nat} (v:Value):W.grownBy (W.setCell ⟨g,i,none⟩ v) (some g) :=
 ⟨rfl,rfl,rfl,by simp,fun q _ hne=>heap_setCell_other W ⟨g,i,none⟩ q v (by exact fun e=>hne (by rw[e]))⟩
theorem grown_more {W W':World} {g i:Nat} (h:W.grownBy W' (some g)) (v:Value):W.grownBy (W'.setCell ⟨g,i,none⟩ v) (some g):=by
 obtain⟨a1,a2,a3,a4,a5⟩:=h
 exact⟨a1,a2,a3,by simp;exact a4,fun q hq hne=>by rw[heap_setCell_other W' _ q _ (by exact fun e=>hne (by rw[e]))];exact a5 q hq hne⟩
theorem snd_set {m:List MO} {j:Nat} (hj:j<m.length) (x:Oth):(m.set j (x,m[j].2)).map (·.2)=m.map (·.2):=by
 rw[List.map_set]
 apply List.ext_getElem?
 intro i
 rw[List.getElem?_set]
 split
 ·rename_i e
  subst e
  simp[hj]
 ·rfl
theorem WS.put {w W W':World} {gw go n co j:Nat} {u:Value} {e z b:Int} {r s:ByteArray} {y:Int} {vs:Value} {mo:List MO} {ms:List ML} {mr:List MR} (h:WS w W gw u e z b r s y (.slice (some ⟨go,0,none⟩) n co) vs mo ms mr) (hj:j<mo.length) (x:Oth) (hx:x.has=mo[j].1.has)
  (hrow:W'.ownsRow w.heap.size 86 5 (.slice (some ⟨go,0,none⟩) n co) n (cellsO (mo.set j (x,mo[j].2)))) (hgr:W.grownBy W' (some go)):WS w W' gw u e z b r s y (.slice (some ⟨go,0,none⟩) n co) vs (mo.set j (x,mo[j].2)) ms mr:=by
 have hn:=h.oths.2
 have R0:W.ownsRow w.heap.size 86 5 (.slice (some ⟨go,0,none⟩) n co) n (cellsO mo):=by have:=h.orow;unfold OwnO at this;rwa[hn]at this
 obtain⟨cur,hb⟩:=own_blk R0
 have hk:∀ k o,W.heap[k]? = some o->k≠go->W'.heap[k]? = some o:=fun k o hk hne=>(hgr.block k (lt_rowK hk) (fun e=>hne (Option.some.inj e))).trans hk
 have hgo:w.heap.size<=go:=(World.ownsRow.lt R0 go rfl).1
 have hgw:=h.gwb
 unfold wpB at hgw
 refine⟨h.low.grown hgr h.low.size (fun q hq=>by cases hq;exact hgo),h.gw0,hk gw _ h.gwb (ty_ne hgw hb (by decide)),?_,fun y hy=>?_,apart_snd (snd_set hj x) h.ap,own_others h.srow hb (by decide) hk,h.nl,own_others h.rrow hb (by decide) hk,h.rsl⟩
 ·unfold OwnO
  rw[List.length_set,hn]
  exact hrow
 ·rcases List.mem_or_eq_of_mem_set hy with hy|rfl
  ·exact own_others (h.has y hy) hb (by decide) hk
  ·dsimp only
   rw[hx]
   exact own_others (h.has mo[j] (List.getElem_mem hj)) hb (by decide) hk
theorem release_any (g o:Nat) (v2 v3:Int) (w:World) (c2:w.cell? ⟨g,o+2,none⟩=some (.int .i64 v2)) (c3:w.cell? ⟨g,o+3,none⟩=some (.int .i64 v3)) (hf:∀ i,w.frozen? ⟨g,i,none⟩=false) :
  Calls Tryz.prog 126 #[.pointer (some ⟨g,o,none⟩)] w fun e w'=>e=.returned (.tuple #[])/\w'=(w.setCell ⟨g,o+2,none⟩ (.int .i64 0)).setCell ⟨g,o+3,none⟩ (.int .i64 0):=by
 have c3':(w.setCell ⟨g,o+2,none⟩ (.int .i64 0)).cell? ⟨g,o+3,none⟩=some (.int .i64 v3):=by rw[World.cell?_setCell_other _ _ _ _ (by simp)];exact c3
 have f3':(w.setCell ⟨g,o+2,none⟩ (.int .i64 0)).frozen? ⟨g,o+3,none⟩=false:=by simpa using hf (o+3)
 have f2:=hf (o+2)
 go_enter Tryz.func126,Tryz.ntmps126
 go_wp2_with fail
 refine bodyPost_end (v:=.tuple #[]) (by simp[results,Tryz.results126,go_sem]) rfl ⟨rfl,?_⟩
 rfl
def oldL (l:List Oth) (j:Nat):List Oth:=(l.take j).map oldO++l.drop j
theorem oldL_zero (l:List Oth):oldL l 0=l:=rfl
theorem oldL_all (l:List Oth):oldL l l.length=l.map oldO:=by unfold oldL;simp
theorem oldL_length (l:List Oth) (j:Nat) (h:j<=l.length):(oldL l j).length=l.length:=by
 unfold oldL
 rw[List.length_append,List.length_map,List.length_take,List.length_drop]
 omega
theorem oldL_at (l:List Oth) (j:Nat) (h:j<l.length):(oldL l j)[j]'(by rw[oldL_length l j (by omega)];exact h)=l[j]:=by
 have hl:((l.take j).map oldO).length=j:=by rw[List.length_map,List.length_take];omega
 unfold oldL
 rw[List.getElem_append_right (by omega)]
 simp only[hl,Nat.sub_self]
 rw[List.getElem_drop]
 rfl
theorem oldL_next (l:List Oth) (j:Nat) (h:j<l.length):(oldL l j).set j (oldO l[j])=oldL l (j+1):=by
 have hl:((l.take j).map oldO).length=j:=by rw[List.length_map,List.length_take];omega
 unfold oldL
 rw[List.set_append,if_neg (by omega),hl,Nat.sub_self,List.drop_eq_getElem_cons h,List.set_cons_zero,List.take_succ_eq_append_getElem h,List.map_append,List.append_assoc]
 rfl
theorem oldL_same (l:List Oth) (j:Nat) (h:j<l.length) (he:oldO l[j]=l[j]):oldL l (j+1)=oldL l j:=by
 rw[<-oldL_next l j h,he]
 have hh:=oldL_at l j h
 apply List.ext_getElem?
 intro i
 rw[List.getElem?_set]
 split
 ·rename_i e
  subst e
  rw[oldL_length l j (by omega),if_pos h,List.getElem?_eq_getElem (by rw[oldL_length l j (by omega)];exact h),hh]
 ·rfl
theorem oths_set (m:List MO) (j:Nat) (x:MO):Pe.oths (m.set j x)=(Pe.oths m).set j x.1:=by unfold Pe.oths;rw[List.map_set]
theorem cellsO_set2 (m:List MO) (i:Nat) (x:Oth) (h:i<m.length) (h1:x.name=m[i].1.name) (h2:x.strikes=m[i].1.strikes):cellsO (m.set i (x,m[i].2))=((cellsO m).set (i*5+2) (.int .i64 x.asked)).set (i*5+3) (.int .i64 x.age):=by
 have hc:=cellsO_at m i h
 have key:∀ (l:List Value) (k:Nat) (v:Value),l[k]? = some v->l.set k v=l:=fun l k v hk=>by
  apply List.ext_getElem?
  intro t
  rw[List.getElem?_set]
  split
  ·rename_i e
   subst e
   split
   ·exact hk.symm
   ·rename_i hlt
    rw[List.getElem?_eq_none (by omega)]at hk
    cases hk
  ·rfl
 rw[cellsO_set4 m i (x,m[i].2) h rfl]
 dsimp only
 rw[h1,h2,key (cellsO m) (i*5) _ hc.1]
 refine key _ _ _ ?_
 rw[List.getElem?_set_ne (by omega),List.getElem?_set_ne (by omega)]
 exact hc.2.2.2.2
def Olds (w W0:World) (gw:Nat) (u:Value) (e z b:Int) (r s:ByteArray) (y:Int) (vo vs:Value) (mo:List MO) (ms:List ML) (mr:List MR) (j:Nat) (W:World):Prop:=∃ mj,WS w W gw u e z b r s y vo vs mj ms mr/\Pe.oths mj=oldL (Pe.oths mo) j/\KeepY W0 W
theorem growOld_any (w W:World) (gw:Nat) (u:Value) (e z b:Int) (r s:ByteArray) (y:Int) (ao:Option Addr) (n co:Nat) (vs:Value) (mo:List MO) (ms:List ML) (mr:List MR) (hw:WS w W gw u e z b r s y (.slice ao n co) vs mo ms mr) (hn:n<=1048576) (hage:∀ o∈Pe.oths mo,0<=o.age/\o.age<=3) :
  Calls Tryz.prog 95 #[.pointer (some ⟨gw,0,none⟩)] W fun q w'=>q=.returned (.tuple #[])/\∃ mo',WS w w' gw u e z b r s y (.slice ao n co) vs mo' ms mr/\Pe.oths mo'=(Pe.oths mo).map oldO/\KeepY W w':=by
 have HW:=hideK hw
 have HM:=hideK (hw.oths.2)
 have HAG:=hideK hage
 have c7:W.cell? ⟨gw,7,none⟩=some (.slice ao n co):=cell_of_row W gw 7 _ _ _ (by have:=hw.gwb;unfold wpB at this;exact this)
 clear hw hage
 go_enter Tryz.func95,Tryz.ntmps95
 go_wp2_with fail
 go_loopw [2,3,9] (fun _ _ jv wr=>∃ j:Nat,jv=.int .i64 j/\j<=n/\Olds w W gw u e z b r s y (.slice ao n co) vs mo ms mr j wr) (fun _ _ jv _=>n-(intOf jv).toNat)
 case atStart=>exact⟨0,rfl,Nat.zero_le _,mo,HW.out,(oldL_zero _).symm,KeepY.refl _⟩
 case round =>
  obtain⟨j,rfl,hj,mj,hws,hos,hky⟩:=hrel
  have KY:=hideK hky
  clear hky
  have WJ:=hideK hws
  have OS:=hideK hos
  have HLM:Hid ((Pe.oths mo).length=n):=by unfold Hid;rw[oths_length];exact HM.out
  have HLJ:Hid (mj.length=n):=by unfold Hid;rw[<-oths_length,hos,oldL_length _ _ (by rw[HLM.out];exact hj),HLM.out]
  have e7:wr.cell? ⟨gw,7,none⟩=some (.slice ao n co):=cell_of_row wr gw 7 _ _ _ (by have:=hws.gwb;unfold wpB at this;exact this)
  clear hws hos
  by_cases hlt:j<n
  ·have hlt':(j:Int)<(n:Int):=by omega
   have hjl:j<mj.length:=by rw[HLJ.out];exact hlt
   have hjo:j<(Pe.oths mo).length:=by rw[HLM.out];exact hlt
   have HX:Hid (mj[j].1=(Pe.oths mo)[j]):=by
    unfold Hid
    rw[<-oths_get mj j hjl,<-oldL_at (Pe.oths mo) j hjo]
    simp only[OS.out]
   obtain⟨go,cp,hv,_,hgz,_,hcc⟩:=WJ.out.orow.cells (by omega)
   obtain⟨rfl,rfl⟩:ao=some ⟨go,0,none⟩/\co=cp:=by simp at hv;exact⟨hv.1,hv.2.2⟩
   obtain⟨d0,d1,d2,d3,d4⟩:=hcc j hjl
   have hag:=HAG.out _ (List.getElem_mem hjo)
   rw[<-HX.out]at hag
   have hff:=WJ.out.orow.frozen
   have HNX:Hid (∀ W',(∃ x:Oth,x=oldO mj[j].1/\WS w W' gw u e z b r s y (.slice (some ⟨go,0,none⟩) n co) vs (mj.set j (x,mj[j].2)) ms mr/\KeepY wr W')->Olds w W gw u e z b r s y (.slice (some ⟨go,0,none⟩) n co) vs mo ms mr (j+1) W'):=fun W' ⟨x,hx,hW',hk⟩=>⟨_,hW',by rw[oths_set,OS.out,<-oldL_next _ j hjo,hx,HX.out],KY.out.trans hk⟩
   have HSM:Hid (mj[j].1.asked=0->Olds w W gw u e z b r s y (.slice (some ⟨go,0,none⟩) n co) vs mo ms mr (j+1) wr):=fun hq=>⟨mj,WJ.out,by rw[OS.out];exact(oldL_same _ j hjo (by rw[<-HX.out];unfold oldO;rw[if_pos hq])).symm,KY.out⟩
   have HR0:Hid (wr.ownsRow w.heap.size 86 5 (.slice (some ⟨go,0,none⟩) n co) n (cellsO mj)):=by have:=WJ.out.orow;unfold OwnO at this;rw[HLJ.out]at this;exact this
   clear hcc hv
   by_cases hq:mj[j].1.asked=0
   ·have hq1:(mj[j].1.asked==0)=true:=beq_iff_eq.2 hq
    have NX:=hideK (HSM.out hq)
    generalize mj[j].1.asked=q at d2 hq1
    clear HSM HNX hq
    go_wp2_with fail
    go_roundw
    case rel=>exact⟨j+1,by go_num,by omega,NX.out⟩
    case measure=>simp[intOf];omega
   ·have hq1:(mj[j].1.asked==0)=false:=by simp[hq]
    have y3:=(own_cell HR0.out (cellsO_at mj j hjl).2.2.2.1)
    have R1:=own_set (p:=j*5+3) HR0.out (.int .i64 (mj[j].1.age+1))
    have y3b:=(own_cell R1 (p:=j*5+3) (by rw[List.getElem?_set_self (by rw[cellsO_length];omega)])).1
    have y2b:=(own_cell R1 (p:=j*5+2) (by rw[List.getElem?_set_ne (by omega)];exact(cellsO_at mj j hjl).2.2.1)).1
    by_cases ha:3<mj[j].1.age+1
    ·have haD:decide ((3:Int)<mj[j].1.age+1)=true:=by simp;omega
     have HN1:Hid (Olds w W gw u e z b r s y (.slice (some ⟨go,0,none⟩) n co) vs mo ms mr (j+1) (((wr.setCell ⟨go,j*5+3,none⟩ (.int .i64 (mj[j].1.age+1))).setCell ⟨go,j*5+2,none⟩ (.int .i64 0)).setCell ⟨go,j*5+3,none⟩ (.int .i64 0))):=HNX.out _ ⟨⟨mj[j].1.name,mj[j].1.has,0,0,mj[j].1.strikes⟩,by unfold oldO;rw[if_neg hq,if_pos ha],WJ.out.put hjl ⟨mj[j].1.name,mj[j].1.has,0,0,mj[j].1.strikes⟩ rfl (by
      rw[cellsO_set2 mj j ⟨mj[j].1.name,mj[j].1.has,0,0,mj[j].1.strikes⟩ hjl rfl rfl]
      have R2:=own_set (p:=j*5+2) R1 (.int .i64 0)
      have R3:=own_set (p:=j*5+3) R2 (.int .i64 0)
      have hl:((cellsO mj).set (j*5+3) (.int .i64 (mj[j].1.age+1))).set (j*5+2) (.int .i64 0)=((cellsO mj).set (j*5+2) (.int .i64 0)).set (j*5+3) (.int .i64 (mj[j].1.age+1)):=List.set_comm _ _ (by omega)
      rw[hl,List.set_set]at R3
      exact R3) (grown_more (grown_more (grown_set _) _) _),KeepY.set (own_blk HR0.out).choose_spec (grown_more (grown_more (grown_set _) _) _)⟩
     have HRE:=hideK (release_any go (j*5) mj[j].1.asked (mj[j].1.age+1) (wr.setCell ⟨go,j*5+3,none⟩ (.int .i64 (mj[j].1.age+1))) y2b y3b (fun i=>by simpa using hff i))
     clear HNX HSM HX R1
     generalize mj[j].1.asked=q at d2 hq1 y2b HRE
     generalize mj[j].1.age=ag at d3 y3 y3b haD ha hag HN1 HRE y2b
     have f3:=hff (j*5+3)
     go_upto_region 6 with fail
     generalize wr.setCell ⟨go,j*5+3,none⟩ (.int .i64 (ag+1))=W1 at y2b y3b HN1 HRE ⊢
     clear d0 d1 d2 d3 d4 y3 f3
     go_wp2_with fail
     refine HRE.out.mono ?_
     rintro q' w3 ⟨rfl,hw3⟩
     have NX:Hid (Olds w W gw u e z b r s y (.slice (some ⟨go,0,none⟩) n co) vs mo ms mr (j+1) w3):=by rw[hw3];exact HN1.out
     clear hw3 HN1 HRE
     go_wp2_with fail
     go_roundw
     case rel=>exact⟨j+1,by go_num,by omega,NX.out⟩
     case measure=>simp[intOf];omega
    ·have haD:decide ((3:Int)<mj[j].1.age+1)=false:=by simp;omega
     have HN1:Hid (Olds w W gw u e z b r s y (.slice (some ⟨go,0,none⟩) n co) vs mo ms mr (j+1) (wr.setCell ⟨go,j*5+3,none⟩ (.int .i64 (mj[j].1.age+1)))):=HNX.out _ ⟨⟨mj[j].1.name,mj[j].1.has,mj[j].1.asked,mj[j].1.age+1,mj[j].1.strikes⟩,by unfold oldO;rw[if_neg hq,if_neg ha],WJ.out.put hjl ⟨mj[j].1.name,mj[j].1.has,mj[j].1.asked,mj[j].1.age+1,mj[j].1.strikes⟩ rfl (by
      rw[cellsO_set2 mj j ⟨mj[j].1.name,mj[j].1.has,mj[j].1.asked,mj[j].1.age+1,mj[j].1.strikes⟩ hjl rfl rfl]
      have hs:(cellsO mj).set (j*5+2) (.int .i64 mj[j].1.asked)=cellsO mj:=by
       have hc:=(cellsO_at mj j hjl).2.2.1
       apply List.ext_getElem?
       intro t
       rw[List.getElem?_set]
       split
       ·rename_i e
        subst e
        rw[if_pos (by rw[cellsO_length];omega)]
        exact hc.symm
       ·rfl
      dsimp only
      rw[hs]
      exact R1) (grown_set _),KeepY.set (own_blk HR0.out).choose_spec (grown_set _)⟩
     clear HNX HSM HX R1 y2b
     generalize mj[j].1.asked=q at d2 hq1
     generalize mj[j].1.age=ag at d3 y3 y3b haD ha hag HN1
     have f3:=hff (j*5+3)
     go_upto_region 6 with fail
     generalize wr.setCell ⟨go,j*5+3,none⟩ (.int .i64 (ag+1))=W1 at y3b HN1 ⊢
     clear d0 d1 d2 d3 d4 y3 f3
     go_wp2_with fail
     go_roundw
     case rel=>exact⟨j+1,by go_num,by omega,HN1.out⟩
     case measure=>simp[intOf];omega
  ·obtain rfl:j=n:=by omega
   have hltD:decide ((j:Int)<(j:Int))=false:=by simp
   have HE:Hid (Pe.oths mj=(Pe.oths mo).map oldO):=by
    unfold Hid
    rw[OS.out,<-oldL_all,HLM.out]
   go_wp2_with fail
   refine bodyPost_end (v:=.tuple #[]) (by simp[results,Tryz.results95,go_sem]) rfl ⟨rfl,?_⟩
   exact⟨_,WJ.out,HE.out,KY.out⟩
end Go.Proofs.YtpddanmnlkcdpaaGreatDoor.Tk


namespace Go.Proofs.YtpddanmnlkcdpaaGreatDoor.Tk
open Go.RowKit Go.Shelf
open Kp
open Pe
open Pl
open In (Ints OwnI)
open Ls (lowL blk_alloc countN)
attribute [local go_sem] Oper.semAt_some
def bestZ:Option (Int × Nat)->Int
 |none=>0
 |some p=>p.1
def fewZ:Option (Int × Nat)->Nat
 |none=>5
 |some p=>p.2
theorem rareS_no {h:List Int} {l:List Oth} {rs:List Int} (acc:Option (Int × Nat)) {x:Int} (hc:candB h l rs x=false):rareS h l rs acc x=acc:=by
 unfold rareS
 rw[if_neg (by rw[hc];decide)]
theorem rareS_yes {h:List Int} {l:List Oth} {rs:List Int} (acc:Option (Int × Nat)) {x:Int} (hc:candB h l rs x=true) (hl:ownN l x<fewZ acc):rareS h l rs acc x=some (x,ownN l x):=by
 unfold rareS
 rw[if_pos hc]
 cases acc with
 |none=>rfl
 |some p=>exact if_pos hl
theorem rareS_not {h:List Int} {l:List Oth} {rs:List Int} (acc:Option (Int × Nat)) {x:Int} (h4:l.length<=4) (hl:¬ownN l x<fewZ acc):rareS h l rs acc x=acc:=by
 unfold rareS
 split
 ·cases acc with
  |none =>
   have:=ownN_le l x
   have h5:fewZ none=5:=rfl
   rw[h5]at hl
   omega
  |some p=>exact if_neg hl
 ·rfl
theorem rareS_few {h:List Int} {l:List Oth} {rs:List Int} {acc:Option (Int × Nat)} {x:Int} (h4:l.length<=4) (ha:∀ p,acc=some p->p.2<=4):∀ p,rareS h l rs acc x=some p->p.2<=4:=by
 intro p hp
 have:=ownN_le l x
 by_cases hc:candB h l rs x=true
 ·by_cases hl:ownN l x<fewZ acc
  ·rw[rareS_yes acc hc hl]at hp
   cases hp
   dsimp only
   omega
  ·rw[rareS_not acc h4 hl]at hp
   exact ha p hp
 ·rw[rareS_no acc (by simpa using hc)]at hp
  exact ha p hp
theorem rare_few {h:List Int} {l:List Oth} {rs:List Int} (h4:l.length<=4):∀ (xs:List Int) (acc:Option (Int × Nat)),(∀ p,acc=some p->p.2<=4)->∀ p,xs.foldl (rareS h l rs) acc=some p->p.2<=4
 |[],_,ha,p,hp=>ha p hp
 |_ :: xs,_,ha,p,hp=>rare_few h4 xs _ (rareS_few h4 ha) p hp
theorem few_some {acc:Option (Int × Nat)} (ha:∀ p,acc=some p->p.2<=4):decide ((fewZ acc:Int)<=4)=acc.isSome:=by
 cases acc with
 |none=>rfl
 |some p =>
  have:=ha p rfl
  have h2:((fewZ (some p):Nat):Int)<=4:=by show ((p.2:Nat):Int)<=4;omega
  rw[decide_eq_true h2]
  rfl
theorem cand_mem {h:List Int} {l:List Oth} {rs:List Int} {x:Int} (h1:¬x∈h):candB h l rs x=false:=by unfold candB;simp[h1]
theorem cand_rec {h:List Int} {l:List Oth} {rs:List Int} {x:Int} (h1:x∈rs):candB h l rs x=false:=by unfold candB;simp[h1]
theorem cand_ask {h:List Int} {l:List Oth} {rs:List Int} {x:Int} (h1:askB l x=true):candB h l rs x=false:=by unfold candB;simp[h1]
theorem cand_yes {h:List Int} {l:List Oth} {rs:List Int} {x:Int} (h1:x∈h) (h2:¬x∈rs) (h3:askB l x=false):candB h l rs x=true:=by unfold candB;simp[h1,h2,h3]
theorem hasR_mem (m:List MR) (i:Int):hasR (recs m) i=decide (i∈idxs m):=by
 rw[hasR_recs]
 unfold idxs
 by_cases h:i∈m.map (·.1.1)
 ·rw[decide_eq_true h,List.any_eq_true]
  obtain⟨y,hy,e⟩:=List.mem_map.1 h
  exact⟨y,hy,by simp[e]⟩
 ·rw[decide_eq_false h,List.any_eq_false]
  intro y hy e
  exact h (List.mem_map.2 ⟨y,hy,by simpa using e⟩)
theorem countW_any (g:Nat) (u:Value) (e z b:Int) (r s:ByteArray) (y:Int) (vo vs:Value) (w:World) (hg:w.heap[g]? = some (wpB u e z b r s y vo vs)) :
  Calls Tryz.prog 91 #[.pointer (some ⟨g,0,none⟩)] w fun q w'=>q=.returned (.int .i64 (countN z b r:Nat))/\Below w.heap.size w w':=by
 have HC:=hideK (fun W=>Ls.count_impl z b r W)
 unfold wpB at hg
 have c2:w.cell? ⟨g,2,none⟩=some (.int .i64 z):=cell_of_row w g 2 _ _ _ hg
 have c3:w.cell? ⟨g,3,none⟩=some (.int .i64 b):=cell_of_row w g 3 _ _ _ hg
 have c4:w.cell? ⟨g,4,none⟩=some (.string r):=cell_of_row w g 4 _ _ _ hg
 clear hg
 unfold Ls.lV at HC
 go_enter Tryz.func91,Tryz.ntmps91
 go_wp2_with fail
 refine(HC.out _).mono ?_
 rintro q w1 ⟨rfl,hb⟩
 have HB:=hideK hb
 clear hb HC
 go_wp2_with fail
 go_ret
 exact⟨rfl,HB.out⟩
theorem cx_own {β:Type} {B:Nat} {w0:World} (f:β->List (Nat × Obj)) (hB:w0.heap.size<=B) (hc:∀ s x,x∈f s->x.2.isCells=true):OwnFrom B (fun s W=>Cx w0 W (f s)):=fun s X Y row hs hg hr =>
 ⟨hs.low.grown hg hs.low.size (fun k e=>Nat.le_trans hB (hr k e).1),fun x hx=>(hg.block x.1 (lt_rowK (hs.blk x hx)) (fun e=>by
  obtain⟨o,ho,hn⟩:=(hr x.1 e.symm).2
  rw[hs.blk x hx]at ho
  cases ho
  rw[hc s x hx]at hn
  cases hn)).trans (hs.blk x hx)⟩
theorem keeps_below {B:Nat} {W W':World} (h:Below W.heap.size W W'):KeepsFrom B W W':=⟨h.size,fun k _ _ hk _=>(h.block k (lt_rowK hk)).trans hk⟩
theorem kp2_of {W W':World} {A B:Nat} {x y:Value} {s t:TypeId} (h1:W.heap[A]? = some (.cells #[x] s (0,0))) (h2:W.heap[B]? = some (.cells #[y] t (0,0))) (k1:W'.heap[A]? = some (.cells #[x] s (0,0))) (k2:W'.heap[B]? = some (.cells #[y] t (0,0))):Kp2 A B W W' :=
 ⟨(cell_of_row W' A 0 _ _ _ k1).trans (cell_of_row W A 0 _ _ _ h1).symm,(cell_of_row W' B 0 _ _ _ k2).trans (cell_of_row W B 0 _ _ _ h2).symm⟩
def accOf (hl:List Int) (l:List Oth) (rs:List Int) {c:Nat} (pre:List (InC c)):Option (Int × Nat):=(vals pre).foldl (rareS hl l rs) none
theorem accOf_snoc (hl:List Int) (l:List Oth) (rs:List Int) {c:Nat} (pre:List (InC c)) (x:InC c):accOf hl l rs (pre++[x])=rareS hl l rs (accOf hl l rs pre) x.1:=by
 unfold accOf
 rw[vals_snoc,List.foldl_append]
 rfl
def rblks (gk g1 gw:Nat) (o:Obj) (c:Nat) (d:Int) (acc:Option (Int × Nat)):List (Nat × Obj) :=
 [(g1+1,.cells #[.int .i64 c] 2),(g1,.cells #[.int .i64 d] 2),(gk+1+1+1,.cells #[.int .i64 (fewZ acc:Nat)] 3),(gk+1+1,.cells #[.int .i64 (bestZ acc)] 2),(gk+1,o),(gk,.cells #[.pointer (some ⟨gw,0,none⟩)] 122)]
theorem rblks_put {W V:World} {gk g1 gw:Nat} {o:Obj} {c:Nat} {d:Int} {acc:Option (Int × Nat)} (h:Cx W V (rblks gk g1 gw o c d acc)) (hg:gk+1+1+1<g1) (hW:W.heap.size=gk) (x:Int) (q:Nat) :
  Cx W ((V.setCell ⟨gk+1+1,0,none⟩ (.int .i64 x)).setCell ⟨gk+1+1+1,0,none⟩ (.int .i64 (q:Nat))) (rblks gk g1 gw o c d (some (x,q))):=by
 have h3:=h.get 2 rfl
 have h2:=h.get 3 rfl
 refine⟨(h.low.setCell (p:=⟨gk+1+1,0,none⟩) (by show W.heap.size<=gk+1+1;omega) _).setCell (p:=⟨gk+1+1+1,0,none⟩) (by show W.heap.size<=gk+1+1+1;omega) _,?_⟩
 have oth:∀ k ob,V.heap[k]? = some ob->k≠gk+1+1->k≠gk+1+1+1->((V.setCell ⟨gk+1+1,0,none⟩ (.int .i64 x)).setCell ⟨gk+1+1+1,0,none⟩ (.int .i64 (q:Nat))).heap[k]? = some ob:=fun k ob hk n1 n2=>by
  rw[heap_setCell_other _ _ k _ (by exact n2),heap_setCell_other _ _ k _ (by exact n1)]
  exact hk
 intro y hy
 unfold rblks at hy
 simp only[List.mem_cons,List.not_mem_nil,or_false]at hy
 rcases hy with rfl|rfl|rfl|rfl|rfl|rfl
 ·exact oth _ _ (h.get 0 rfl) (by dsimp only;omega) (by dsimp only;omega)
 ·exact oth _ _ (h.get 1 rfl) (by dsimp only;omega) (by dsimp only;omega)
 ·have h3':(V.setCell ⟨gk+1+1,0,none⟩ (.int .i64 x)).heap[gk+1+1+1]? = _:=(heap_setCell_other V ⟨gk+1+1,0,none⟩ (gk+1+1+1) _ (by show gk+1+1+1≠gk+1+1;omega)).trans h3
  have:=heap_setCell_same _ (gk+1+1+1) 0 _ _ (.int .i64 (q:Nat)) h3'
  exact this
 ·have:=heap_setCell_same _ (gk+1+1) 0 _ _ (.int .i64 x) h2
  exact(heap_setCell_other _ ⟨gk+1+1+1,0,none⟩ (gk+1+1) _ (by show gk+1+1≠gk+1+1+1;omega)).trans this
 ·exact oth _ _ (h.get 4 rfl) (by dsimp only;omega) (by dsimp only;omega)
 ·exact oth _ _ (h.get 5 rfl) (by dsimp only;omega) (by dsimp only;omega)
theorem rarest_any (w W:World) (gw:Nat) (u:Value) (e z b:Int) (r s:ByteArray) (y:Int) (ao:Option Addr) (n co:Nat) (vs:Value) (mo:List MO) (ms:List ML) (mr:List MR) (hw:WS w W gw u e z b r s y (.slice ao n co) vs mo ms mr) (h4:n<=4) (hmr:mr.length<=1048576) (hsm:∀ y∈mo,y.1.has.length<=1048576) (hcn:countN z b r<=1048576)
  (nm:ByteArray) (ax:Option Addr) (k cx:Nat) (q gg t:Int) (hl:List Int) (hhl:Ints W W.heap.size ax hl) (hk:hl.length=k) (hkb:k<=1048576) (d:Int) (hd:0<=d) (hd2:d<=1048576) :
  Calls Tryz.prog 128 #[.pointer (some ⟨gw,0,none⟩),.agg #[.string nm,.slice ax k cx,.int .i64 q,.int .i64 gg,.int .i64 t],.int .i64 d] W fun o w' =>
   o=.returned (.tuple #[.int .i64 (bestZ (rareZ hl (Pe.oths mo) (idxs mr) d (countN z b r) (countN z b r))),.bool (rareZ hl (Pe.oths mo) (idxs mr) d (countN z b r) (countN z b r)).isSome])/\Below W.heap.size W w':=by
 have HW:=hideK hw
 have C0:=hideK (((((Cx.nil W).new (.cells #[.pointer (some ⟨gw,0,none⟩)] 122)).new (.cells #[.string nm,.slice ax k cx,.int .i64 q,.int .i64 gg,.int .i64 t] 86)).new (.cells #[.int .i64 0] 2)).new (.cells #[.int .i64 5] 3))
 simp only[World.size_alloc]at C0
 have HCT:=hideK (fun V (hV:Below W.heap.size W V) (x:Int)=>contains_any x ax k cx hl V ((hhl.below hV).mono hV.size) hk hkb)
 have HHS:=hideK (fun V (hV:Below W.heap.size W V) (x:Int)=>has_any gw w.heap.size mr.length x u mr V (cell_of_row V gw 0 _ _ _ (by have:=(hw.call hV).gwb;unfold wpB at this;exact this)) (lt_rowK (hw.call hV).gwb) (hw.call hV).rrow hw.rsl rfl hmr)
 have HIA:=hideK (fun V (hV:Below W.heap.size W V) (x:Int) (h0:0<=x) (h1:x<=1048576)=>isAsked_any gw _ _ _ _ _ _ _ _ x ao n co mo V (hw.call hV).gwb (hw.call hV).oths.1 hw.oths.2 (by omega) h0 h1)
 have HOW:=hideK (fun V (hV:Below W.heap.size W V) (x:Int)=>owners_any gw _ _ _ _ _ _ _ _ x ao n co mo V (hw.call hV).gwb (hw.call hV).oths.1 hw.oths.2 (by omega) hsm)
 have HCN:=hideK (fun V (hV:Below W.heap.size W V)=>countW_any gw u e z b r s y (.slice ao n co) vs V (hw.call hV).gwb)
 have HFEW:Hid (∀ p,rareZ hl (Pe.oths mo) (idxs mr) d (countN z b r) (countN z b r)=some p->p.2<=4):=fun p hp=>rare_few (by rw[oths_length,hw.oths.2];exact h4) _ none (fun _ h=>by cases h) p hp
 have HL4:Hid ((Pe.oths mo).length<=4):=by unfold Hid;rw[oths_length,hw.oths.2];exact h4
 have HRZ:Hid (∀ c (ys:List (InC c)),vals ys=turnL d c c->accOf hl (Pe.oths mo) (idxs mr) ys=rareZ hl (Pe.oths mo) (idxs mr) d c c):=fun c ys h=>by unfold accOf rareZ;rw[h]
 have HGN:Hid (∀ x:Int,hasR (recs mr) x=decide (x∈idxs mr)):=fun x=>hasR_mem mr x
 clear hw hhl hk hsm
 generalize countN z b r=c at HCN HFEW hcn ⊢
 refine(callsIn_wide (n:=3)).1 ?_
 refine callsIn_of_wp_marks Tryz.func128 rfl trivial ?_ rfl
 simp only[Tryz.ntmps128,List.size_toArray,List.length_cons,List.length_nil,Nat.reduceAdd,Nat.reduceSub,Array.replicate_succ,Array.replicate_zero,List.push_toArray,List.append_toArray,List.nil_append,List.cons_append]
 gi_wp2
 refine⟨trivial,(callsIn_wide.2 (HCN.out _ C0.out.low)).mono ?_⟩
 rintro o1 w1 ⟨rfl,hb1⟩
 have C1:=hideK ((((C0.out.call hb1).new (.cells #[.int .i64 d] 2))).new (.cells #[.int .i64 c] 2))
 simp only[World.size_alloc]at C1
 have hg1:W.heap.size+1+1+1<w1.heap.size:=Nat.lt_of_lt_of_le (lt_rowK (C0.out.get 0 rfl)) hb1.size
 clear hb1 C0 HCN
 gi_wp2
 refine⟨trivial,(around_in Fence.wide _ trivial rfl _ _ _).mono ?_⟩
 rintro o2 w2 ⟨rfl,rfl⟩
 gi_wp2
 generalize hgk:W.heap.size=gk at C1 hg1 ⊢
 have HGK:=hideK hgk
 generalize (w1.alloc _).alloc _=W2 at C1 ⊢
 generalize w1.heap.size=g1 at C1 hg1 ⊢
 clear hgk
 have hcc:Cx W W2 (rblks gk g1 gw (.cells #[.string nm,.slice ax k cx,.int .i64 q,.int .i64 gg,.int .i64 t] 86) c d none):=C1.out
 clear C1
 refine wpIn_rangeFunc_ownG rfl (by decide) (gf:=127) (lb:=#[.pointer (some ⟨g1+1,0,none⟩),.pointer (some ⟨g1,0,none⟩)]) rfl trivial (enters_of Tryz.func127 (by kernel_rfl) rfl)
  (around_stops 2 (g1+1) g1 d c hd hd2 hcn W2 (lt_rowK (hcc.get 0 rfl)) (lt_rowK (hcc.get 1 rfl)) (cell_of_row _ _ 0 _ _ _ (hcc.get 0 rfl)) (cell_of_row _ _ 0 _ _ _ (hcc.get 1 rfl))) (fun h1 h2=>h1.trans h2)
  (fun V l o o' hl h1 h2 h3=>⟨(belowK_b (w:=W2) (n₀:=W2.heap.size) (Nat.le_refl _) V l o o' hl h1 h2 h3).cell (p:=⟨g1+1,0,none⟩) (lt_rowK (hcc.get 0 rfl)),(belowK_b (w:=W2) (n₀:=W2.heap.size) (Nat.le_refl _) V l o o' hl h1 h2 h3).cell (p:=⟨g1,0,none⟩) (lt_rowK (hcc.get 1 rfl))⟩) (Below.refl _ _) (fun _=>rfl)
  (fun pre V=>Cx W V (rblks gk g1 gw (.cells #[.string nm,.slice ax k cx,.int .i64 q,.int .i64 gg,.int .i64 t] 86) c d (accOf hl (Pe.oths mo) (idxs mr) pre)))
  (fun _ _ _=>False)
  (cx_own _ hcc.low.size (fun s x hx=>by
   unfold rblks at hx
   simp only[List.mem_cons,List.not_mem_nil,or_false]at hx
   rcases hx with rfl|rfl|rfl|rfl|rfl|rfl<;>rfl))
  (fun _ _ _ _ _ hs _ _=>hs)
  hcc
  (fun x=>{ tmps:=#[.pointer (some ⟨gw,0,none⟩),.agg #[.string nm,.slice ax k cx,.int .i64 q,.int .i64 gg,.int .i64 t],.int .i64 d,.pointer (some ⟨gk,0,none⟩),.pointer (some ⟨gk+1,0,none⟩),undef,.int .i64 0,.bool false,.pointer (some ⟨gk+1+1,0,none⟩),.pointer (some ⟨gk+1+1+1,0,none⟩),.int .i64 x.1,undef,.int .i64 d,.pointer (some ⟨gw,0,none⟩),.int .i64 c,.func (.func 127) #[] #[.pointer (some ⟨g1+1,0,none⟩),.pointer (some ⟨g1,0,none⟩)],.int .i64 x.1,undef,undef,undef,undef,undef,undef,undef,undef,undef,undef,undef,undef,undef,undef,undef,undef,undef,undef,undef,undef,undef,undef,undef,undef,undef,undef,undef,undef,undef],defers:=[] })
  ?assign ?body ?done ?stop
 case assign =>
  intro l x V K hK
  gi_wp2
  exact hK
 case body =>
  rintro l pre ⟨xi,hx0,hx1⟩ V hcx hlen
  dsimp only
  have CX:=hideK hcx
  have LW:=hideK hcx.low
  have c0:=cell_of_row V gk 0 _ _ _ (hcx.get 5 rfl)
  have c1:=cell_of_row V (gk+1) 1 _ _ _ (hcx.get 4 rfl)
  have HIN:Hid (∀ V',Below V.heap.size V V'->rareS hl (Pe.oths mo) (idxs mr) (accOf hl (Pe.oths mo) (idxs mr) pre) xi=accOf hl (Pe.oths mo) (idxs mr) pre->KeepsFrom W2.heap.size V V'/\Kp2 (g1+1) g1 V V'/\Cx W V' (rblks gk g1 gw (.cells #[.string nm,.slice ax k cx,.int .i64 q,.int .i64 gg,.int .i64 t] 86) c d (accOf hl (Pe.oths mo) (idxs mr) (pre++[(⟨xi,hx0,hx1⟩:InC c)])))):=fun V' hb he=>by
   rw[accOf_snoc,he]
   exact⟨keeps_below hb,kp2_of (hcx.get 0 rfl) (hcx.get 1 rfl) ((hcx.call hb).get 0 rfl) ((hcx.call hb).get 1 rfl),hcx.call hb⟩
  have HPT:Hid (∀ V' (n:Nat),Below V.heap.size V V'->rareS hl (Pe.oths mo) (idxs mr) (accOf hl (Pe.oths mo) (idxs mr) pre) xi=some (xi,n)->KeepsFrom W2.heap.size V ((V'.setCell ⟨gk+1+1,0,none⟩ (.int .i64 xi)).setCell ⟨gk+1+1+1,0,none⟩ (.int .i64 (n:Nat)))/\Kp2 (g1+1) g1 V ((V'.setCell ⟨gk+1+1,0,none⟩ (.int .i64 xi)).setCell ⟨gk+1+1+1,0,none⟩ (.int .i64 (n:Nat)))/\Cx W ((V'.setCell ⟨gk+1+1,0,none⟩ (.int .i64 xi)).setCell ⟨gk+1+1+1,0,none⟩ (.int .i64 (n:Nat))) (rblks gk g1 gw (.cells #[.string nm,.slice ax k cx,.int .i64 q,.int .i64 gg,.int .i64 t] 86) c d (accOf hl (Pe.oths mo) (idxs mr) (pre++[(⟨xi,hx0,hx1⟩:InC c)])))):=fun V' n hb he=>by
   rw[accOf_snoc,he]
   have hp:=rblks_put (hcx.call hb) hg1 HGK.out xi n
   exact⟨((keeps_below hb).trans ((KeepsOthers.setCell _ _ _).from _)).trans ((KeepsOthers.setCell _ _ _).from _),kp2_of (hcx.get 0 rfl) (hcx.get 1 rfl) (hp.get 0 rfl) (hp.get 1 rfl),hp⟩
  clear hcx hlen
  have hx2:xi<=1048576:=by omega
  have CT:=hideK (HCT.out V LW.out xi)
  by_cases h1:xi∈hl
  ·rw[decide_eq_true h1]at CT
   have HS1:=hideK (HHS.out V LW.out xi)
   rw[HGN.out]at HS1
   gi_wp2
   refine⟨trivial,(CallsIn.inRound l (callsIn_wide.2 CT.out)).mono ?_⟩
   rintro o1 V1 ⟨rfl,hV1⟩
   subst V1
   by_cases h2:xi∈idxs mr
   ·rw[decide_eq_true h2]at HS1
    have HNO:=hideK (rareS_no (accOf hl (Pe.oths mo) (idxs mr) pre) (cand_rec (h:=hl) (l:=Pe.oths mo) h2))
    gi_wp2
    refine⟨trivial,(CallsIn.inRound l (callsIn_wide.2 HS1.out)).mono ?_⟩
    rintro o1 V1 ⟨rfl,hV1⟩
    have HN:=hideK (HIN.out V1 hV1 HNO.out)
    gi_wp2
    refine⟨trivial,?_⟩
    gi_wp2
    exact HN.out
   ·rw[decide_eq_false h2]at HS1
    gi_wp2
    refine⟨trivial,(CallsIn.inRound l (callsIn_wide.2 HS1.out)).mono ?_⟩
    rintro o1 V1 ⟨rfl,hV1⟩
    have CX1:=hideK (CX.out.call hV1)
    have d0:=cell_of_row V1 gk 0 _ _ _ (CX1.out.get 5 rfl)
    have IA:=hideK (HIA.out V1 CX1.out.low xi hx0 hx2)
    have HV1:=hideK hV1
    clear hV1 CT HS1
    by_cases h3:askB (Pe.oths mo) xi=true
    ·rw[h3]at IA
     have HNO:=hideK (rareS_no (accOf hl (Pe.oths mo) (idxs mr) pre) (cand_ask (h:=hl) (rs:=idxs mr) h3))
     gi_wp2
     refine⟨trivial,(CallsIn.inRound l (callsIn_wide.2 IA.out)).mono ?_⟩
     rintro o1 V2 ⟨rfl,hV2⟩
     have HN:=hideK (HIN.out V2 (HV1.out.trans (hV2.mono HV1.out.size)) HNO.out)
     gi_wp2
     exact HN.out
    ·have h3':askB (Pe.oths mo) xi=false:=by simpa using h3
     rw[h3']at IA
     gi_wp2
     refine⟨trivial,(CallsIn.inRound l (callsIn_wide.2 IA.out)).mono ?_⟩
     rintro o1 V2 ⟨rfl,hV2⟩
     have CX2:=hideK (CX1.out.call hV2)
     have e0:=cell_of_row V2 gk 0 _ _ _ (CX2.out.get 5 rfl)
     have OW:=hideK (HOW.out V2 CX2.out.low xi)
     have HV2:=hideK (HV1.out.trans (hV2.mono HV1.out.size))
     clear hV2 IA CX1 HV1 d0
     gi_wp2
     refine⟨trivial,(CallsIn.inRound l (callsIn_wide.2 OW.out)).mono ?_⟩
     rintro o1 V3 ⟨rfl,hV3⟩
     have CX3:=hideK (CX2.out.call hV3)
     have HV3:=hideK (HV2.out.trans (hV3.mono HV2.out.size))
     have f2:=cell_of_row V3 (gk+1+1) 0 _ _ _ (CX3.out.get 3 rfl)
     have f3:=cell_of_row V3 (gk+1+1+1) 0 _ _ _ (CX3.out.get 2 rfl)
     have fr2:=frozen_of_row V3 (gk+1+1) 0 _ _ (CX3.out.get 3 rfl)
     have fr3:=frozen_of_row V3 (gk+1+1+1) 0 _ _ (CX3.out.get 2 rfl)
     clear hV3 OW CX2 HV2 e0
     have HCY:=hideK (cand_yes h1 h2 h3')
     by_cases h5:ownN (Pe.oths mo) xi<fewZ (accOf hl (Pe.oths mo) (idxs mr) pre)
     ·have HYS:=hideK (HPT.out V3 _ HV3.out (rareS_yes (accOf hl (Pe.oths mo) (idxs mr) pre) HCY.out h5))
      generalize ownN (Pe.oths mo) xi=qn at h5 HYS ⊢
      generalize fewZ (accOf hl (Pe.oths mo) (idxs mr) pre)=fz at h5 f3
      have h5':(qn:Int)<(fz:Int):=by omega
      have f3':(V3.setCell ⟨gk+1+1,0,none⟩ (.int .i64 xi)).cell? ⟨gk+1+1+1,0,none⟩=some (.int .i64 fz):=by rw[World.cell?_setCell_other _ _ _ _ (by simp)];exact f3
      gi_wp2
      exact HYS.out
     ·have HNO:=hideK (HIN.out V3 HV3.out (rareS_not (accOf hl (Pe.oths mo) (idxs mr) pre) HL4.out h5))
      generalize ownN (Pe.oths mo) xi=qn at h5 ⊢
      generalize fewZ (accOf hl (Pe.oths mo) (idxs mr) pre)=fz at h5 f3
      have h5':¬(qn:Int)<(fz:Int):=by omega
      gi_wp2
      exact HNO.out
  ·rw[decide_eq_false h1]at CT
   have HN:=hideK (HIN.out V (Below.refl _ _) (rareS_no (accOf hl (Pe.oths mo) (idxs mr) pre) (cand_mem (l:=Pe.oths mo) (rs:=idxs mr) h1)))
   gi_wp2
   refine⟨trivial,(CallsIn.inRound l (callsIn_wide.2 CT.out)).mono ?_⟩
   rintro o1 V1 ⟨rfl,hV1⟩
   subst V1
   gi_wp2
   refine⟨trivial,?_⟩
   gi_wp2
   refine⟨trivial,?_⟩
   gi_wp2
   exact HN.out
 case done =>
  rintro D ys V hD hys hcx hK
  have hmx:=mixedK
  have HAC:=hideK (HRZ.out c ys hys)
  have f2:=cell_of_row V.drew (gk+1+1) 0 _ _ _ (hcx.get 3 rfl)
  have f3:=cell_of_row V.drew (gk+1+1+1) 0 _ _ _ (hcx.get 2 rfl)
  have HLW:=hideK hcx.low
  have HSZ:=hideK hcx.low.size
  rw[HAC.out]at f2 f3
  have HF:=hideK (few_some HFEW.out)
  clear hcx hys
  generalize hra:rareZ hl (Pe.oths mo) (idxs mr) d c c=acc at f2 f3 HF
  have HAC2:=hideK hra
  clear hra
  generalize fewZ acc=fz at f3 HF
  have HK:=hideK hK
  gi_wp2
  refine So.wpIn_region_still_tail 4 hmx (by kernel_rfl) ?_
  simp only[List.take,List.drop]
  repeat still_step
  refine wpStill_nil ?_
  gi_wp2
  refine⟨by simp,.inl ⟨_,_,rfl,run_takeDeferred (show V.drew.heap[D]? = _ from HK.out),?_⟩⟩
  have HB2:Below W.heap.size W (V.drew.putObj D (.deferred none)):=HLW.out.drew.trans (belowK_b (w:=W) (Nat.le_refl _) V.drew D _ _ (by have:=hcc.low.size;omega) HK.out rfl rfl)
  refine⟨_,results_tmp2 rfl _ _ _,?_,HB2⟩
  rw[HAC2.out,<-HF.out]
  rfl
 case stop =>
  rintro D c pre V _ _ h _
  exact h.elim
end Go.Proofs.YtpddanmnlkcdpaaGreatDoor.Tk


/- A tick in plain words: one is asked; all are asked. -/
namespace Go.Proofs.YtpddanmnlkcdpaaGreatDoor.Tk
open Go.RowKit
open Kp
open Pe
open Pl
def letterA (nm:ByteArray) (x:Int):Snt:=⟨nm,2,x,⟨#[]⟩,[]⟩
def askedO (o:Oth) (x:Int):Oth:=⟨o.name,o.has,x+1,0,o.strikes⟩
def askS (rs:List Int) (d:Int) (c:Nat) (st:List Oth × List Snt) (j:Nat):List Oth × List Snt :=
 match st.1[j]? with
 |none=>st
 |some o=>if 0<o.asked∨o.strikes=3 then st else match rareZ o.has st.1 rs d c c with
  |none=>st
  |some p=>(st.1.set j (askedO o p.1),st.2++[letterA o.name p.1])
theorem askS_no {rs:List Int} {d:Int} {c:Nat} {l:List Oth} {q:List Snt} {j:Nat} (hj:j<l.length) (h:0<l[j].asked∨l[j].strikes=3):askS rs d c (l,q) j=(l,q):=by
 unfold askS
 dsimp only
 rw[List.getElem?_eq_getElem hj]
 exact if_pos h
theorem askS_none {rs:List Int} {d:Int} {c:Nat} {l:List Oth} {q:List Snt} {j:Nat} (hj:j<l.length) (h:rareZ l[j].has l rs d c c=none):askS rs d c (l,q) j=(l,q):=by
 unfold askS
 dsimp only
 rw[List.getElem?_eq_getElem hj]
 dsimp only
 split
 ·rfl
 ·rw[h]
theorem askS_some {rs:List Int} {d:Int} {c:Nat} {l:List Oth} {q:List Snt} {j:Nat} {p:Int × Nat} (hj:j<l.length) (h0:¬(0<l[j].asked∨l[j].strikes=3)) (h:rareZ l[j].has l rs d c c=some p):askS rs d c (l,q) j=(l.set j (askedO l[j] p.1),q++[letterA l[j].name p.1]):=by
 unfold askS
 dsimp only
 rw[List.getElem?_eq_getElem hj]
 dsimp only
 rw[if_neg h0,h]
theorem askS_len (rs:List Int) (d:Int) (c:Nat) (st:List Oth × List Snt) (j:Nat):(askS rs d c st j).1.length=st.1.length/\(askS rs d c st j).2.length<=st.2.length+1:=by
 unfold askS
 split
 ·exact⟨rfl,Nat.le_succ _⟩
 ·split
  ·exact⟨rfl,Nat.le_succ _⟩
  ·split
   ·exact⟨rfl,Nat.le_succ _⟩
   ·dsimp only
    rw[List.length_set,List.length_append]
    exact⟨rfl,Nat.le_refl _⟩
theorem rare_mem {h:List Int} {l:List Oth} {rs:List Int}:∀ (xs:List Int) (acc:Option (Int × Nat)) (p:Int × Nat),xs.foldl (rareS h l rs) acc=some p->acc=some p∨p.1∈xs
 |[],_,_,hp=>.inl hp
 |x :: xs,acc,p,hp=>by
  rcases rare_mem xs (rareS h l rs acc x) p hp with hq|hq
  ·unfold rareS at hq
   split at hq
   ·split at hq
    ·cases hq
     exact .inr (List.mem_cons_self ..)
    ·split at hq
     ·cases hq
      exact .inr (List.mem_cons_self ..)
     ·exact .inl hq
   ·exact .inl hq
  ·exact .inr (List.mem_cons_of_mem _ hq)
theorem rare_bd {h:List Int} {l:List Oth} {rs:List Int} {d:Int} {c:Nat} {p:Int × Nat} (hp:rareZ h l rs d c c=some p):0<=p.1/\p.1<(c:Int):=by
 rcases rare_mem _ _ _ hp with hq|hq
 ·cases hq
 ·unfold turnL at hq
  obtain⟨i,hi,e⟩:=List.mem_map.1 hq
  have:=List.mem_range.1 hi
  rw[<-e]
  exact⟨Int.emod_nonneg _ (by omega),Int.emod_lt_of_pos _ (by omega)⟩
end Go.Proofs.YtpddanmnlkcdpaaGreatDoor.Tk


namespace Go.Proofs.YtpddanmnlkcdpaaGreatDoor.Tk
open Go.RowKit
open Kp
open Pe
open Pl
open In (Ints OwnI)
open Ls (lowL blk_alloc countN)
def AskPost (w:World) (gw:Nat) (u:Value) (e z b:Int) (r s:ByteArray) (y:Int) (vo:Value) (mo:List MO) (mr:List MR) (st:List Oth × List Snt) (W w':World):Prop :=
 ∃ vs' mo' ms',WS w w' gw u e z b r s y vo vs' mo' ms' mr/\(Pe.oths mo',snts ms')=st/\(∀ x∈mo',∃ y∈mo,x.1.has=y.1.has)/\KeepY W w'
theorem ask_any (w W:World) (gw:Nat) (u:Value) (e z b:Int) (r s:ByteArray) (y:Int) (go n co:Nat) (vs:Value) (mo:List MO) (ms:List ML) (mr:List MR) (hw:WS w W gw u e z b r s y (.slice (some ⟨go,0,none⟩) n co) vs mo ms mr) (h4:n<=4) (hmr:mr.length<=1048576) (hsm:∀ y∈mo,y.1.has.length<=1048576) (hcn:countN z b r<=1048576)
  (d:Int) (hd:0<=d) (hd2:d<=1048576) (j:Nat) (hj:j<n) (hms:ms.length<=1000000) :
  Calls Tryz.prog 97 #[.pointer (some ⟨gw,0,none⟩),.pointer (some ⟨go,j*5,none⟩),.int .i64 d] W fun q w' =>
   q=.returned (.tuple #[])/\AskPost w gw u e z b r s y (.slice (some ⟨go,0,none⟩) n co) mo mr (askS (idxs mr) d (countN z b r) (Pe.oths mo,snts ms) j) W w':=by
 have HW:=hideK hw
 have HM:=hideK (hw.oths.2)
 have hjl:j<mo.length:=by rw[HM.out];exact hj
 have hjo:j<(Pe.oths mo).length:=by rw[oths_length];exact hjl
 have HGT:Hid ((Pe.oths mo)[j]=mo[j].1):=oths_get mo j hjl
 obtain⟨go',cp,hv,_,hgz,_,hcc⟩:=hw.orow.cells (by omega)
 obtain⟨rfl,rfl⟩:go=go'/\co=cp:=by simp at hv;exact⟨hv.1,hv.2.2⟩
 obtain⟨d0,d1,d2,d3,d4⟩:=hcc j hjl
 obtain⟨ax,cx,hxv,_,hints⟩:=(hw.has mo[j] (List.getElem_mem hjl)).ints
 rw[hxv]at d1
 have HSAME:Hid (∀ w' st,Below W.heap.size W w'->st=(Pe.oths mo,snts ms)->AskPost w gw u e z b r s y (.slice (some ⟨go,0,none⟩) n co) mo mr st W w'):=fun w' st hb hst=>⟨vs,mo,ms,hw.call hb,hst.symm,fun x hx=>⟨x,hx,rfl⟩,KeepY.below hb⟩
 have HNO:Hid (0<mo[j].1.asked∨mo[j].1.strikes=3->askS (idxs mr) d (countN z b r) (Pe.oths mo,snts ms) j=(Pe.oths mo,snts ms)):=fun h=>askS_no hjo (by rw[HGT.out];exact h)
 have HNN:Hid (rareZ mo[j].1.has (Pe.oths mo) (idxs mr) d (countN z b r) (countN z b r)=none->askS (idxs mr) d (countN z b r) (Pe.oths mo,snts ms) j=(Pe.oths mo,snts ms)):=fun h=>askS_none hjo (by rw[HGT.out];exact h)
 have HYE:Hid (∀ p,¬(0<mo[j].1.asked∨mo[j].1.strikes=3)->rareZ mo[j].1.has (Pe.oths mo) (idxs mr) d (countN z b r) (countN z b r)=some p->askS (idxs mr) d (countN z b r) (Pe.oths mo,snts ms) j=((Pe.oths mo).set j (askedO mo[j].1 p.1),snts ms++[letterA mo[j].1.name p.1])):=fun p h0 h=>by
  have:=askS_some (q:=snts ms) (p:=p) hjo (by rw[HGT.out];exact h0) (by rw[HGT.out];exact h)
  rw[this,HGT.out]
 have HRA:=hideK (fun V (hV:Below W.heap.size W V)=>rarest_any w V gw u e z b r s y (some ⟨go,0,none⟩) n co vs mo ms mr (hw.call hV) h4 hmr hsm hcn mo[j].1.name ax _ cx mo[j].1.asked mo[j].1.age mo[j].1.strikes mo[j].1.has ((hints.below hV).mono hV.size) rfl (hsm _ (List.getElem_mem hjl)) d hd hd2)
 have HBA:=hideK (fun V=>banned_any mo[j].1.name ax mo[j].1.has.length cx mo[j].1.asked mo[j].1.age mo[j].1.strikes V)
 have HBD:Hid (∀ p,rareZ mo[j].1.has (Pe.oths mo) (idxs mr) d (countN z b r) (countN z b r)=some p->0<=p.1/\p.1<=1048576):=fun p hp=>by
  have:=rare_bd hp
  omega
 have HPUT:Hid (∀ V,Below W.heap.size W V->∀ x:Int,WS w ((V.setCell ⟨go,j*5+2,none⟩ (.int .i64 (x+1))).setCell ⟨go,j*5+3,none⟩ (.int .i64 0)) gw u e z b r s y (.slice (some ⟨go,0,none⟩) n co) vs (mo.set j (askedO mo[j].1 x,mo[j].2)) ms mr/\KeepY W ((V.setCell ⟨go,j*5+2,none⟩ (.int .i64 (x+1))).setCell ⟨go,j*5+3,none⟩ (.int .i64 0))):=fun V hV x=>by
  have hwv:=hw.call hV
  have R0:V.ownsRow w.heap.size 86 5 (.slice (some ⟨go,0,none⟩) n co) n (cellsO mo):=by have:=hwv.orow;unfold OwnO at this;rw[HM.out]at this;exact this
  obtain⟨cur,hb⟩:=own_blk R0
  refine⟨hwv.put hjl (askedO mo[j].1 x) rfl ?_ (grown_more (grown_set _) _),(KeepY.below hV).trans (KeepY.set hb (grown_more (grown_set _) _))⟩
  rw[cellsO_set2 mo j (askedO mo[j].1 x) hjl rfl rfl]
  exact own_set (own_set R0 _) _
 have HHAS:Hid (∀ x:Int,∀ q∈mo.set j (askedO mo[j].1 x,mo[j].2),∃ y∈mo,q.1.has=y.1.has):=fun x q hq=>by
  rcases List.mem_or_eq_of_mem_set hq with hq|rfl
  ·exact⟨q,hq,rfl⟩
  ·exact⟨mo[j],List.getElem_mem hjl,rfl⟩
 have HOS:Hid (∀ x:Int,Pe.oths (mo.set j (askedO mo[j].1 x,mo[j].2))=(Pe.oths mo).set j (askedO mo[j].1 x)):=fun x=>oths_set mo j _
 have hff:=hw.orow.frozen
 have HJ4:Hid (∀ V,Below W.heap.size W V->V.cell? ⟨go,j*5,none⟩=some (.string mo[j].1.name)/\V.cell? ⟨go,j*5+2,none⟩=some (.int .i64 mo[j].1.asked)/\V.cell? ⟨go,j*5+3,none⟩=some (.int .i64 mo[j].1.age)):=fun V hV=>⟨(hV.cell (p:=⟨go,j*5,none⟩) hgz).trans d0,(hV.cell (p:=⟨go,j*5+2,none⟩) hgz).trans d2,(hV.cell (p:=⟨go,j*5+3,none⟩) hgz).trans d3⟩
 have HFF:Hid (∀ V,Below W.heap.size W V->∀ i,V.frozen? ⟨go,i,none⟩=false):=fun V hV i=>by
  have:=(hw.call hV).orow.frozen
  exact this i
 clear hw hcc hv hxv hints HW
 generalize mo[j].1.name=nm at *
 generalize mo[j].1.asked=q at *
 generalize mo[j].1.age=gg at *
 generalize mo[j].1.strikes=t at *
 by_cases hq:0<q
 ·have HS:=hideK (HSAME.out W _ (Below.refl _ _) (HNO.out (.inl hq)))
  have hqD:decide ((0:Int)<q)=true:=by simp;exact hq
  clear HSAME HNO HNN HYE HRA HBA HBD HPUT HHAS HOS HJ4 HFF
  go_enter Tryz.func97,Tryz.ntmps97
  go_wp2_with fail
  exact bodyPost_ret (results_none rfl _ _ _) rfl ⟨rfl,HS.out⟩
 ·have hqD:decide ((0:Int)<q)=false:=by simp;omega
  go_enter Tryz.func97,Tryz.ntmps97
  by_cases ht:t=3
  ·have ht':(t==3)=true:=beq_iff_eq.2 ht
   have HNX:=hideK (HNO.out (.inr ht))
   rw[ht']at HBA
   clear HNO HNN HYE HRA HBD HPUT HHAS HOS HJ4 HFF ht ht'
   go_wp2_with fail
   refine(HBA.out _).mono ?_
   rintro o1 w1 ⟨rfl,hb⟩
   have HS:=hideK (HSAME.out _ _ hb HNX.out)
   clear hb HBA HSAME
   go_wp2_with fail
   exact bodyPost_ret (results_none rfl _ _ _) rfl ⟨rfl,HS.out⟩
  ·have ht':(t==3)=false:=by simp[ht]
   have HN0:Hid (¬(0<q∨t=3)):=fun h=>h.elim hq ht
   rw[ht']at HBA
   clear HNO ht ht'
   go_wp2_with fail
   refine(HBA.out _).mono ?_
   rintro o1 w1 ⟨rfl,hb⟩
   have HB1:=hideK hb
   have R1:=hideK (HRA.out _ hb)
   have e0:=(hb.cell (p:=⟨go,j*5,none⟩) hgz).trans d0
   have e1:=(hb.cell (p:=⟨go,j*5+1,none⟩) hgz).trans d1
   have e2:=(hb.cell (p:=⟨go,j*5+2,none⟩) hgz).trans d2
   have e3:=(hb.cell (p:=⟨go,j*5+3,none⟩) hgz).trans d3
   have e4:=(hb.cell (p:=⟨go,j*5+4,none⟩) hgz).trans d4
   clear hb HBA HRA d0 d1 d2 d3 d4
   cases hz:rareZ mo[j].1.has (Pe.oths mo) (idxs mr) d (countN z b r) (countN z b r) with
   |none =>
    have HNX:=hideK (HNN.out hz)
    rw[hz]at R1
    simp only[bestZ,Option.isSome]at R1
    clear HNN HYE HBD HPUT HHAS HOS HJ4 HFF hz
    go_wp2_with fail
    refine R1.out.mono ?_
    rintro o2 w2 ⟨rfl,hb⟩
    have HS:=hideK (HSAME.out _ _ (HB1.out.trans (hb.mono HB1.out.size)) HNX.out)
    clear hb R1 HSAME
    go_wp2_with fail
    exact bodyPost_ret (results_none rfl _ _ _) rfl ⟨rfl,HS.out⟩
   |some p =>
    obtain⟨x,qn⟩:=p
    have HYX:=hideK (HYE.out _ HN0.out hz)
    obtain⟨hx0,hx1⟩:=HBD.out _ hz
    rw[hz]at R1
    simp only[bestZ,Option.isSome]at R1
    dsimp only at HYX hx0 hx1
    clear HNN HYE HBD hz HSAME
    go_wp2_with fail
    refine R1.out.mono ?_
    rintro o2 w2 ⟨rfl,hb⟩
    have HB2:=hideK (HB1.out.trans (hb.mono HB1.out.size))
    obtain⟨f0,f2,f3⟩:=HJ4.out _ HB2.out
    have ff:=HFF.out _ HB2.out
    obtain⟨hws,hky⟩:=HPUT.out _ HB2.out x
    have WP:=hideK hws
    have KY:=hideK hky
    have f3':(w2.setCell ⟨go,j*5+2,none⟩ (.int .i64 (x+1))).cell? ⟨go,j*5+3,none⟩=some (.int .i64 gg):=by rw[World.cell?_setCell_other _ _ _ _ (by simp)];exact f3
    have f0':((w2.setCell ⟨go,j*5+2,none⟩ (.int .i64 (x+1))).setCell ⟨go,j*5+3,none⟩ (.int .i64 0)).cell? ⟨go,j*5,none⟩=some (.string nm):=by rw[World.cell?_setCell_other _ _ _ _ (by simp),World.cell?_setCell_other _ _ _ _ (by simp)];exact f0
    have HSD:=hideK (send_any gw w.heap.size ms.length (letterA nm x,.slice none 0 0) u e z b r s y (.slice (some ⟨go,0,none⟩) n co) vs ms _ hws.gwb hws.srow hws.low.size rfl (by omega) ⟨_,_,_,rfl⟩)
    have HNX:=hideK (fun W'=>hws.send (W':=W') (x:=letterA nm x) rfl)
    have HKS:=hideK (fun W' (h:SendPost gw w.heap.size (letterA nm x,.slice none 0 0) u e z b r s y (.slice (some ⟨go,0,none⟩) n co) vs ms _ W')=>hky.trans (KeepY.send h hws.gwb hws.srow))
    have fz2:=ff (j*5+2)
    have fz3:=ff (j*5+3)
    unfold letterA at HSD
    dsimp only at HSD
    clear hb R1 HPUT HJ4 HFF hws hky e0 e1 e2 e3 e4 ff
    go_upto_region 4 with fail
    generalize (w2.setCell ⟨go,j*5+2,none⟩ (.int .i64 (x+1))).setCell ⟨go,j*5+3,none⟩ (.int .i64 0)=W3 at f0' HSD HNX HKS WP KY ⊢
    clear f0 f2 f3 f3' fz2 fz3
    go_wp2_with fail
    refine HSD.out.mono ?_
    rintro o3 w4 ⟨rfl,hsp⟩
    obtain⟨v4,hws4⟩:=HNX.out w4 hsp
    have HFI:Hid (AskPost w gw u e z b r s y (.slice (some ⟨go,0,none⟩) n co) mo mr (askS (idxs mr) d (countN z b r) (Pe.oths mo,snts ms) j) W w4):=by
     refine⟨v4,_,_,hws4,?_,HHAS.out x,HKS.out w4 hsp⟩
     rw[HYX.out,HOS.out]
     unfold snts
     rw[List.map_append]
     rfl
    clear hsp hws4 HNX HSD HKS
    go_wp2_with fail
    refine bodyPost_end (v:=.tuple #[]) (by simp[results,Tryz.results97,go_sem]) rfl ⟨rfl,HFI.out⟩
end Go.Proofs.YtpddanmnlkcdpaaGreatDoor.Tk

