/- Texts put together: PeRight, KpSync. -/
import Derived.Test.YtpddanmnlkcdpaaGreatDoorHz22
import Derived.Lib.QuietBelow
import Derived.BigQuiet
import Derived.Test.YtpddanmnlkcdpaaGreatDoorHz10
set_option maxRecDepth 100000
set_option maxHeartbeats 8000000
namespace Go.Proofs.YtpddanmnlkcdpaaGreatDoor.Pe
open Go.RowKit
open Kp
open In (Ints)
open Go.Proofs.YtpddanmnlkcdpaaGreatDoor.Nm (nameB impl_any)
def ask2 (q g c:Int):Bool:=decide (0<=q/\q<=c/\0<=g/\g<=3/\(0<q∨g=0))
theorem ret_boolP {a b:Bool} (h:a=b):Ending.returned (.bool a)=.returned (.bool b):=by rw[h]
theorem banned_any (nm:ByteArray) (a:Option Addr) (n cap:Nat) (q g t:Int) (w:World) :
  Calls Tryz.prog 90 #[.agg #[.string nm,.slice a n cap,.int .i64 q,.int .i64 g,.int .i64 t]] w fun e w'=>e=.returned (.bool (t==3))/\Below w.heap.size w w':=by
 have C0:=hideK ((Cx.nil w).new (.cells #[.string nm,.slice a n cap,.int .i64 q,.int .i64 g,.int .i64 t] 86))
 go_enter Tryz.func90,Tryz.ntmps90
 go_wp2_with fail
 go_ret
 exact⟨rfl,C0.out.low⟩
theorem rises_impl (a:Option Addr) (n cap:Nat) (l:List Int) (c:Int) (w:World) (h:Ints w w.heap.size a l) (hln:l.length=n) (hn:n<=1048576) :
  Calls Tryz.prog 139 #[.slice a n cap,.int .i64 c] w fun e w'=>e=.returned (.bool (risesB l c))/\w'=w:=by
 have HS:=hideK h
 have HLN:=hideK hln
 clear h hln
 have HNO:Hid (∀ j (hj:j<l.length),¬(aheadZ l j<l[j]/\l[j]<c)->risesB l c=false):=fun j hj h=>risesB_no (rises_bad hj h)
 have HYE:Hid (RisesTo l c l.length->risesB l c=true):=fun h=>risesB_yes h
 generalize risesB l c=R at HNO HYE ⊢
 go_enter Tryz.func139,Tryz.ntmps139
 go_wp2_with fail
 go_loopw [5,10] (fun av jv wr=>∃ j:Nat,jv=.int .i64 j/\av=.int .i64 (aheadZ l j)/\j<=n/\RisesTo l c j/\wr=w) (fun _ jv _=>n-(intOf jv).toNat)
 case atStart=>exact⟨0,rfl,rfl,Nat.zero_le _,rises_zero _ _,rfl⟩
 case round =>
  obtain⟨j,rfl,rfl,hj,hr,hw⟩:=hrel
  subst hw
  have HR:=hideK hr
  clear hr
  by_cases hlt:j<n
  ·have hlt':(j:Int)<(n:Int):=by omega
   have hjl:j<l.length:=by rw[HLN.out];exact hlt
   obtain⟨b,off,rfl,hb,hc⟩:=HS.out.some (by omega)
   have ci:=hc j hjl
   have HNX:=hideK (aheadZ_next l j hjl)
   have HB:=hideK (HNO.out j hjl)
   have HST:Hid (aheadZ l j<l[j]->l[j]<c->RisesTo l c (j+1)):=fun h1 h2=>rises_step hjl HR.out h1 h2
   generalize l[j]=x at ci HNX HB HST
   generalize aheadZ l j=av at HB HST ⊢
   clear hc hjl
   by_cases h1:x<=av
   ·have HF:=hideK (HB.out (by omega))
    go_wp2_with fail
    go_ret
    exact⟨ret_boolP HF.out.symm,rfl⟩
   ·by_cases h2:c<=x
    ·have HF:=hideK (HB.out (by omega))
     go_wp2_with fail
     go_ret
     exact⟨ret_boolP HF.out.symm,rfl⟩
    ·have HG:=hideK (HST.out (by omega) (by omega))
     go_wp2_with fail
     go_roundw
     case rel=>exact⟨j+1,by go_num,by rw[HNX.out],by omega,HG.out,by trivial⟩
     case measure=>simp[intOf];omega
  ·have HG:=hideK (HYE.out (by have:=HR.out;rwa[show l.length=j by have:=HLN.out;omega]))
   go_wp2_with fail
   go_ret
   exact⟨ret_boolP HG.out.symm,rfl⟩
theorem asked_any (nm:ByteArray) (a:Option Addr) (n cap:Nat) (q g t c:Int) (w:World) :
  Calls Tryz.prog 140 #[.agg #[.string nm,.slice a n cap,.int .i64 q,.int .i64 g,.int .i64 t],.int .i64 c] w fun e w'=>e=.returned (.bool (ask2 q g c))/\Below w.heap.size w w':=by
 have C0:=hideK ((Cx.nil w).new (.cells #[.string nm,.slice a n cap,.int .i64 q,.int .i64 g,.int .i64 t] 86))
 by_cases h0:q<0
 ·have HE:Hid (ask2 q g c=false):=by unfold Hid ask2;exact decide_eq_false (by omega)
  go_enter Tryz.func140,Tryz.ntmps140
  go_wp2_with fail
  go_ret
  exact⟨ret_boolP HE.out.symm,C0.out.low⟩
 ·skip
  by_cases h1:c<q
  ·have HE:Hid (ask2 q g c=false):=by unfold Hid ask2;exact decide_eq_false (by omega)
   go_enter Tryz.func140,Tryz.ntmps140
   go_wp2_with fail
   go_ret
   exact⟨ret_boolP HE.out.symm,C0.out.low⟩
  ·skip
   by_cases h2:g<0
   ·have HE:Hid (ask2 q g c=false):=by unfold Hid ask2;exact decide_eq_false (by omega)
    go_enter Tryz.func140,Tryz.ntmps140
    go_wp2_with fail
    go_ret
    exact⟨ret_boolP HE.out.symm,C0.out.low⟩
   ·skip
    by_cases h3:3<g
    ·have HE:Hid (ask2 q g c=false):=by unfold Hid ask2;exact decide_eq_false (by omega)
     go_enter Tryz.func140,Tryz.ntmps140
     go_wp2_with fail
     go_ret
     exact⟨ret_boolP HE.out.symm,C0.out.low⟩
    ·skip
     by_cases h4:0<q
     ·have HE:Hid (ask2 q g c=true):=by unfold Hid ask2;exact decide_eq_true (by omega)
      go_enter Tryz.func140,Tryz.ntmps140
      go_wp2_with fail
      go_ret
      exact⟨ret_boolP HE.out.symm,C0.out.low⟩
     ·by_cases h5:g=0
      ·subst h5
       have HE:Hid (ask2 q 0 c=true):=by unfold Hid ask2;exact decide_eq_true (by omega)
       go_enter Tryz.func140,Tryz.ntmps140
       go_wp2_with fail
       go_ret
       exact⟨ret_boolP HE.out.symm,C0.out.low⟩
      ·have HE:Hid (ask2 q g c=false):=by unfold Hid ask2;exact decide_eq_false (by omega)
       have h5':(g==0)=false:=beq_eq_false_iff_ne.2 h5
       go_enter Tryz.func140,Tryz.ntmps140
       go_wp2_with fail
       go_ret
       exact⟨ret_boolP HE.out.symm,C0.out.low⟩
theorem oth_eq (x:Oth) (c:Int):othB x c=(nameB x.name && risesB x.has c && ask2 x.asked x.age c && decide (0<=x.strikes/\x.strikes<=3) && (!(x.strikes==3) || (decide (x.has.length=0) && decide (x.asked=0)))):=rfl
theorem other_run (nm:ByteArray) (a:Option Addr) (n cap:Nat) (l:List Int) (q g t c:Int) (w:World) (h:Ints w w.heap.size a l) (hln:l.length=n) (hn:n<=1048576) (hnm:nm.size<=maxLen) (N R K Q:Bool)
  (hN:nameB nm=N) (hR:risesB l c=R) (hK:ask2 q g c=K) (hQ:(N && R && K && decide (0<=t/\t<=3) && (!(t==3) || (decide (l.length=0) && decide (q=0))))=Q) :
  Calls Tryz.prog 111 #[.agg #[.string nm,.slice a n cap,.int .i64 q,.int .i64 g,.int .i64 t],.int .i64 c] w fun e w'=>e=.returned (.bool Q)/\Below w.heap.size w w':=by
 have C0:=hideK ((Cx.nil w).new (.cells #[.string nm,.slice a n cap,.int .i64 q,.int .i64 g,.int .i64 t] 86))
 have HNM:=hideK (fun W=>impl_any nm W hnm)
 have HRI:=hideK (fun W (hW:Below w.heap.size w W)=>rises_impl a n cap l c W ((h.below hW).mono hW.size) hln hn)
 have HAS:=hideK (fun W=>asked_any nm a n cap q g t c W)
 have HBA:=hideK (fun W=>banned_any nm a n cap q g t W)
 rw[hN]at HNM
 rw[hR]at HRI
 rw[hK]at HAS
 rw[hln]at hQ
 clear h hnm hN hR hK
 cases N with
 |false =>
  have HQ:Hid (Q=false):=by unfold Hid;rw[<-hQ];rfl
  clear hQ
  go_enter Tryz.func111,Tryz.ntmps111
  go_wp2_with fail
  refine(HNM.out _).mono ?_
  rintro e w1 ⟨rfl,hw⟩
  subst hw
  go_wp2_with fail
  go_ret
  exact⟨ret_boolP HQ.out.symm,C0.out.low⟩
 |true =>
 cases R with
 |false =>
  have HQ:Hid (Q=false):=by unfold Hid;rw[<-hQ];rfl
  clear hQ
  go_enter Tryz.func111,Tryz.ntmps111
  go_wp2_with fail
  refine(HNM.out _).mono ?_
  rintro e w1 ⟨rfl,hw⟩
  subst hw
  go_wp2_with fail
  refine(HRI.out _ C0.out.low).mono ?_
  rintro e w1 ⟨rfl,hw⟩
  subst hw
  go_wp2_with fail
  go_ret
  exact⟨ret_boolP HQ.out.symm,C0.out.low⟩
 |true =>
 cases K with
 |false =>
  have HQ:Hid (Q=false):=by unfold Hid;rw[<-hQ];rfl
  clear hQ
  go_enter Tryz.func111,Tryz.ntmps111
  go_wp2_with fail
  refine(HNM.out _).mono ?_
  rintro e w1 ⟨rfl,hw⟩
  subst hw
  go_wp2_with fail
  refine(HRI.out _ C0.out.low).mono ?_
  rintro e w1 ⟨rfl,hw⟩
  subst hw
  go_wp2_with fail
  refine(HAS.out _).mono ?_
  rintro e w2 ⟨rfl,hb⟩
  have C1:=hideK (C0.out.call hb)
  clear hb
  go_wp2_with fail
  go_ret
  exact⟨ret_boolP HQ.out.symm,C1.out.low⟩
 |true =>
  have hQ2:(decide (0<=t/\t<=3) && (!(t==3) || (decide (n=0) && decide (q=0))))=Q:=by rw[<-hQ];rfl
  clear hQ
  have HQQ:=hideK hQ2
  clear hQ2
  go_enter Tryz.func111,Tryz.ntmps111
  go_wp2_with fail
  refine(HNM.out _).mono ?_
  rintro e w1 ⟨rfl,hw⟩
  subst hw
  go_wp2_with fail
  refine(HRI.out _ C0.out.low).mono ?_
  rintro e w1 ⟨rfl,hw⟩
  subst hw
  go_wp2_with fail
  refine(HAS.out _).mono ?_
  rintro e w2 ⟨rfl,hb⟩
  have C1:=hideK (C0.out.call hb)
  clear hb C0
  obtain⟨k0,k1,k2,k3,k4⟩:=cells5 (C1.out.get 0 rfl)
  by_cases h1:t<0
  ·have HQ:Hid (Q=false):=by unfold Hid;rw[<-HQQ.out,decide_eq_false (by omega)];rfl
   go_wp2_with fail
   go_ret
   exact⟨ret_boolP HQ.out.symm,C1.out.low⟩
  ·by_cases h2:3<t
   ·have HQ:Hid (Q=false):=by unfold Hid;rw[<-HQQ.out,decide_eq_false (by omega)];rfl
    go_wp2_with fail
    go_ret
    exact⟨ret_boolP HQ.out.symm,C1.out.low⟩
   ·go_wp2_with fail
    refine(HBA.out _).mono ?_
    rintro e w3 ⟨rfl,hb⟩
    have C2:=hideK (C1.out.call hb)
    clear hb C1 k0 k1 k2 k3 k4
    obtain⟨k0,k1,k2,k3,k4⟩:=cells5 (C2.out.get 0 rfl)
    by_cases h3:t=3
    ·have h3':(t==3)=true:=beq_iff_eq.2 h3
     by_cases h4:n=0
     ·have h4':((n:Int)==0)=true:=beq_iff_eq.2 (by omega)
      have HQ:Hid (Q=(q==0)):=by
       unfold Hid
       rw[<-HQQ.out,h3',decide_eq_true (by omega),decide_eq_true h4]
       by_cases hq:q=0
       ·simp[hq]
       ·simp[hq]
      rw[h3']
      clear h3' h3
      go_wp2_with fail
      go_ret
      exact⟨ret_boolP HQ.out.symm,C2.out.low⟩
     ·have h4':((n:Int)==0)=false:=beq_eq_false_iff_ne.2 (by omega)
      have HQ:Hid (Q=false):=by unfold Hid;rw[<-HQQ.out,h3',decide_eq_false h4];simp
      rw[h3']
      clear h3' h3
      go_wp2_with fail
      go_ret
      exact⟨ret_boolP HQ.out.symm,C2.out.low⟩
    ·have h3':(t==3)=false:=beq_eq_false_iff_ne.2 h3
     have HQ:Hid (Q=true):=by unfold Hid;rw[<-HQQ.out,h3',decide_eq_true (by omega)];rfl
     rw[h3']
     clear h3'
     go_wp2_with fail
     go_ret
     exact⟨ret_boolP HQ.out.symm,C2.out.low⟩
theorem other_any (x:MO) (c:Int) (w:World) (h:HasAt w w.heap.size x) (hn:x.1.has.length<=1048576) (hnm:x.1.name.size<=maxLen) :
  Calls Tryz.prog 111 #[othV x,.int .i64 c] w fun e w'=>e=.returned (.bool (othB x.1 c))/\Below w.heap.size w w':=by
 obtain⟨a,cap,hv,_,_,hi⟩:=h
 unfold othV
 rw[hv]
 exact other_run x.1.name a _ cap x.1.has _ _ _ c w hi rfl hn hnm _ _ _ _ rfl rfl rfl (oth_eq x.1 c).symm
end Go.Proofs.YtpddanmnlkcdpaaGreatDoor.Pe


namespace Go.Proofs.YtpddanmnlkcdpaaGreatDoor.Kp
open Go.RowKit
open Ls (blkL lowL)
def spanB (s:ByteArray) (y:Int):Bool:=decide (0<=y) && decide (y<=s.size)
theorem synced_any (z b:Int) (r s:ByteArray) (y:Int) (w:World) :
  Calls Tryz.prog 110 #[kV z b r s y] w fun e w'=>e=.returned (.bool (spanB s y))/\Below w.heap.size w w':=by
 have HB:Hid (Below w.heap.size w (w.alloc (kB z b r s y))):=(Below.refl _ _).alloc (Nat.le_refl _) _
 unfold kV
 unfold kB at HB
 by_cases h0:0<=y
 ·have HM:Hid (spanB s y=decide (y<=((s.size:Nat):Int))):=by unfold Hid spanB;rw[decide_eq_true h0,Bool.true_and]
  rw[HM.out]
  go_enter Tryz.func110,Tryz.ntmps110
  go_wp2_with fail
  go_ret
  exact⟨rfl,HB.out⟩
 ·have HM:Hid (spanB s y=false):=by unfold Hid spanB;rw[decide_eq_false h0,Bool.false_and]
  rw[HM.out]
  have h0':decide (0<=y)=false:=decide_eq_false h0
  go_enter Tryz.func110,Tryz.ntmps110
  go_wp2_with fail
  go_ret
  exact⟨rfl,HB.out⟩
theorem cutKeep_any (z b:Int) (r s:ByteArray) (y:Int) (e:Nat) (w:World) (hs:s.size<=1048576) (he:e<=s.size) :
  Calls Tryz.prog 206 #[kV z b r s y,.int .i64 e] w fun q w'=>q=.returned (kV z b r (s.extract 0 e) e)/\Below w.heap.size w w':=by
 have HC:Hid (∀ W,Calls Tryz.prog 170 #[.string s,.int .i64 0,.int .i64 e] W fun q w'=>q=.returned (.string (s.extract 0 e))/\Below W.heap.size W w'):=fun W=>Nu.cut_any s 0 e W hs (Nat.zero_le _) he
 have C0:=hideK (((Cx.nil w).new (kB z b r s y)).new kZ)
 simp only[World.size_alloc]at C0
 unfold kV
 unfold kB kZ at C0
 generalize s.extract 0 e=t at HC ⊢
 go_enter Tryz.func206,Tryz.ntmps206
 go_upto_region 1 with fail
 generalize (w.alloc _).alloc _=W0 at C0 ⊢
 generalize hgk:w.heap.size=gk at C0 ⊢
 have HGK:=hideK hgk
 clear hgk
 have CX:Hid (∀ W,Below W0.heap.size W0 W->W.cell? ⟨gk,0,none⟩=some (.int .i64 z)/\W.cell? ⟨gk,1,none⟩=some (.int .i64 b)/\W.cell? ⟨gk,2,none⟩=some (.string r)/\W.cell? ⟨gk,3,none⟩=some (.string s)):=fun W h=>by
  obtain⟨h0,h1,h2,h3,_⟩:=k_cells (blkL (C0.out.get 1 rfl) h)
  exact⟨h0,h1,h2,h3⟩
 have CR:Hid (∀ W,Below W0.heap.size W0 W->(W.cell? ⟨gk+1,0,none⟩=some (.int .i64 0)/\W.cell? ⟨gk+1,1,none⟩=some (.int .i64 0)/\W.cell? ⟨gk+1,2,none⟩=some (.string ⟨#[]⟩)/\W.cell? ⟨gk+1,3,none⟩=some (.string ⟨#[]⟩)/\W.cell? ⟨gk+1,4,none⟩=some (.int .i64 0))/\W.frozen? ⟨gk+1,0,none⟩=false/\W.frozen? ⟨gk+1,1,none⟩=false/\W.frozen? ⟨gk+1,2,none⟩=false/\W.frozen? ⟨gk+1,3,none⟩=false/\W.frozen? ⟨gk+1,4,none⟩=false):=fun W h=>five_of (blkL (C0.out.get 0 rfl) h)
 have K0:Hid (Below W0.heap.size W0 W0.drew):=(Below.refl _ _).drew
 have HFIN:Hid (∀ W,Below W0.heap.size W0 W->Below w.heap.size w (((((W.setCell ⟨gk+1,0,none⟩ (.int .i64 z)).setCell ⟨gk+1,1,none⟩ (.int .i64 b)).setCell ⟨gk+1,2,none⟩ (.string r)).setCell ⟨gk+1,3,none⟩ (.string t)).setCell ⟨gk+1,4,none⟩ (.int .i64 e))/\(((((W.setCell ⟨gk+1,0,none⟩ (.int .i64 z)).setCell ⟨gk+1,1,none⟩ (.int .i64 b)).setCell ⟨gk+1,2,none⟩ (.string r)).setCell ⟨gk+1,3,none⟩ (.string t)).setCell ⟨gk+1,4,none⟩ (.int .i64 e)).heap[gk+1]? = some (.cells #[.int .i64 z,.int .i64 b,.string r,.string t,.int .i64 e] 32 (0,0))):=fun W h =>
  ⟨set5_low (lowL C0.out.low h) (by have:=HGK.out;omega) _ _ _ _ _,set5 (blkL (C0.out.get 0 rfl) h) _ _ _ _ _⟩
 clear C0
 obtain⟨k0,k1,k2,k3⟩:=CX.out _ (Below.refl _ _)
 go_region_with (go_at_call 170;(with_reducible refine(HC.out _).mono ?_);rintro q v1 ⟨rfl,hb⟩;have K1:=hideK (lowL K0.out hb);obtain⟨m0,m1,m2,m3⟩:=CX.out _ K1.out;obtain⟨⟨n0,n1,n2,n3,n4⟩,f0,f1,f2,f3,f4⟩:=CR.out _ K1.out;clear hb)
 all_goals (try go_wp2_with fail)
 all_goals (
  obtain⟨HF1,HF2⟩:=HFIN.out _ K1.out
  have s5:=cells5 HF2
  exact bodyPost_ret (v:=.agg #[.int .i64 z,.int .i64 b,.string r,.string t,.int .i64 e]) (by simp[results,Tryz.results206,go_sem,s5.1,s5.2.1,s5.2.2.1,s5.2.2.2.1,s5.2.2.2.2]) rfl ⟨rfl,HF1⟩)
end Go.Proofs.YtpddanmnlkcdpaaGreatDoor.Kp

