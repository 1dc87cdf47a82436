/- Texts put together: PqOther, PqRight, KhSpec, PmOpenS. -/
import Derived.Test.YtpddanmnlkcdpaaGreatDoorTz31
import Derived.Test.YtpddanmnlkcdpaaGreatDoorTz36
import Derived.Test.YtpddanmnlkcdpaaGreatDoorTz37
import Derived.Test.YtpddanmnlkcdpaaGreatDoorTz40
import Derived.Test.YtpddanmnlkcdpaaGreatDoorTz47
import Derived.Test.YtpddanmnlkcdpaaGreatDoorTz39
import Derived.Test.YtpddanmnlkcdpaaGreatDoorTz34
import Derived.Test.YtpddanmnlkcdpaaGreatDoorTz44
import Derived.Test.YtpddanmnlkcdpaaGreatDoorTz33
set_option maxRecDepth 100000
set_option maxHeartbeats 8000000
namespace Go.Proofs.YtpddanmnlkcdpaaGreatDoor.Pe
open Go.RowKit
open Kp
open In (Ints)
open Ls (lowL)
open Go.Proofs.YtpddanmnlkcdpaaGreatDoor.Nm (nameB)
def isB (x a b:Int):Bool:=decide (a<=x/\x<=b)
theorem isq_any (x a b:Int) (w:World):Calls Tryz.prog 53 #[.int .i64 x,.int .i64 a,.int .i64 b] w fun e w'=>e=.returned (.bool (isB x a b))/\Below w.heap.size w w':=by
 by_cases h1:a<=x
 ·by_cases h2:x<=b
  ·have HE:Hid (isB x a b=true):=decide_eq_true ⟨h1,h2⟩
   go_enter Tryz.func53,Tryz.ntmps53
   go_wp2_with fail
   go_ret
   exact⟨ret_boolP HE.out.symm,Below.refl _ _⟩
  ·have HE:Hid (isB x a b=false):=decide_eq_false (fun h=>h2 h.2)
   go_enter Tryz.func53,Tryz.ntmps53
   go_wp2_with fail
   go_ret
   exact⟨ret_boolP HE.out.symm,Below.refl _ _⟩
 ·have HE:Hid (isB x a b=false):=decide_eq_false (fun h=>h1 h.1)
  go_enter Tryz.func53,Tryz.ntmps53
  go_wp2_with fail
  go_ret
  exact⟨ret_boolP HE.out.symm,Below.refl _ _⟩
theorem ask2_of {q g c:Int}:ask2 q g c=(isB q 0 c && isB g 0 3 && !((q==0) && !(g==0))):=by
 unfold ask2 isB
 by_cases h1:0<=q/\q<=c
 ·by_cases h2:0<=g/\g<=3
  ·by_cases h3:q=0
   ·by_cases h4:g=0
    ·rw[decide_eq_true (by omega),decide_eq_true h1,decide_eq_true h2,beq_iff_eq.2 h3,beq_iff_eq.2 h4];rfl
    ·rw[decide_eq_false (by omega),decide_eq_true h1,decide_eq_true h2,beq_iff_eq.2 h3,beq_eq_false_iff_ne.2 h4];rfl
   ·rw[decide_eq_true (by omega),decide_eq_true h1,decide_eq_true h2,beq_eq_false_iff_ne.2 h3];rfl
  ·rw[decide_eq_false (by omega),decide_eq_false h2,Bool.and_false,Bool.false_and]
 ·rw[decide_eq_false (by omega),decide_eq_false h1,Bool.false_and,Bool.false_and]
theorem other_specrun (nm:ByteArray) (a:Option Addr) (n cap:Nat) (l:List Int) (q g t c:Int) (w:World) (h:Ints w w.heap.size a l) (hln:l.length=n) (hn:n<=1048576) (hnm:nm.size<=maxLen) (hc0:0<=c) (hc1:c<=64) (N Q:Bool) (hN:nameB nm=N)
  (hQ:(N && risesB l c && (isB q 0 c && isB g 0 3 && !((q==0) && !(g==0))) && isB t 0 3 && (!(t==3) || (decide (l.length=0) && decide (q=0))))=Q) :
  Calls Tryz.prog 60 #[.agg #[.string nm,.slice a n cap,.int .i64 q,.int .i64 g,.int .i64 t],.int .i64 c] w fun e w'=>e=.returned (.bool Q)/\Below w.heap.size w w':=by
 have C0:=hideK ((Cx.nil w).new (.cells #[.string nm,.slice a n cap,.int .i64 q,.int .i64 g,.int .i64 t] 86))
 have HNM:=hideK (fun W=>Nm.spec_any nm W hnm)
 rw[hN]at HNM
 have HS:=hideK h
 have HLN:=hideK hln
 have HNO:Hid (∀ j (hj:j<l.length),¬(0<=l[j]/\l[j]<c/\(0<j->l.getD (j-1) 0<l[j]))->Q=false):=fun j hj h=>by rw[<-hQ,risesB_no (rises_bad2 hj h),Bool.and_false,Bool.false_and,Bool.false_and,Bool.false_and]
 have HYE:Hid (RisesTo l c l.length->(N && (isB q 0 c && isB g 0 3 && !((q==0) && !(g==0))) && isB t 0 3 && (!(t==3) || (decide (l.length=0) && decide (q=0))))=Q):=fun h=>by rw[<-hQ,risesB_yes h,Bool.and_true]
 have hmx:=mixedK
 clear h hln hnm hN hQ
 go_enter Tryz.func60,Tryz.ntmps60
 go_wp2_with fail
 go_loopw [5] (fun jv wr=>∃ j:Nat,jv=.int .i64 j/\j<=n/\RisesTo l c j/\Cx w wr [(w.heap.size,(.cells #[.string nm,.slice a n cap,.int .i64 q,.int .i64 g,.int .i64 t] 86))]) (fun jv _=>n-(intOf jv).toNat)
 case atStart=>exact⟨0,rfl,Nat.zero_le _,rises_zero _ _,C0.out⟩
 case round =>
  obtain⟨j,rfl,hj,hr,hcx⟩:=hrel
  have HR:=hideK hr
  have C1:=hideK hcx
  clear hr hcx C0
  obtain⟨q0,q1,q2,q3,q4⟩:=cells5 (C1.out.get 0 rfl)
  by_cases hlt:j<n
  ·have hlt':(j:Int)<(n:Int):=by omega
   have hjl:j<l.length:=by rw[HLN.out];exact hlt
   obtain⟨b,off,rfl,hb,hc⟩:=HS.out.some (by omega)
   have cx:=(C1.out.low.cell (p:=⟨b,off+j,none⟩) hb).trans (hc j hjl)
   have HB:=hideK (HNO.out j hjl)
   have HST:Hid (0<=l[j]->l[j]<c->(0<j->l.getD (j-1) 0<l[j])->RisesTo l c (j+1)):=fun h0 h1 h2=>rises_step2 hjl HR.out h0 h1 h2
   have HPV:Hid (∀ j' (_:j=j' + 1),∃ p:Int,wr.cell? ⟨b,off+j',none⟩=some (.int .i64 p)/\l.getD (j-1) 0=p):=fun j' e=>by
    subst e
    exact⟨l[j']'(by omega),(C1.out.low.cell (p:=⟨b,off+j',none⟩) hb).trans (hc j' (by omega)),by rw[Nat.add_sub_cancel,List.getD_eq_getElem?_getD,List.getElem?_eq_getElem (by omega)];rfl⟩
   have HIS:=hideK (fun W=>isq_any l[j] 0 (c-1) W)
   have HIY:Hid (isB l[j] 0 (c-1)=true->0<=l[j]/\l[j]<c):=fun h=>by unfold isB at h;have:=of_decide_eq_true h;omega
   have HIN:Hid (isB l[j] 0 (c-1)=false->¬(0<=l[j]/\l[j]<c)):=fun h=>by unfold isB at h;have:=of_decide_eq_false h;omega
   have hwr:IntKind.i64.wrap (c-1)=c-1:=by rw[IntKind.wrap_i64];omega
   generalize isB l[j] 0 (c-1)=I at HIS HIY HIN
   generalize l[j]=x at cx HB HST HIS HIY HIN
   clear hc hjl
   have r0:=fun d os=>cell_regrown q0 d os
   have r1:=fun d os=>cell_regrown q1 d os
   have r2:=fun d os=>cell_regrown q2 d os
   have r3:=fun d os=>cell_regrown q3 d os
   have r4:=fun d os=>cell_regrown q4 d os
   have rx:=fun d os=>cell_regrown cx d os
   cases I with
   |false =>
    have HE:=hideK (HB.out (fun hh=>HIN.out rfl ⟨hh.1,hh.2.1⟩))
    clear HIY HIN HST HB
    go_wp2_with fail
    refine wp_region_quiet_below (by assumption) (by kernel_rfl) ?_
    repeat (go_big_quiet_step ((go_at_call 53;exact Calls.regrown_of (HIS.out _))))
    refine wpQuiet_nil ?_
    intro _ hw'
    obtain⟨⟨dq,osq⟩,hw''⟩:=hw'
    subst hw''
    have C2:=hideK (C1.out.call (below_regrown wr dq osq))
    generalize Go.Sort.grow (redrawn wr dq) osq=w8 at C2 ⊢
    clear r0 r1 r2 r3 r4 rx q0 q1 q2 q3 q4 cx
    go_wp2_with fail
    go_ret
    exact⟨ret_boolP HE.out.symm,C2.out.low⟩
   |true =>
    have HI:=hideK (HIY.out rfl)
    clear HIY HIN
    rcases Nat.eq_zero_or_pos j with h0|h0
    ·subst h0
     rw[Nat.add_zero]at cx
     clear rx
     have rx:=fun d os=>cell_regrown cx d os
     have HNX:=hideK (HST.out HI.out.1 HI.out.2 (fun h=>by omega))
     have hd:decide ((0:Int)<((0:Nat):Int))=false:=by simp
     clear HB HST
     go_wp2_with fail
     refine wp_region_quiet_below (by assumption) (by kernel_rfl) ?_
     repeat (go_big_quiet_step ((go_at_call 53;exact Calls.regrown_of (HIS.out _))))
     refine wpQuiet_nil ?_
     intro _ hw'
     obtain⟨⟨dq,osq⟩,hw''⟩:=hw'
     subst hw''
     have C2:=hideK (C1.out.call (below_regrown wr dq osq))
     generalize Go.Sort.grow (redrawn wr dq) osq=w8 at C2 ⊢
     clear r0 r1 r2 r3 r4 rx q0 q1 q2 q3 q4 cx
     go_wp2_with fail
     go_roundw
     case rel=>exact⟨1,by go_num,by omega,HNX.out,C2.out⟩
     case measure=>simp[intOf];omega
    ·obtain⟨j',rfl⟩:∃ j',j=j' + 1:=⟨j-1,by omega⟩
     obtain⟨p,hcp,hpe⟩:=HPV.out j' rfl
     rw[hpe]at HB HST
     clear hpe
     have rp:=fun d os=>cell_regrown hcp d os
     have hd:decide ((0:Int)<((j' + 1:Nat):Int))=true:=decide_eq_true (by omega)
     have hj3:(j':Int)<(n:Int):=by omega
     by_cases hge:x<=p
     ·have HE:=hideK (HB.out (fun hh=>by have:=hh.2.2 (by omega);omega))
      have hge':decide (x<=p)=true:=decide_eq_true hge
      clear HB HST
      go_wp2_with fail
      refine wp_region_quiet_below (by assumption) (by kernel_rfl) ?_
      repeat (go_big_quiet_step ((go_at_call 53;exact Calls.regrown_of (HIS.out _))))
      refine wpQuiet_nil ?_
      intro _ hw'
      obtain⟨⟨dq,osq⟩,hw''⟩:=hw'
      subst hw''
      have C2:=hideK (C1.out.call (below_regrown wr dq osq))
      generalize Go.Sort.grow (redrawn wr dq) osq=w8 at C2 ⊢
      clear r0 r1 r2 r3 r4 rx q0 q1 q2 q3 q4 cx
      clear rp hcp
      go_wp2_with fail
      go_ret
      exact⟨ret_boolP HE.out.symm,C2.out.low⟩
     ·have HNX:=hideK (HST.out HI.out.1 HI.out.2 (fun _=>by omega))
      have hge':decide (x<=p)=false:=decide_eq_false hge
      clear HB HST
      go_wp2_with fail
      refine wp_region_quiet_below (by assumption) (by kernel_rfl) ?_
      repeat (go_big_quiet_step ((go_at_call 53;exact Calls.regrown_of (HIS.out _))))
      refine wpQuiet_nil ?_
      intro _ hw'
      obtain⟨⟨dq,osq⟩,hw''⟩:=hw'
      subst hw''
      have C2:=hideK (C1.out.call (below_regrown wr dq osq))
      generalize Go.Sort.grow (redrawn wr dq) osq=w8 at C2 ⊢
      clear r0 r1 r2 r3 r4 rx q0 q1 q2 q3 q4 cx
      clear rp hcp
      go_wp2_with fail
      go_roundw
      case rel=>exact⟨j' + 1+1,by go_num,by omega,HNX.out,C2.out⟩
      case measure=>simp[intOf];omega
  ·have HQ1:=hideK (HYE.out (by have:=HR.out;rwa[show l.length=j by have:=HLN.out;omega]))
   rw[HLN.out]at HQ1
   have hltD:decide ((j:Int)<(n:Int))=false:=by simp;omega
   have hlt2:¬((j:Int)<(n:Int)):=by omega
   have HI1:=hideK (fun W=>isq_any q 0 c W)
   have HI2:=hideK (fun W=>isq_any g 0 3 W)
   have HI3:=hideK (fun W=>isq_any t 0 3 W)
   have HT3:Hid (isB t 0 3=true->¬t<3->t=3):=fun h h2=>by unfold isB at h;have:=of_decide_eq_true h;omega
   generalize isB q 0 c=A1 at HI1 HQ1
   generalize isB g 0 3=A2 at HI2 HQ1
   generalize isB t 0 3=A3 at HI3 HQ1 HT3
   clear HNO HYE HR
   cases N with
   |false =>
    have HE:Hid (Q=false):=by unfold Hid;rw[<-HQ1.out];rfl
    go_wp2_with fail
    refine(HNM.out _).mono ?_
    rintro e w1 ⟨rfl,hw⟩
    subst hw
    go_wp2_with fail
    go_ret
    exact⟨ret_boolP HE.out.symm,C1.out.low⟩
   |true =>
   cases A1 with
   |false =>
    have HE:Hid (Q=false):=by unfold Hid;rw[<-HQ1.out];rfl
    go_wp2_with fail
    refine(HNM.out _).mono ?_
    rintro e w1 ⟨rfl,hw⟩
    subst hw
    go_wp2_with fail
    refine(HI1.out _).mono ?_
    rintro e w2 ⟨rfl,hb⟩
    have C2:=hideK (C1.out.call hb)
    clear hb C1 q0 q1 q2 q3 q4
    obtain⟨q0,q1,q2,q3,q4⟩:=cells5 (C2.out.get 0 rfl)
    go_wp2_with fail
    go_ret
    exact⟨ret_boolP HE.out.symm,C2.out.low⟩
   |true =>
   cases A2 with
   |false =>
    have HE:Hid (Q=false):=by unfold Hid;rw[<-HQ1.out];rfl
    go_wp2_with fail
    refine(HNM.out _).mono ?_
    rintro e w1 ⟨rfl,hw⟩
    subst hw
    go_wp2_with fail
    refine(HI1.out _).mono ?_
    rintro e w2 ⟨rfl,hb⟩
    have C2:=hideK (C1.out.call hb)
    clear hb C1 q0 q1 q2 q3 q4
    obtain⟨q0,q1,q2,q3,q4⟩:=cells5 (C2.out.get 0 rfl)
    go_wp2_with fail
    refine(HI2.out _).mono ?_
    rintro e w3 ⟨rfl,hb⟩
    have C3:=hideK (C2.out.call hb)
    clear hb C2 q0 q1 q2 q3 q4
    obtain⟨q0,q1,q2,q3,q4⟩:=cells5 (C3.out.get 0 rfl)
    go_wp2_with fail
    go_ret
    exact⟨ret_boolP HE.out.symm,C3.out.low⟩
   |true =>
   by_cases hz:q=0/\¬g=0
   ·have HE:Hid (Q=false):=by unfold Hid;rw[<-HQ1.out,beq_iff_eq.2 hz.1,beq_eq_false_iff_ne.2 hz.2];rfl
    have hz1:(q==0)=true:=beq_iff_eq.2 hz.1
    have hz2:(g != 0)=true:=by simpa using hz.2
    clear hz
    go_wp2_with fail
    refine(HNM.out _).mono ?_
    rintro e w1 ⟨rfl,hw⟩
    subst hw
    go_wp2_with fail
    refine(HI1.out _).mono ?_
    rintro e w2 ⟨rfl,hb⟩
    have C2:=hideK (C1.out.call hb)
    clear hb C1 q0 q1 q2 q3 q4
    obtain⟨q0,q1,q2,q3,q4⟩:=cells5 (C2.out.get 0 rfl)
    go_wp2_with fail
    refine(HI2.out _).mono ?_
    rintro e w3 ⟨rfl,hb⟩
    have C3:=hideK (C2.out.call hb)
    clear hb C2 q0 q1 q2 q3 q4
    obtain⟨q0,q1,q2,q3,q4⟩:=cells5 (C3.out.get 0 rfl)
    go_wp2_with fail
    go_ret
    exact⟨ret_boolP HE.out.symm,C3.out.low⟩
   ·have hzz:((q==0) && !(g==0))=false:=by
     by_cases h1:q=0
     ·have h2:g=0:=by
       by_cases h3:g=0
       ·exact h3
       ·exact absurd ⟨h1,h3⟩ hz
      rw[beq_iff_eq.2 h2];simp
     ·rw[beq_eq_false_iff_ne.2 h1];rfl
    rw[hzz]at HQ1
    clear hzz
    cases A3 with
    |false =>
     have HE:Hid (Q=false):=by unfold Hid;rw[<-HQ1.out];rfl
     by_cases hq:q=0
     ·have hg:g=0:=by
       by_cases h3:g=0
       ·exact h3
       ·exact absurd ⟨hq,h3⟩ hz
      have hz1:(q==0)=true:=beq_iff_eq.2 hq
      have hz2:(g != 0)=false:=by simpa using hg
      clear hz hq hg
      go_wp2_with fail
      refine(HNM.out _).mono ?_
      rintro e w1 ⟨rfl,hw⟩
      subst hw
      go_wp2_with fail
      refine(HI1.out _).mono ?_
      rintro e w2 ⟨rfl,hb⟩
      have C2:=hideK (C1.out.call hb)
      clear hb C1 q0 q1 q2 q3 q4
      obtain⟨q0,q1,q2,q3,q4⟩:=cells5 (C2.out.get 0 rfl)
      go_wp2_with fail
      refine(HI2.out _).mono ?_
      rintro e w3 ⟨rfl,hb⟩
      have C3:=hideK (C2.out.call hb)
      clear hb C2 q0 q1 q2 q3 q4
      obtain⟨q0,q1,q2,q3,q4⟩:=cells5 (C3.out.get 0 rfl)
      go_wp2_with fail
      refine(HI3.out _).mono ?_
      rintro e w4 ⟨rfl,hb⟩
      have C4:=hideK (C3.out.call hb)
      clear hb C3 q0 q1 q2 q3 q4
      obtain⟨q0,q1,q2,q3,q4⟩:=cells5 (C4.out.get 0 rfl)
      go_wp2_with fail
      go_ret
      exact⟨ret_boolP HE.out.symm,C4.out.low⟩
     ·have hz1:(q==0)=false:=beq_eq_false_iff_ne.2 hq
      clear hz
      go_wp2_with fail
      refine(HNM.out _).mono ?_
      rintro e w1 ⟨rfl,hw⟩
      subst hw
      go_wp2_with fail
      refine(HI1.out _).mono ?_
      rintro e w2 ⟨rfl,hb⟩
      have C2:=hideK (C1.out.call hb)
      clear hb C1 q0 q1 q2 q3 q4
      obtain⟨q0,q1,q2,q3,q4⟩:=cells5 (C2.out.get 0 rfl)
      go_wp2_with fail
      refine(HI2.out _).mono ?_
      rintro e w3 ⟨rfl,hb⟩
      have C3:=hideK (C2.out.call hb)
      clear hb C2 q0 q1 q2 q3 q4
      obtain⟨q0,q1,q2,q3,q4⟩:=cells5 (C3.out.get 0 rfl)
      go_wp2_with fail
      refine(HI3.out _).mono ?_
      rintro e w4 ⟨rfl,hb⟩
      have C4:=hideK (C3.out.call hb)
      clear hb C3 q0 q1 q2 q3 q4
      obtain⟨q0,q1,q2,q3,q4⟩:=cells5 (C4.out.get 0 rfl)
      go_wp2_with fail
      go_ret
      exact⟨ret_boolP HE.out.symm,C4.out.low⟩
    |true =>
     have HQ2:Hid ((!(t==3) || (decide (n=0) && decide (q=0)))=Q):=by unfold Hid;rw[<-HQ1.out];rfl
     clear HQ1
     by_cases hq:q=0
     ·have hg:g=0:=by
       by_cases h3:g=0
       ·exact h3
       ·exact absurd ⟨hq,h3⟩ hz
      have hz1:(q==0)=true:=beq_iff_eq.2 hq
      have hz2:(g != 0)=false:=by simpa using hg
      have HQD:Hid (decide (q=0)=true):=decide_eq_true hq
      clear hz hq hg
      go_wp2_with fail
      refine(HNM.out _).mono ?_
      rintro e w1 ⟨rfl,hw⟩
      subst hw
      go_wp2_with fail
      refine(HI1.out _).mono ?_
      rintro e w2 ⟨rfl,hb⟩
      have C2:=hideK (C1.out.call hb)
      clear hb C1 q0 q1 q2 q3 q4
      obtain⟨q0,q1,q2,q3,q4⟩:=cells5 (C2.out.get 0 rfl)
      go_wp2_with fail
      refine(HI2.out _).mono ?_
      rintro e w3 ⟨rfl,hb⟩
      have C3:=hideK (C2.out.call hb)
      clear hb C2 q0 q1 q2 q3 q4
      obtain⟨q0,q1,q2,q3,q4⟩:=cells5 (C3.out.get 0 rfl)
      go_wp2_with fail
      refine(HI3.out _).mono ?_
      rintro e w4 ⟨rfl,hb⟩
      have C4:=hideK (C3.out.call hb)
      clear hb C3 q0 q1 q2 q3 q4
      obtain⟨q0,q1,q2,q3,q4⟩:=cells5 (C4.out.get 0 rfl)
      by_cases h3:t<3
      ·have HE:Hid (Q=true):=by unfold Hid;rw[<-HQ2.out,beq_eq_false_iff_ne.2 (by omega)];rfl
       go_wp2_with fail
       go_ret
       exact⟨ret_boolP HE.out.symm,C4.out.low⟩
      ·have ht3:=HT3.out (by first|rfl|trivial) (by omega)
       have h3d:decide (t<3)=false:=decide_eq_false h3
       by_cases h4:n=0
       ·have h4':((n:Int)==0)=true:=beq_iff_eq.2 (by omega)
        have HE:Hid (Q=true):=by unfold Hid;rw[<-HQ2.out,beq_iff_eq.2 ht3,decide_eq_true h4,HQD.out];rfl
        clear ht3
        go_wp2_with fail
        go_ret
        exact⟨ret_boolP HE.out.symm,C4.out.low⟩
       ·have h4':((n:Int)==0)=false:=beq_eq_false_iff_ne.2 (by omega)
        have HE:Hid (Q=false):=by unfold Hid;rw[<-HQ2.out,beq_iff_eq.2 ht3,decide_eq_false h4];rfl
        clear ht3
        go_wp2_with fail
        go_ret
        exact⟨ret_boolP HE.out.symm,C4.out.low⟩
     ·have hz1:(q==0)=false:=beq_eq_false_iff_ne.2 hq
      have HQD:Hid (decide (q=0)=false):=decide_eq_false hq
      clear hz
      go_wp2_with fail
      refine(HNM.out _).mono ?_
      rintro e w1 ⟨rfl,hw⟩
      subst hw
      go_wp2_with fail
      refine(HI1.out _).mono ?_
      rintro e w2 ⟨rfl,hb⟩
      have C2:=hideK (C1.out.call hb)
      clear hb C1 q0 q1 q2 q3 q4
      obtain⟨q0,q1,q2,q3,q4⟩:=cells5 (C2.out.get 0 rfl)
      go_wp2_with fail
      refine(HI2.out _).mono ?_
      rintro e w3 ⟨rfl,hb⟩
      have C3:=hideK (C2.out.call hb)
      clear hb C2 q0 q1 q2 q3 q4
      obtain⟨q0,q1,q2,q3,q4⟩:=cells5 (C3.out.get 0 rfl)
      go_wp2_with fail
      refine(HI3.out _).mono ?_
      rintro e w4 ⟨rfl,hb⟩
      have C4:=hideK (C3.out.call hb)
      clear hb C3 q0 q1 q2 q3 q4
      obtain⟨q0,q1,q2,q3,q4⟩:=cells5 (C4.out.get 0 rfl)
      by_cases h3:t<3
      ·have HE:Hid (Q=true):=by unfold Hid;rw[<-HQ2.out,beq_eq_false_iff_ne.2 (by omega)];rfl
       go_wp2_with fail
       go_ret
       exact⟨ret_boolP HE.out.symm,C4.out.low⟩
      ·have ht3:=HT3.out (by first|rfl|trivial) (by omega)
       have h3d:decide (t<3)=false:=decide_eq_false h3
       by_cases h4:n=0
       ·have h4':((n:Int)==0)=true:=beq_iff_eq.2 (by omega)
        have HE:Hid (Q=false):=by unfold Hid;rw[<-HQ2.out,beq_iff_eq.2 ht3,decide_eq_true h4,HQD.out];rfl
        clear ht3
        go_wp2_with fail
        go_ret
        exact⟨ret_boolP HE.out.symm,C4.out.low⟩
       ·have h4':((n:Int)==0)=false:=beq_eq_false_iff_ne.2 (by omega)
        have HE:Hid (Q=false):=by unfold Hid;rw[<-HQ2.out,beq_iff_eq.2 ht3,decide_eq_false h4];rfl
        clear ht3
        go_wp2_with fail
        go_ret
        exact⟨ret_boolP HE.out.symm,C4.out.low⟩
theorem other_spec (x:MO) (c:Int) (w:World) (h:HasAt w w.heap.size x) (hn:x.1.has.length<=1048576) (hnm:x.1.name.size<=maxLen) (hc0:0<=c) (hc1:c<=64) :
  Calls Tryz.prog 60 #[othV x,.int .i64 c] w fun e w'=>e=.returned (.bool (othB x.1 c))/\Below w.heap.size w w':=by
 obtain⟨a,cap,hv,_,_,hi⟩:=h
 unfold othV
 rw[hv]
 exact other_specrun x.1.name a _ cap x.1.has _ _ _ c w hi rfl hn hnm hc0 hc1 _ _ rfl (by rw[oth_eq,ask2_of];rfl)
end Go.Proofs.YtpddanmnlkcdpaaGreatDoor.Pe


namespace Go.Proofs.YtpddanmnlkcdpaaGreatDoor.Pe
open Go.RowKit
open Kp
open Ls (HH hh_keep lV lowL blkL countN count_spec countN_le rightB)
theorem peerRight_spec (fit:Rec->Bool) (z b:Int) (r s:ByteArray) (y:Int) (a:Option Addr) (n cap:Nat) (m:List MO) (w:World) (hs:s.size<=1048576) (hf:rightB z b r=true->FitS fit z b r w) (h:Oths w w.heap.size a m) (hm:m.length=n) (hn:n<=1048576) (hsm:Small m) :
  Calls Tryz.prog 26 #[peerV z b r s y (.slice a n cap)] w fun e w'=>e=.returned (.bool (peerB fit z b r s y (oths m)))/\Below w.heap.size w w':=by
 have C0:=hideK ((Cx.nil w).new (peerO z b r s y (.slice a n cap)))
 have HKR:=hideK (fun W (hW:Below w.heap.size w W)=>keepRight_spec fit z b r s y W hs (fun hr=>(hf hr).later hW))
 have HCO:=hideK (fun W=>count_spec z b r W)
 have HCL:=hideK (countN_le z b r)
 have HS:=hideK h
 have HM:=hideK hm
 have HSM:=hideK hsm
 have HPB:Hid (peerB fit z b r s y (oths m)=(keepB fit z b r s y && othsB (oths m) (countN z b r:Nat))):=rfl
 generalize peerB fit z b r s y (oths m)=P at HPB ⊢
 have hmx:=mixedK
 clear hf h hm hsm
 unfold lV at HCO
 unfold kV at HKR
 unfold peerV
 unfold peerO at C0
 cases hk:keepB fit z b r s y with
 |false =>
  rw[hk]at HKR
  have HP:Hid (P=false):=by unfold Hid;rw[HPB.out,hk];rfl
  clear hk HPB
  go_enter Tryz.func26,Tryz.ntmps26
  go_wp2_with fail
  generalize w.alloc _=W0 at C0 ⊢
  refine(HKR.out _ C0.out.low).mono ?_
  rintro e w1 ⟨rfl,hb⟩
  have C1:=hideK (C0.out.call hb)
  clear hb C0
  go_wp2_with fail
  go_ret
  exact⟨ret_boolP HP.out.symm,C1.out.low⟩
 |true =>
  rw[hk]at HKR
  have HP:Hid (P=othsB (oths m) (countN z b r:Nat)):=by unfold Hid;rw[HPB.out,hk];rfl
  clear hk HPB
  by_cases h4:4<n
  ·have h4':(4:Int)<(n:Int):=by omega
   have HE:Hid (P=false):=by unfold Hid;rw[HP.out];exact othsB_long (by rw[oths_length,HM.out];exact h4)
   go_enter Tryz.func26,Tryz.ntmps26
   go_wp2_with fail
   generalize w.alloc _=W0 at C0 ⊢
   refine(HKR.out _ C0.out.low).mono ?_
   rintro e w1 ⟨rfl,hb⟩
   have C1:=hideK (C0.out.call hb)
   clear hb C0
   obtain⟨p0,p1,p2,p3,p4,p5⟩:=cellsP6 (C1.out.get 0 rfl)
   go_wp2_with fail
   go_ret
   exact⟨ret_boolP HE.out.symm,C1.out.low⟩
  ·have h4':¬(4:Int)<(n:Int):=by omega
   generalize countN z b r=cn at HCO HCL HP
   have HYE:Hid (OthsTo (oths m) (cn:Nat) n->P=true):=fun h2=>by rw[HP.out];exact othsB_yes (by rw[oths_length,HM.out];omega) (by rw[oths_length,HM.out];exact h2)
   have HNO1:Hid (∀ j (hj:j<m.length),othB m[j].1 (cn:Nat)=false->P=false):=fun j hj h=>by
    rw[HP.out]
    exact othsB_no (fun hh=>by
     have:=(hh j (by rw[oths_length];exact hj) (by rw[oths_length];exact hj)).1
     rw[oths_get m j hj,h]at this
     cases this)
   have HNO2:Hid (∀ j (hj:j+1<m.length),ltN (m[j]'(Nat.lt_of_succ_lt hj)).1.name m[j+1].1.name=false->P=false):=fun j hj h=>by
    rw[HP.out]
    exact othsB_no (fun hh=>by
     have:=(hh (j+1) (by rw[oths_length];exact hj) (by rw[oths_length];exact hj)).2 j (by rw[oths_length];omega) rfl
     rw[oths_get m j (by omega),oths_get m (j+1) hj,h]at this
     cases this)
   clear HP
   go_enter Tryz.func26,Tryz.ntmps26
   go_wp2_with fail
   generalize w.alloc _=W0 at C0 ⊢
   refine(HKR.out _ C0.out.low).mono ?_
   rintro e w1 ⟨rfl,hb⟩
   have C1:=hideK (C0.out.call hb)
   clear hb C0
   obtain⟨p0,p1,p2,p3,p4,p5⟩:=cellsP6 (C1.out.get 0 rfl)
   go_wp2_with fail
   refine(HCO.out _).mono ?_
   rintro e w2 ⟨rfl,hb⟩
   have C2:=hideK (C1.out.call hb)
   clear hb C1 p0 p1 p2 p3 p4 p5
   go_wp2_with fail
   go_loopw [4] (fun jv wr=>∃ j:Nat,jv=.int .i64 j/\j<=n/\OthsTo (oths m) (cn:Nat) j/\Cx w wr [(w.heap.size,.cells #[.int .i64 z,.int .i64 b,.string r,.string s,.int .i64 y,.slice a n cap] 35)]) (fun jv _=>n-(intOf jv).toNat)
   case atStart=>exact⟨0,rfl,Nat.zero_le _,oths_zero _ _,C2.out⟩
   case round =>
    obtain⟨j,rfl,hj,hr,hcx⟩:=hrel
    have HR:=hideK hr
    have C3:=hideK hcx
    clear hr hcx C2
    obtain⟨p0,p1,p2,p3,p4,p5⟩:=cellsP6 (C3.out.get 0 rfl)
    by_cases hlt:j<n
    ·have hlt':(j:Int)<(n:Int):=by omega
     have hjl:j<m.length:=by rw[HM.out];exact hlt
     obtain⟨b',off,rfl,hb,hc⟩:=HS.out.some (by omega)
     have F1:=hideK ((hc j hjl).below C3.out.low hb)
     have HA:=hideK (HS.out.2 m[j] (List.getElem_mem hjl))
     have HSX:=hideK (HSM.out m[j] (List.getElem_mem hjl))
     have HB1:=hideK (HNO1.out j hjl)
     have HST:Hid (othB m[j].1 (cn:Nat)=true->(∀ i (hi:i<m.length),i+1=j->ltN m[i].1.name m[j].1.name=true)->OthsTo (oths m) (cn:Nat) (j+1)):=fun h1 h2=>oths_step (by rw[oths_length];exact hjl) HR.out (by rw[oths_get m j hjl];exact h1) (fun i hi hij=>by rw[oths_length]at hi;rw[oths_get m i hi,oths_get m j hjl];exact h2 i hi hij)
     have HPR:Hid (∀ j' (_:j=j' + 1),∃ nm':ByteArray,wr.cell? ⟨b',off+j' * 5,none⟩=some (.string nm')/\(ltN nm' m[j].1.name=false->P=false)/\(ltN nm' m[j].1.name=true->∀ i (hi:i<m.length),i+1=j->ltN m[i].1.name m[j].1.name=true)):=fun j' e=>by
      subst e
      refine⟨(m[j']'(by omega)).1.name,((hc j' (by omega)).below C3.out.low hb).1,fun h=>HNO2.out j' hjl h,fun h i hi hij=>?_⟩
      obtain rfl:i=j':=by omega
      exact h
     have HHA:=hideK (fun W (hW:Below w.heap.size w W)=>other_spec m[j] (cn:Nat) W ((HA.out.below hW).mono hW.size) HSX.out.1 HSX.out.2 (by omega) (by have:=HCL.out;omega))
     obtain⟨ax,cx,hxv,_,_,_⟩:=HA.out
     unfold othV at HHA
     obtain⟨d0,d1,d2,d3,d4⟩:=F1.out
     rw[hxv]at d1 HHA
     generalize othB m[j].1 (cn:Nat)=Q at HB1 HST HHA
     generalize m[j].1.name=nm at d0 HPR HHA HST
     generalize m[j].1.has.length=k at d1 HHA
     generalize m[j].1.asked=q at d2 HHA
     generalize m[j].1.age=g at d3 HHA
     generalize m[j].1.strikes=t at d4 HHA
     clear hc hxv HA HSX F1
     have hj5:j*5=j*5:=rfl
     clear hj5
     have r5:=fun d os=>cell_regrown p5 d os
     have e0:=fun d os=>cell_regrown d0 d os
     have e1:=fun d os=>cell_regrown d1 d os
     have e2:=fun d os=>cell_regrown d2 d os
     have e3:=fun d os=>cell_regrown d3 d os
     have e4:=fun d os=>cell_regrown d4 d os
     cases Q with
     |false =>
      have HE:=hideK (HB1.out rfl)
      go_wp2_with fail
      refine wp_region_quiet_below (by assumption) (by kernel_rfl) ?_
      repeat (go_big_quiet_step ((go_at_call 60;exact Calls.regrown_of (HHA.out _ (lowL C3.out.low (below_regrown _ _ _))))))
      refine wpQuiet_nil ?_
      intro _ hw'
      obtain⟨⟨dq,osq⟩,hw''⟩:=hw'
      subst hw''
      have K1:=hideK (C3.out.call (below_regrown wr dq osq))
      generalize Go.Sort.grow (redrawn wr dq) osq=w8 at K1 ⊢
      clear r5 e0 e1 e2 e3 e4 d0 d1 d2 d3 d4 p0 p1 p2 p3 p4 p5
      go_wp2_with fail
      go_ret
      exact⟨ret_boolP HE.out.symm,K1.out.low⟩
     |true =>
      rcases Nat.eq_zero_or_pos j with h0|h0
      ·subst h0
       simp only[Nat.zero_mul,Nat.add_zero]at d0 d1 d2 d3 d4 e0 e1 e2 e3 e4
       have HNX:=hideK (HST.out rfl (fun i hi e=>by omega))
       have hd:decide ((0:Int)<((0:Nat):Int))=false:=by simp
       go_wp2_with fail
       refine wp_region_quiet_below (by assumption) (by kernel_rfl) ?_
       repeat (go_big_quiet_step ((go_at_call 60;exact Calls.regrown_of (HHA.out _ (lowL C3.out.low (below_regrown _ _ _))))))
       refine wpQuiet_nil ?_
       intro _ hw'
       obtain⟨⟨dq,osq⟩,hw''⟩:=hw'
       subst hw''
       have K1:=hideK (C3.out.call (below_regrown wr dq osq))
       generalize Go.Sort.grow (redrawn wr dq) osq=w8 at K1 ⊢
       clear r5 e0 e1 e2 e3 e4 d0 d1 d2 d3 d4 p0 p1 p2 p3 p4 p5
       go_wp2_with fail
       go_roundw
       case rel=>exact⟨1,by go_num,by omega,HNX.out,K1.out⟩
       case measure=>simp[intOf];omega
      ·obtain⟨j',rfl⟩:∃ j',j=j' + 1:=⟨j-1,by omega⟩
       obtain⟨nm',hcn,hbad,hgood⟩:=HPR.out j' rfl
       have r6:=fun d os=>cell_regrown hcn d os
       have hd:decide ((0:Int)<((j' + 1:Nat):Int))=true:=decide_eq_true (by omega)
       have hj3:(j':Int)<(n:Int):=by omega
       unfold ltN at hbad hgood
       cases hL:Op.bytesLess nm'.toList nm.toList with
       |false =>
        have HE:=hideK (hbad hL)
        clear hbad hgood HB1
        go_wp2_with fail
        refine wp_region_quiet_below (by assumption) (by kernel_rfl) ?_
        repeat (go_big_quiet_step ((go_at_call 60;exact Calls.regrown_of (HHA.out _ (lowL C3.out.low (below_regrown _ _ _))))))
        refine wpQuiet_nil ?_
        intro _ hw'
        obtain⟨⟨dq,osq⟩,hw''⟩:=hw'
        subst hw''
        have K1:=hideK (C3.out.call (below_regrown wr dq osq))
        generalize Go.Sort.grow (redrawn wr dq) osq=w8 at K1 ⊢
        clear r5 r6 e0 e1 e2 e3 e4 d0 d1 d2 d3 d4 p0 p1 p2 p3 p4 p5 hcn
        go_wp2_with fail
        go_ret
        exact⟨ret_boolP HE.out.symm,K1.out.low⟩
       |true =>
        have HNX:=hideK (HST.out rfl (hgood hL))
        clear hbad hgood HB1
        go_wp2_with fail
        refine wp_region_quiet_below (by assumption) (by kernel_rfl) ?_
        repeat (go_big_quiet_step ((go_at_call 60;exact Calls.regrown_of (HHA.out _ (lowL C3.out.low (below_regrown _ _ _))))))
        refine wpQuiet_nil ?_
        intro _ hw'
        obtain⟨⟨dq,osq⟩,hw''⟩:=hw'
        subst hw''
        have K1:=hideK (C3.out.call (below_regrown wr dq osq))
        generalize Go.Sort.grow (redrawn wr dq) osq=w8 at K1 ⊢
        clear r5 r6 e0 e1 e2 e3 e4 d0 d1 d2 d3 d4 p0 p1 p2 p3 p4 p5 hcn
        go_wp2_with fail
        go_roundw
        case rel=>exact⟨j' + 1+1,by go_num,by omega,HNX.out,K1.out⟩
        case measure=>simp[intOf];omega
    ·have HE:=hideK (HYE.out (by have:=HR.out;rwa[show j=n by omega]at this))
     have hltD:decide ((j:Int)<(n:Int))=false:=by simp;omega
     have hlt2:¬((j:Int)<(n:Int)):=by omega
     go_wp2_with fail
     go_ret
     exact⟨ret_boolP HE.out.symm,C3.out.low⟩
end Go.Proofs.YtpddanmnlkcdpaaGreatDoor.Pe


/- Have of the specification. -/
namespace Go.Proofs.YtpddanmnlkcdpaaGreatDoor.Kp
open Go.RowKit
open Ls (lV rightB lowL blkL)
open In (OwnI Ints)
open In.Tryz (infoI2)
open Kh (sortZ insZ)
open Tr (wpList_append_opt)
theorem ownI_lit (W:World):OwnI (W.alloc (.cells #[] 2)) W.heap.size (.slice (some ⟨W.heap.size,0,none⟩) 0 0) [] :=
 ⟨rfl,.inr ⟨W.heap.size,0,#[],rfl,Nat.le_refl _,heap_alloc_new W _,Nat.le_refl _,by decide,rfl,rfl⟩⟩
end Go.Proofs.YtpddanmnlkcdpaaGreatDoor.Kp


namespace Go.Proofs.YtpddanmnlkcdpaaGreatDoor.Pl
open Go.RowKit
open Kp
open Pe
open In (Ints OwnI)
open In.Tryz (infoI2)
open Tr (wpList_append_opt)
open Ap (KeepE keepE_own)
open Ls (lowL blk_alloc lV)
open Sh (step_append_own)
def gmB (z b:Int) (r s:ByteArray) (y:Int) (vo va:Value):Obj:=.cells #[.int .i64 z,.int .i64 b,.string r,.string s,.int .i64 y,vo,va] 69
theorem gm_set5 {W:World} {g:Nat} {z b:Int} {r s:ByteArray} {y:Int} {vo va:Value} (h:W.heap[g]? = some (gmB z b r s y vo va)) (v:Value):(W.setCell ⟨g,5,none⟩ v).heap[g]? = some (gmB z b r s y v va):=by
 unfold gmB at h ⊢
 rw[heap_setCell_same W g 5 _ _ v h]
 rfl
theorem gm_set6 {W:World} {g:Nat} {z b:Int} {r s:ByteArray} {y:Int} {vo va:Value} (h:W.heap[g]? = some (gmB z b r s y vo va)) (v:Value):(W.setCell ⟨g,6,none⟩ v).heap[g]? = some (gmB z b r s y vo v):=by
 unfold gmB at h ⊢
 rw[heap_setCell_same W g 6 _ _ v h]
 rfl
structure Game (w W:World) (gg:Nat) (z b:Int) (r s:ByteArray) (y:Int) (ao:Option Addr) (no co:Nat) (va:Value) (mo:List MO) (mr:List MR):Prop where
 low:Below w.heap.size w W
 gg0:w.heap.size<=gg
 blk:W.heap[gg]? = some (gmB z b r s y (.slice ao no co) va)
 orow:OwnO W w.heap.size (.slice ao no co) mo
 has:Hass W w.heap.size mo
 ap:Apart mo
 rrow:RowQ W w.heap.size va mr
 ps:Paths W mr
theorem Game.call {w W W':World} {gg:Nat} {z b:Int} {r s:ByteArray} {y:Int} {ao:Option Addr} {no co:Nat} {va:Value} {mo:List MO} {mr:List MR} (h:Game w W gg z b r s y ao no co va mo mr) (hb:Below W.heap.size W W'):Game w W' gg z b r s y ao no co va mo mr :=
 ⟨lowL h.low hb,h.gg0,(hb.block gg (lt_rowK h.blk)).trans h.blk,h.orow.below hb,h.has.below hb,h.ap,h.rrow.below hb,h.ps.keeps (KeepsS.below hb)⟩
theorem _root_.Go.Proofs.YtpddanmnlkcdpaaGreatDoor.Pe.Cop.set {w W:World} {m m':List MO} {j gg i:Nat} {u x:Value} {cs:Array Value} {T:TypeId} (h:Cop w W m j u m') (hg:W.heap[gg]? = some (.cells cs T (0,0))) (h1:T≠86) (h2:T≠2) (hl:w.heap.size<=gg):Cop w (W.setCell ⟨gg,i,none⟩ x) m j u m' :=
 have k6:=fun k o (hk:W.heap[k]? = some o) (hne:k≠gg)=>(heap_setCell_other W ⟨gg,i,none⟩ k x (by exact hne)).trans hk
 ⟨h.os,own_others h.row hg h1 k6,fun y hy=>own_others (h.has y hy) hg h2 k6,h.ap,h.low.setCell (p:=⟨gg,i,none⟩) hl x⟩
theorem rowQ_mono {W:World} {base base':Nat} {v:Value} {m:List MR} (h:RowQ W base v m) (hb:base'<=base):RowQ W base' v m:=by
 rcases h with h|⟨hl,h⟩
 ·exact .inl h
 ·refine .inr ⟨hl,?_⟩
  rcases h with h|⟨g,cap,cur,hv,hg,rest⟩
  ·exact .inl h
  ·exact .inr ⟨g,cap,cur,hv,Nat.le_trans hb hg,rest⟩
theorem rowQ_others {W W':World} {base g:Nat} {v:Value} {m:List MR} {cs:Array Value} {T:TypeId} (h:RowQ W base v m) (hg:W.heap[g]? = some (.cells cs T (0,0))) (hT:T≠139) (hk:∀ k o,W.heap[k]? = some o->k≠g->W'.heap[k]? = some o):RowQ W' base v m:=by
 rcases h with h|h
 ·exact .inl h
 ·exact .inr (own_others h hg hT hk)
theorem open_more {w wr w1 w3:World} {m m':List MO} {j gg gp:Nat} {u v1 v3:Value} {x:Oth} {l0:Value} {z b:Int} {r s:ByteArray} {y:Int} {P:Obj} (h:Cop w wr m j u m') (hx:oths (m.take (j+1))=oths (m.take j)++[x])
  (hgg:wr.heap[gg]? = some (gmB z b r s y u (.slice none 0 0))) (hgp:wr.heap[gp]? = some P) (hP:u.ownBlock≠some gp) (hpg:gp≠gg) (hl:w.heap.size<=gg)
  (ho1:OwnI w1 (wr.heap.size+1) v1 x.has) (hb1:Below (wr.heap.size+1) (wr.alloc (.cells #[.string x.name,l0,.int .i64 x.asked,.int .i64 x.age,.int .i64 x.strikes] 86)) w1)
  (ho3:w3.ownsRow w.heap.size 86 5 v3 (m'.length+1) (cellsO m'++[.string x.name,v1,.int .i64 x.asked,.int .i64 x.age,.int .i64 x.strikes]))
  (hg3:((w1.setCell ⟨wr.heap.size,1,none⟩ v1).drew.alloc (.cells #[.string x.name,v1,.int .i64 x.asked,.int .i64 x.age,.int .i64 x.strikes] 86)).grownBy w3 u.ownBlock) :
  w3.heap[gg]? = some (gmB z b r s y u (.slice none 0 0))/\Cop w (w3.setCell ⟨gg,5,none⟩ v3) m (j+1) v3 (m'++[(x,v1)])/\(w3.setCell ⟨gg,5,none⟩ v3).heap[gg]? = some (gmB z b r s y v3 (.slice none 0 0))/\(w3.setCell ⟨gg,5,none⟩ v3).heap[gp]? = some P:=by
 have hc:=h.more hx h.low.size ho1 hb1 ho3 ⟨hg3.os,hg3.tape,hg3.output,hg3.size,hg3.block⟩
 have up:∀ k o,wr.heap[k]? = some o->u.ownBlock≠some k->w3.heap[k]? = some o:=fun k o hk hu=>by
  have hkl:=lt_rowK hk
  have h1:w1.heap[k]? = some o:=(hb1.block k (by omega)).trans ((heap_alloc_old wr _ hkl).trans hk)
  have h2:(w1.setCell ⟨wr.heap.size,1,none⟩ v1).heap[k]? = some o:=(heap_setCell_other w1 ⟨wr.heap.size,1,none⟩ k v1 (by show k≠wr.heap.size;omega)).trans h1
  exact grown_blk hg3 (blk_alloc (W:=(w1.setCell ⟨wr.heap.size,1,none⟩ v1).drew) h2 _) hu
 have hT:u.ownBlock≠some gg:=by unfold gmB at hgg;exact own_ne_ty h.row hgg (by decide)
 have h3:=up gg _ hgg hT
 refine⟨h3,?_,gm_set5 h3 v3,(heap_setCell_other w3 ⟨gg,5,none⟩ gp v3 (by exact hpg)).trans (up gp _ hgp hP)⟩
 unfold gmB at h3
 exact hc.set h3 (by decide) (by decide) hl
theorem open_spec (fit:Rec->Bool) (z b:Int) (r s:ByteArray) (y:Int) (a:Option Addr) (n cap:Nat) (m:List MO) (w:World) (hs:s.size<=1048576) (hf:FitS fit z b r w) (h:Oths w w.heap.size a m) (hm:m.length=n) (hn:n<=1048576) (hsm:Small m) :
  Calls Tryz.prog 28 #[peerV z b r s y (.slice a n cap)] w fun e w'=>∃ gg ao co va mo mr,e=.returned (.pointer (some ⟨gg,0,none⟩))/\Game w w' gg z b r s y ao n co va mo mr/\oths mo=oths m/\recs mr=(allR fit s).1:=by
 obtain⟨i0,hi0,hz0,hz1,hz2⟩:=info_parts infoI2
 obtain⟨j0,hj0,ho0,ho1,ho2⟩:=info_parts Tryz.infoOther
 have hmx:=mixedK
 have C0:=hideK (((Cx.nil w).new (peerO z b r s y (.slice a n cap))).new (gmB z b r s y (.slice none 0 0) (.slice none 0 0)))
 simp only[World.size_alloc]at C0
 have HS:=hideK h
 have HM:=hideK hm
 have HSM:=hideK hsm
 have HAL:=hideK (fun W (hW:Below w.heap.size w W)=>l08All_any fit z b r s W hs (hf.later hW))
 clear h hm hsm hf
 unfold peerV
 unfold peerO gmB at C0
 unfold lV at HAL
 go_enter Tryz.func28,Tryz.ntmps28
 go_wp2_with fail
 generalize hgk:w.heap.size=gk at C0 ⊢
 have HGK:=hideK hgk
 clear hgk
 generalize (w.alloc _).alloc _=W0 at C0 ⊢
 go_loopw [4] (fun jv wr=>∃ (j:Nat) (u:Value) (m':List MO),jv=.int .i64 j/\j<=n/\Cop w wr m j u m'/\wr.heap[gk+1]? = some (gmB z b r s y u (.slice none 0 0))/\wr.heap[gk]? = some (peerO z b r s y (.slice a n cap))) (fun jv _=>n-(intOf jv).toNat)
 case atStart=>exact⟨0,.slice none 0 0,[],rfl,Nat.zero_le _,⟨rfl,OwnO.nil _ _,fun x hx=>absurd hx List.not_mem_nil,List.Pairwise.nil,C0.out.low⟩,C0.out.get 0 rfl,C0.out.get 1 rfl⟩
 case round =>
  obtain⟨j,u,m',rfl,hj,hcop,hgg,hgp⟩:=hrel
  have CP:=hideK hcop
  have HLN:=hideK (hcop.len (by rw[HM.out];exact hj))
  have hzr:=hcop.low.size
  have GG:=hideK hgg
  have GP:=hideK hgp
  obtain⟨au,cu,hu,_,_⟩:=hcop.row.one
  rw[HLN.out]at hu
  subst hu
  clear hcop hgg hgp
  have hgl:=lt_rowK GG.out
  obtain⟨p0,p1,p2,p3,p4,p5⟩:=cellsP6 (by have:=GP.out;unfold peerO at this;exact this)
  by_cases hlt:j<n
  ·have hlt':(j:Int)<(n:Int):=by omega
   have hjl:j<m.length:=by rw[HM.out];exact hlt
   obtain⟨bb,off,rfl,hb,hc⟩:=HS.out.some (by omega)
   obtain⟨d0,d1,d2,d3,d4⟩:=(hc j hjl).below CP.out.low hb
   obtain⟨ax,cx,hxv,hcx,hnx,hix⟩:=HS.out.2 m[j] (List.getElem_mem hjl)
   have HIX:=hideK (hix.below CP.out.low)
   have HSX:=hideK (HSM.out m[j] (List.getElem_mem hjl))
   have HT:=hideK (oths_take hjl)
   rw[hxv]at d1
   have hkx:=HSX.out.1
   have HNX:Hid (ax=none->m[j].1.has.length=0/\cx=0):=fun h=>by have:=hnx h;omega
   generalize m[j].1=x at d0 d1 d2 d3 d4 HIX HT hkx hcx HNX
   obtain⟨nm,l,q,g,t⟩:=x
   dsimp only at d0 d1 d2 d3 d4 HIX hkx hcx HNX
   clear hc hxv HSX hjl hnx hix
   have XN:Hid ((wr.alloc (.cells #[.string nm,.slice ax l.length cx,.int .i64 q,.int .i64 g,.int .i64 t] 86)).heap[wr.heap.size]? = some (.cells #[.string nm,.slice ax l.length cx,.int .i64 q,.int .i64 g,.int .i64 t] 86 (0,0))):=heap_alloc_new wr _
   have BN:Hid (Below w.heap.size wr (wr.alloc (.cells #[.string nm,.slice ax l.length cx,.int .i64 q,.int .i64 g,.int .i64 t] 86))):=(Below.refl _ _).alloc hzr _
   have HMO:Hid (∀ (w1 w3:World) (v1 v3:Value),OwnI w1 (wr.heap.size+1) v1 l->Below (wr.heap.size+1) (wr.alloc (.cells #[.string nm,.slice ax l.length cx,.int .i64 q,.int .i64 g,.int .i64 t] 86)) w1->w3.ownsRow w.heap.size 86 5 v3 (j+1) (cellsO m'++[.string nm,v1,.int .i64 q,.int .i64 g,.int .i64 t])->((w1.setCell ⟨wr.heap.size,1,none⟩ v1).drew.alloc (.cells #[.string nm,v1,.int .i64 q,.int .i64 g,.int .i64 t] 86)).grownBy w3 (Value.slice au j cu).ownBlock->w3.heap[gk+1]? = some (gmB z b r s y (.slice au j cu) (.slice none 0 0))/\Cop w (w3.setCell ⟨gk+1,5,none⟩ v3) m (j+1) v3 (m'++[(⟨nm,l,q,g,t⟩,v1)])/\(w3.setCell ⟨gk+1,5,none⟩ v3).heap[gk+1]? = some (gmB z b r s y v3 (.slice none 0 0))/\(w3.setCell ⟨gk+1,5,none⟩ v3).heap[gk]? = some (peerO z b r s y (.slice (some ⟨bb,off,none⟩) n cap))):=fun w1 w3 v1 v3 h1 h2 h3 h4=>open_more (x:=⟨nm,l,q,g,t⟩) CP.out HT.out GG.out GP.out (by have:=GP.out;unfold peerO at this;exact own_ne_ty CP.out.row this (by decide)) (by omega) (by have:=HGK.out;omega) h1 h2 (by rw[HLN.out];exact h3) h4
   have HRW:Hid (∀ (w1:World) (v1:Value),Below (wr.heap.size+1) (wr.alloc (.cells #[.string nm,.slice ax l.length cx,.int .i64 q,.int .i64 g,.int .i64 t] 86)) w1->((w1.setCell ⟨wr.heap.size,1,none⟩ v1).alloc (.cells #[.string nm,v1,.int .i64 q,.int .i64 g,.int .i64 t] 86)).drew.ownsRow w.heap.size 86 5 (.slice au j cu) j (cellsO m')/\(w1.setCell ⟨wr.heap.size,1,none⟩ v1).heap[gk+1]? = some (gmB z b r s y (.slice au j cu) (.slice none 0 0))):=fun w1 v1 h2=>by
    have:=(((CP.out.row.below (((Below.refl _ wr).alloc (Nat.le_refl _) _).trans (h2.mono (Nat.le_succ _)))).set_other (CP.out.row.block_lt (Nat.le_refl _)) 1 v1).alloc (.cells #[.string nm,v1,.int .i64 q,.int .i64 g,.int .i64 t] 86))
    unfold OwnO at this
    rw[HLN.out]at this
    exact⟨this,(heap_setCell_other w1 ⟨wr.heap.size,1,none⟩ (gk+1) v1 (by show gk+1≠wr.heap.size;omega)).trans ((h2.block (gk+1) (by omega)).trans ((heap_alloc_old wr _ hgl).trans GG.out))⟩
   go_upto_region 6 with fail
   have hsz1:(wr.alloc (.cells #[.string nm,.slice ax l.length cx,.int .i64 q,.int .i64 g,.int .i64 t] 86)).heap.size=wr.heap.size+1:=by simp
   have HSZ1:=hideK hsz1
   clear hsz1
   generalize wr.alloc (.cells #[.string nm,.slice ax l.length cx,.int .i64 q,.int .i64 g,.int .i64 t] 86)=W1 at XN BN HMO HRW HSZ1 ⊢
   generalize wr.heap.size=gx at XN HMO HRW HSZ1 hzr hgl ⊢
   obtain⟨e0,e1,e2,e3,e4⟩:=cells5 XN.out
   clear d0 d1 d2 d3 d4 p0 p1 p2 p3 p4 p5
   generalize hkl:l.length=k at e1 hkx hcx HNX XN ⊢
   have HKL:=hideK hkl
   clear hkl
   have c1':(W1.alloc (.cells #[] 2)).cell? ⟨gx,1,none⟩=some (.slice ax k cx):=cell_of_row _ gx 1 _ _ _ (blk_alloc XN.out _)
   have HIY:=hideK ((HIX.out.below BN.out).below ((Below.refl w.heap.size W1).alloc (by have:=HSZ1.out;omega) (.cells #[] 2)))
   go_wp2_with (at_builtin;refine wpList_append_opt _ rfl (.tmp 25) (.tmp 27) 84 rfl W1.heap.size 2 i0 (.int .i64 0) 1 8 Tryz.underlying84 hi0 hz0 hz1 hz2 rfl (by decide) (.slice (some ⟨W1.heap.size,0,none⟩) 0 0) 0 [] rfl (ownI_lit W1) ax k cx HNX.out (l.map (Value.int .i64)) rfl (by rw[List.length_map,HKL.out,Nat.mul_one]) (ints_news HIY.out) (ints_oneP _) (by unfold maxLen;omega) (by omega) (by simp) ?_)
   intro v1 w1 hown1 hgrow1 _
   have O1:Hid (OwnI w1 (gx+1) v1 l):=by
    unfold Hid OwnI
    rw[HKL.out,<-HSZ1.out]
    simpa using hown1
   have B1:Hid (Below (gx+1) W1 w1):=((Below.refl _ _).alloc (by rw[HSZ1.out];exact Nat.le_refl _) (.cells #[] 2)).grown hgrow1 (by simp;rw[HSZ1.out];omega) (fun k hk=>by simp[Value.ownBlock]at hk;rw[<-hk,HSZ1.out];exact Nat.le_refl _)
   obtain⟨a1,c1,hv1,_,_⟩:=O1.out.ints
   rw[HKL.out]at hv1
   subst hv1
   have X1:Hid (w1.heap[gx]? = some (.cells #[.string nm,.slice ax k cx,.int .i64 q,.int .i64 g,.int .i64 t] 86 (0,0))):=(B1.out.block _ (Nat.lt_succ_self _)).trans XN.out
   obtain⟨f0,f1,f2,f3,f4⟩:=cells5 X1.out
   have ff:=frozen_of_row w1 gx 1 _ _ X1.out
   have X2:Hid ((w1.setCell ⟨gx,1,none⟩ (.slice a1 k c1)).heap[gx]? = some (.cells #[.string nm,.slice a1 k c1,.int .i64 q,.int .i64 g,.int .i64 t] 86 (0,0))):=by
    unfold Hid
    rw[heap_setCell_same w1 gx 1 _ _ _ X1.out]
    rfl
   have RW:=hideK (HRW.out w1 (.slice a1 k c1) B1.out)
   have MO1:=hideK (fun w3 v3=>HMO.out w1 w3 (.slice a1 k c1) v3 O1.out B1.out)
   have hz4:w.heap.size<=(w1.setCell ⟨gx,1,none⟩ (.slice a1 k c1)).heap.size:=by
    have:=B1.out.size
    simp
    have:=HSZ1.out
    omega
   clear hown1 hgrow1 e0 e1 e2 e3 e4 c1'
   go_upto_region 7 with fail
   generalize w1.setCell ⟨gx,1,none⟩ (.slice a1 k c1)=W2 at X2 RW MO1 hz4 ⊢
   clear f0 f1 f2 f3 f4 ff
   obtain⟨e0,e1,e2,e3,e4⟩:=cells5 X2.out
   have G2:=RW.out.2
   have k5:W2.cell? ⟨gk+1,5,none⟩=some (.slice au j cu):=cell_of_row W2 (gk+1) 5 _ _ _ (by unfold gmB at G2;exact G2)
   have cA:(W2.alloc (.cells #[.string nm,.slice a1 k c1,.int .i64 q,.int .i64 g,.int .i64 t] 86)).cell? ⟨gk+1,5,none⟩=some (.slice au j cu):=cell_of_row (W2.alloc (.cells #[.string nm,.slice a1 k c1,.int .i64 q,.int .i64 g,.int .i64 t] 86)) (gk+1) 5 _ _ _ (by unfold gmB at G2;exact blk_alloc G2 _)
   have HC5:Hid (∀ W:World,W.heap[gk+1]? = some (gmB z b r s y (.slice au j cu) (.slice none 0 0))->W.cell? ⟨gk+1,5,none⟩=some (.slice au j cu)/\∀ o,W.frozen? ⟨gk+1,o,none⟩=false):=fun W h=>by
    unfold gmB at h
    exact⟨cell_of_row W (gk+1) 5 _ _ _ h,fun o=>frozen_of_row W (gk+1) o _ _ h⟩
   clear G2
   go_region_law (refine step_append_own rfl (.tmp 35) (.tmp 37) 33 rfl w.heap.size 86 j0 _ 5 64 Tryz.underlying33 hj0 ho0 ho1 ho2 rfl (by decide) (.slice au j cu) j (cellsO m') rfl RW.out.1 ⟨W2.heap.size,0,none⟩ 1 1 [.string nm,.slice a1 k c1,.int .i64 q,.int .i64 g,.int .i64 t] rfl rfl (five_new W2.drew _ _ _ _ _ _) (five_one rfl rfl rfl rfl rfl) (by unfold maxLen;omega) (by omega) (by simp;omega) ?_;intro v8 w8 ho8 hg8;obtain⟨a8,c8,hv8⟩:=own_one ho8;subst hv8;obtain⟨G8,E8a,E8b,E8c⟩:=MO1.out w8 _ ho8 hg8;have F1:=hideK E8a;have F2:=hideK E8b;have F3:=hideK E8c;obtain⟨d5,hf8⟩:=HC5.out w8 G8;clear ho8 hg8 E8a E8b E8c G8)
   all_goals (try go_wp2_with fail)
   all_goals
    go_roundw
    case rel=>exact⟨j+1,_,_,by go_num,by omega,F1.out,F2.out,F3.out⟩
    case measure=>simp[intOf];omega
  ·have hlt2:¬(j:Int)<(n:Int):=by omega
   have hltD:decide ((j:Int)<(n:Int))=false:=by simp;omega
   obtain rfl:j=n:=by omega
   have HAL1:=hideK (HAL.out wr CP.out.low)
   have HOS:Hid (oths m'=oths m):=by unfold Hid;rw[CP.out.os,List.take_of_length_le (by rw[HM.out];exact Nat.le_refl _)]
   clear HAL
   go_wp2_with fail
   refine HAL1.out.mono ?_
   rintro e w9 ⟨⟨va,mr,rfl,hrs,hrow,hps⟩,hb⟩
   have GG9:Hid (w9.heap[gk+1]? = some (gmB z b r s y (.slice au j cu) (.slice none 0 0))):=(hb.block (gk+1) hgl).trans GG.out
   obtain⟨ar,cr,hva,_⟩:=hrow.one
   subst hva
   have LW:=hideK (lowL CP.out.low hb)
   have GM:Hid (Game w (w9.setCell ⟨gk+1,6,none⟩ (.slice ar mr.length cr)) (gk+1) z b r s y au j cu (.slice ar mr.length cr) m' mr):=by
    have h9:=GG9.out
    have k6:=fun k o (hk:w9.heap[k]? = some o) (hne:k≠gk+1)=>(heap_setCell_other w9 ⟨gk+1,6,none⟩ k (.slice ar mr.length cr) (by exact hne)).trans hk
    have hg6:=gm_set6 h9 (.slice ar mr.length cr)
    unfold gmB at h9
    exact⟨LW.out.setCell (p:=⟨gk+1,6,none⟩) (by have:=HGK.out;show w.heap.size<=gk+1;omega) _,by have:=HGK.out;omega,hg6,own_others (CP.out.row.below hb) h9 (by decide) k6,fun x hx=>own_others ((CP.out.has.below hb) x hx) h9 (by decide) k6,CP.out.ap,rowQ_others (rowQ_mono hrow CP.out.low.size) h9 (by decide) k6,hps.keeps (KeepsS.others h9 (by decide) k6)⟩
   have RS:=hideK hrs
   have c6:w9.cell? ⟨gk+1,6,none⟩=some (.slice none 0 0):=cell_of_row w9 (gk+1) 6 _ _ _ (by have:=GG9.out;unfold gmB at this;exact this)
   have f6:w9.frozen? ⟨gk+1,6,none⟩=false:=frozen_of_row w9 (gk+1) 6 _ _ (by have:=GG9.out;unfold gmB at this;exact this)
   clear hb hrs hrow hps HAL1 CP GG GG9 p0 p1 p2 p3 p4 p5
   go_wp2_with fail
   go_ret
   exact⟨gk+1,au,cu,_,m',mr,rfl,GM.out,HOS.out,RS.out⟩
end Go.Proofs.YtpddanmnlkcdpaaGreatDoor.Pl

