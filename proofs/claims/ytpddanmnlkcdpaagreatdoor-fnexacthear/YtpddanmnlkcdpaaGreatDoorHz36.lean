/- Texts put together: PqOther. -/
import Derived.Test.YtpddanmnlkcdpaaGreatDoorHz22
import Derived.Test.YtpddanmnlkcdpaaGreatDoorHz31
import Derived.Test.YtpddanmnlkcdpaaGreatDoorHz39
set_option maxRecDepth 100000
set_option maxHeartbeats 8000000
namespace Go.Proofs.YtpddanmnlkcdpaaGreatDoor.Pe
open Go.RowKit
open Kp
open In (Ints)
open Ls (lowL)
open Go.Proofs.YtpddanmnlkcdpaaGreatDoor.Nm (nameB)
def isB (x a b:Int):Bool:=decide (a<=x/\x<=b)
theorem isq_any (x a b:Int) (w:World):Calls Tryz.prog 53 #[.int .i64 x,.int .i64 a,.int .i64 b] w fun e w'=>e=.returned (.bool (isB x a b))/\Below w.heap.size w w':=by
 by_cases h1:a<=x
 ·by_cases h2:x<=b
  ·have HE:Hid (isB x a b=true):=decide_eq_true ⟨h1,h2⟩
   go_enter Tryz.func53,Tryz.ntmps53
   go_wp2_with fail
   go_ret
   exact⟨ret_boolP HE.out.symm,Below.refl _ _⟩
  ·have HE:Hid (isB x a b=false):=decide_eq_false (fun h=>h2 h.2)
   go_enter Tryz.func53,Tryz.ntmps53
   go_wp2_with fail
   go_ret
   exact⟨ret_boolP HE.out.symm,Below.refl _ _⟩
 ·have HE:Hid (isB x a b=false):=decide_eq_false (fun h=>h1 h.1)
  go_enter Tryz.func53,Tryz.ntmps53
  go_wp2_with fail
  go_ret
  exact⟨ret_boolP HE.out.symm,Below.refl _ _⟩
theorem ask2_of {q g c:Int}:ask2 q g c=(isB q 0 c && isB g 0 3 && !((q==0) && !(g==0))):=by
 unfold ask2 isB
 by_cases h1:0<=q/\q<=c
 ·by_cases h2:0<=g/\g<=3
  ·by_cases h3:q=0
   ·by_cases h4:g=0
    ·rw[decide_eq_true (by omega),decide_eq_true h1,decide_eq_true h2,beq_iff_eq.2 h3,beq_iff_eq.2 h4];rfl
    ·rw[decide_eq_false (by omega),decide_eq_true h1,decide_eq_true h2,beq_iff_eq.2 h3,beq_eq_false_iff_ne.2 h4];rfl
   ·rw[decide_eq_true (by omega),decide_eq_true h1,decide_eq_true h2,beq_eq_false_iff_ne.2 h3];rfl
  ·rw[decide_eq_false (by omega),decide_eq_false h2,Bool.and_false,Bool.false_and]
 ·rw[decide_eq_false (by omega),decide_eq_false h1,Bool.false_and,Bool.false_and]
theorem other_specrun (nm:ByteArray) (a:Option Addr) (n cap:Nat) (l:List Int) (q g t c:Int) (w:World) (h:Ints w w.heap.size a l) (hln:l.length=n) (hn:n<=1048576) (hnm:nm.size<=maxLen) (hc0:0<=c) (hc1:c<=64) (N Q:Bool) (hN:nameB nm=N)
  (hQ:(N && risesB l c && (isB q 0 c && isB g 0 3 && !((q==0) && !(g==0))) && isB t 0 3 && (!(t==3) || (decide (l.length=0) && decide (q=0))))=Q) :
  Calls Tryz.prog 60 #[.agg #[.string nm,.slice a n cap,.int .i64 q,.int .i64 g,.int .i64 t],.int .i64 c] w fun e w'=>e=.returned (.bool Q)/\Below w.heap.size w w':=by
 have C0:=hideK ((Cx.nil w).new (.cells #[.string nm,.slice a n cap,.int .i64 q,.int .i64 g,.int .i64 t] 86))
 have HNM:=hideK (fun W=>Nm.spec_any nm W hnm)
 rw[hN]at HNM
 have HS:=hideK h
 have HLN:=hideK hln
 have HNO:Hid (∀ j (hj:j<l.length),¬(0<=l[j]/\l[j]<c/\(0<j->l.getD (j-1) 0<l[j]))->Q=false):=fun j hj h=>by rw[<-hQ,risesB_no (rises_bad2 hj h),Bool.and_false,Bool.false_and,Bool.false_and,Bool.false_and]
 have HYE:Hid (RisesTo l c l.length->(N && (isB q 0 c && isB g 0 3 && !((q==0) && !(g==0))) && isB t 0 3 && (!(t==3) || (decide (l.length=0) && decide (q=0))))=Q):=fun h=>by rw[<-hQ,risesB_yes h,Bool.and_true]
 have hmx:=mixedK
 clear h hln hnm hN hQ
 go_enter Tryz.func60,Tryz.ntmps60
 go_wp2_with fail
 go_loopw [5] (fun jv wr=>∃ j:Nat,jv=.int .i64 j/\j<=n/\RisesTo l c j/\Cx w wr [(w.heap.size,(.cells #[.string nm,.slice a n cap,.int .i64 q,.int .i64 g,.int .i64 t] 86))]) (fun jv _=>n-(intOf jv).toNat)
 case atStart=>exact⟨0,rfl,Nat.zero_le _,rises_zero _ _,C0.out⟩
 case round =>
  obtain⟨j,rfl,hj,hr,hcx⟩:=hrel
  have HR:=hideK hr
  have C1:=hideK hcx
  clear hr hcx C0
  obtain⟨q0,q1,q2,q3,q4⟩:=cells5 (C1.out.get 0 rfl)
  by_cases hlt:j<n
  ·have hlt':(j:Int)<(n:Int):=by omega
   have hjl:j<l.length:=by rw[HLN.out];exact hlt
   obtain⟨b,off,rfl,hb,hc⟩:=HS.out.some (by omega)
   have cx:=(C1.out.low.cell (p:=⟨b,off+j,none⟩) hb).trans (hc j hjl)
   have HB:=hideK (HNO.out j hjl)
   have HST:Hid (0<=l[j]->l[j]<c->(0<j->l.getD (j-1) 0<l[j])->RisesTo l c (j+1)):=fun h0 h1 h2=>rises_step2 hjl HR.out h0 h1 h2
   have HPV:Hid (∀ j' (_:j=j' + 1),∃ p:Int,wr.cell? ⟨b,off+j',none⟩=some (.int .i64 p)/\l.getD (j-1) 0=p):=fun j' e=>by
    subst e
    exact⟨l[j']'(by omega),(C1.out.low.cell (p:=⟨b,off+j',none⟩) hb).trans (hc j' (by omega)),by rw[Nat.add_sub_cancel,List.getD_eq_getElem?_getD,List.getElem?_eq_getElem (by omega)];rfl⟩
   have HIS:=hideK (fun W=>isq_any l[j] 0 (c-1) W)
   have HIY:Hid (isB l[j] 0 (c-1)=true->0<=l[j]/\l[j]<c):=fun h=>by unfold isB at h;have:=of_decide_eq_true h;omega
   have HIN:Hid (isB l[j] 0 (c-1)=false->¬(0<=l[j]/\l[j]<c)):=fun h=>by unfold isB at h;have:=of_decide_eq_false h;omega
   have hwr:IntKind.i64.wrap (c-1)=c-1:=by rw[IntKind.wrap_i64];omega
   generalize isB l[j] 0 (c-1)=I at HIS HIY HIN
   generalize l[j]=x at cx HB HST HIS HIY HIN
   clear hc hjl
   have r0:=fun d os=>cell_regrown q0 d os
   have r1:=fun d os=>cell_regrown q1 d os
   have r2:=fun d os=>cell_regrown q2 d os
   have r3:=fun d os=>cell_regrown q3 d os
   have r4:=fun d os=>cell_regrown q4 d os
   have rx:=fun d os=>cell_regrown cx d os
   cases I with
   |false =>
    have HE:=hideK (HB.out (fun hh=>HIN.out rfl ⟨hh.1,hh.2.1⟩))
    clear HIY HIN HST HB
    go_wp2_with fail
    refine wp_region_quiet_below (by assumption) (by kernel_rfl) ?_
    repeat (go_big_quiet_step ((go_at_call 53;exact Calls.regrown_of (HIS.out _))))
    refine wpQuiet_nil ?_
    intro _ hw'
    obtain⟨⟨dq,osq⟩,hw''⟩:=hw'
    subst hw''
    have C2:=hideK (C1.out.call (below_regrown wr dq osq))
    generalize Go.Sort.grow (redrawn wr dq) osq=w8 at C2 ⊢
    clear r0 r1 r2 r3 r4 rx q0 q1 q2 q3 q4 cx
    go_wp2_with fail
    go_ret
    exact⟨ret_boolP HE.out.symm,C2.out.low⟩
   |true =>
    have HI:=hideK (HIY.out rfl)
    clear HIY HIN
    rcases Nat.eq_zero_or_pos j with h0|h0
    ·subst h0
     rw[Nat.add_zero]at cx
     clear rx
     have rx:=fun d os=>cell_regrown cx d os
     have HNX:=hideK (HST.out HI.out.1 HI.out.2 (fun h=>by omega))
     have hd:decide ((0:Int)<((0:Nat):Int))=false:=by simp
     clear HB HST
     go_wp2_with fail
     refine wp_region_quiet_below (by assumption) (by kernel_rfl) ?_
     repeat (go_big_quiet_step ((go_at_call 53;exact Calls.regrown_of (HIS.out _))))
     refine wpQuiet_nil ?_
     intro _ hw'
     obtain⟨⟨dq,osq⟩,hw''⟩:=hw'
     subst hw''
     have C2:=hideK (C1.out.call (below_regrown wr dq osq))
     generalize Go.Sort.grow (redrawn wr dq) osq=w8 at C2 ⊢
     clear r0 r1 r2 r3 r4 rx q0 q1 q2 q3 q4 cx
     go_wp2_with fail
     go_roundw
     case rel=>exact⟨1,by go_num,by omega,HNX.out,C2.out⟩
     case measure=>simp[intOf];omega
    ·obtain⟨j',rfl⟩:∃ j',j=j' + 1:=⟨j-1,by omega⟩
     obtain⟨p,hcp,hpe⟩:=HPV.out j' rfl
     rw[hpe]at HB HST
     clear hpe
     have rp:=fun d os=>cell_regrown hcp d os
     have hd:decide ((0:Int)<((j' + 1:Nat):Int))=true:=decide_eq_true (by omega)
     have hj3:(j':Int)<(n:Int):=by omega
     by_cases hge:x<=p
     ·have HE:=hideK (HB.out (fun hh=>by have:=hh.2.2 (by omega);omega))
      have hge':decide (x<=p)=true:=decide_eq_true hge
      clear HB HST
      go_wp2_with fail
      refine wp_region_quiet_below (by assumption) (by kernel_rfl) ?_
      repeat (go_big_quiet_step ((go_at_call 53;exact Calls.regrown_of (HIS.out _))))
      refine wpQuiet_nil ?_
      intro _ hw'
      obtain⟨⟨dq,osq⟩,hw''⟩:=hw'
      subst hw''
      have C2:=hideK (C1.out.call (below_regrown wr dq osq))
      generalize Go.Sort.grow (redrawn wr dq) osq=w8 at C2 ⊢
      clear r0 r1 r2 r3 r4 rx q0 q1 q2 q3 q4 cx
      clear rp hcp
      go_wp2_with fail
      go_ret
      exact⟨ret_boolP HE.out.symm,C2.out.low⟩
     ·have HNX:=hideK (HST.out HI.out.1 HI.out.2 (fun _=>by omega))
      have hge':decide (x<=p)=false:=decide_eq_false hge
      clear HB HST
      go_wp2_with fail
      refine wp_region_quiet_below (by assumption) (by kernel_rfl) ?_
      repeat (go_big_quiet_step ((go_at_call 53;exact Calls.regrown_of (HIS.out _))))
      refine wpQuiet_nil ?_
      intro _ hw'
      obtain⟨⟨dq,osq⟩,hw''⟩:=hw'
      subst hw''
      have C2:=hideK (C1.out.call (below_regrown wr dq osq))
      generalize Go.Sort.grow (redrawn wr dq) osq=w8 at C2 ⊢
      clear r0 r1 r2 r3 r4 rx q0 q1 q2 q3 q4 cx
      clear rp hcp
      go_wp2_with fail
      go_roundw
      case rel=>exact⟨j' + 1+1,by go_num,by omega,HNX.out,C2.out⟩
      case measure=>simp[intOf];omega
  ·have HQ1:=hideK (HYE.out (by have:=HR.out;rwa[show l.length=j by have:=HLN.out;omega]))
   rw[HLN.out]at HQ1
   have hltD:decide ((j:Int)<(n:Int))=false:=by simp;omega
   have hlt2:¬((j:Int)<(n:Int)):=by omega
   have HI1:=hideK (fun W=>isq_any q 0 c W)
   have HI2:=hideK (fun W=>isq_any g 0 3 W)
   have HI3:=hideK (fun W=>isq_any t 0 3 W)
   have HT3:Hid (isB t 0 3=true->¬t<3->t=3):=fun h h2=>by unfold isB at h;have:=of_decide_eq_true h;omega
   generalize isB q 0 c=A1 at HI1 HQ1
   generalize isB g 0 3=A2 at HI2 HQ1
   generalize isB t 0 3=A3 at HI3 HQ1 HT3
   clear HNO HYE HR
   cases N with
   |false =>
    have HE:Hid (Q=false):=by unfold Hid;rw[<-HQ1.out];rfl
    go_wp2_with fail
    refine(HNM.out _).mono ?_
    rintro e w1 ⟨rfl,hw⟩
    subst hw
    go_wp2_with fail
    go_ret
    exact⟨ret_boolP HE.out.symm,C1.out.low⟩
   |true =>
   cases A1 with
   |false =>
    have HE:Hid (Q=false):=by unfold Hid;rw[<-HQ1.out];rfl
    go_wp2_with fail
    refine(HNM.out _).mono ?_
    rintro e w1 ⟨rfl,hw⟩
    subst hw
    go_wp2_with fail
    refine(HI1.out _).mono ?_
    rintro e w2 ⟨rfl,hb⟩
    have C2:=hideK (C1.out.call hb)
    clear hb C1 q0 q1 q2 q3 q4
    obtain⟨q0,q1,q2,q3,q4⟩:=cells5 (C2.out.get 0 rfl)
    go_wp2_with fail
    go_ret
    exact⟨ret_boolP HE.out.symm,C2.out.low⟩
   |true =>
   cases A2 with
   |false =>
    have HE:Hid (Q=false):=by unfold Hid;rw[<-HQ1.out];rfl
    go_wp2_with fail
    refine(HNM.out _).mono ?_
    rintro e w1 ⟨rfl,hw⟩
    subst hw
    go_wp2_with fail
    refine(HI1.out _).mono ?_
    rintro e w2 ⟨rfl,hb⟩
    have C2:=hideK (C1.out.call hb)
    clear hb C1 q0 q1 q2 q3 q4
    obtain⟨q0,q1,q2,q3,q4⟩:=cells5 (C2.out.get 0 rfl)
    go_wp2_with fail
    refine(HI2.out _).mono ?_
    rintro e w3 ⟨rfl,hb⟩
    have C3:=hideK (C2.out.call hb)
    clear hb C2 q0 q1 q2 q3 q4
    obtain⟨q0,q1,q2,q3,q4⟩:=cells5 (C3.out.get 0 rfl)
    go_wp2_with fail
    go_ret
    exact⟨ret_boolP HE.out.symm,C3.out.low⟩
   |true =>
   by_cases hz:q=0/\¬g=0
   ·have HE:Hid (Q=false):=by unfold Hid;rw[<-HQ1.out,beq_iff_eq.2 hz.1,beq_eq_false_iff_ne.2 hz.2];rfl
    have hz1:(q==0)=true:=beq_iff_eq.2 hz.1
    have hz2:(g != 0)=true:=by simpa using hz.2
    clear hz
    go_wp2_with fail
    refine(HNM.out _).mono ?_
    rintro e w1 ⟨rfl,hw⟩
    subst hw
    go_wp2_with fail
    refine(HI1.out _).mono ?_
    rintro e w2 ⟨rfl,hb⟩
    have C2:=hideK (C1.out.call hb)
    clear hb C1 q0 q1 q2 q3 q4
    obtain⟨q0,q1,q2,q3,q4⟩:=cells5 (C2.out.get 0 rfl)
    go_wp2_with fail
    refine(HI2.out _).mono ?_
    rintro e w3 ⟨rfl,hb⟩
    have C3:=hideK (C2.out.call hb)
    clear hb C2 q0 q1 q2 q3 q4
    obtain⟨q0,q1,q2,q3,q4⟩:=cells5 (C3.out.get 0 rfl)
    go_wp2_with fail
    go_ret
    exact⟨ret_boolP HE.out.symm,C3.out.low⟩
   ·have hzz:((q==0) && !(g==0))=false:=by
     by_cases h1:q=0
     ·have h2:g=0:=by
       by_cases h3:g=0
       ·exact h3
       ·exact absurd ⟨h1,h3⟩ hz
      rw[beq_iff_eq.2 h2];simp
     ·rw[beq_eq_false_iff_ne.2 h1];rfl
    rw[hzz]at HQ1
    clear hzz
    cases A3 with
    |false =>
     have HE:Hid (Q=false):=by unfold Hid;rw[<-HQ1.out];rfl
     by_cases hq:q=0
     ·have hg:g=0:=by
       by_cases h3:g=0
       ·exact h3
       ·exact absurd ⟨hq,h3⟩ hz
      have hz1:(q==0)=true:=beq_iff_eq.2 hq
      have hz2:(g != 0)=false:=by simpa using hg
      clear hz hq hg
      go_wp2_with fail
      refine(HNM.out _).mono ?_
      rintro e w1 ⟨rfl,hw⟩
      subst hw
      go_wp2_with fail
      refine(HI1.out _).mono ?_
      rintro e w2 ⟨rfl,hb⟩
      have C2:=hideK (C1.out.call hb)
      clear hb C1 q0 q1 q2 q3 q4
      obtain⟨q0,q1,q2,q3,q4⟩:=cells5 (C2.out.get 0 rfl)
      go_wp2_with fail
      refine(HI2.out _).mono ?_
      rintro e w3 ⟨rfl,hb⟩
      have C3:=hideK (C2.out.call hb)
      clear hb C2 q0 q1 q2 q3 q4
      obtain⟨q0,q1,q2,q3,q4⟩:=cells5 (C3.out.get 0 rfl)
      go_wp2_with fail
      refine(HI3.out _).mono ?_
      rintro e w4 ⟨rfl,hb⟩
      have C4:=hideK (C3.out.call hb)
      clear hb C3 q0 q1 q2 q3 q4
      obtain⟨q0,q1,q2,q3,q4⟩:=cells5 (C4.out.get 0 rfl)
      go_wp2_with fail
      go_ret
      exact⟨ret_boolP HE.out.symm,C4.out.low⟩
     ·have hz1:(q==0)=false:=beq_eq_false_iff_ne.2 hq
      clear hz
      go_wp2_with fail
      refine(HNM.out _).mono ?_
      rintro e w1 ⟨rfl,hw⟩
      subst hw
      go_wp2_with fail
      refine(HI1.out _).mono ?_
      rintro e w2 ⟨rfl,hb⟩
      have C2:=hideK (C1.out.call hb)
      clear hb C1 q0 q1 q2 q3 q4
      obtain⟨q0,q1,q2,q3,q4⟩:=cells5 (C2.out.get 0 rfl)
      go_wp2_with fail
      refine(HI2.out _).mono ?_
      rintro e w3 ⟨rfl,hb⟩
      have C3:=hideK (C2.out.call hb)
      clear hb C2 q0 q1 q2 q3 q4
      obtain⟨q0,q1,q2,q3,q4⟩:=cells5 (C3.out.get 0 rfl)
      go_wp2_with fail
      refine(HI3.out _).mono ?_
      rintro e w4 ⟨rfl,hb⟩
      have C4:=hideK (C3.out.call hb)
      clear hb C3 q0 q1 q2 q3 q4
      obtain⟨q0,q1,q2,q3,q4⟩:=cells5 (C4.out.get 0 rfl)
      go_wp2_with fail
      go_ret
      exact⟨ret_boolP HE.out.symm,C4.out.low⟩
    |true =>
     have HQ2:Hid ((!(t==3) || (decide (n=0) && decide (q=0)))=Q):=by unfold Hid;rw[<-HQ1.out];rfl
     clear HQ1
     by_cases hq:q=0
     ·have hg:g=0:=by
       by_cases h3:g=0
       ·exact h3
       ·exact absurd ⟨hq,h3⟩ hz
      have hz1:(q==0)=true:=beq_iff_eq.2 hq
      have hz2:(g != 0)=false:=by simpa using hg
      have HQD:Hid (decide (q=0)=true):=decide_eq_true hq
      clear hz hq hg
      go_wp2_with fail
      refine(HNM.out _).mono ?_
      rintro e w1 ⟨rfl,hw⟩
      subst hw
      go_wp2_with fail
      refine(HI1.out _).mono ?_
      rintro e w2 ⟨rfl,hb⟩
      have C2:=hideK (C1.out.call hb)
      clear hb C1 q0 q1 q2 q3 q4
      obtain⟨q0,q1,q2,q3,q4⟩:=cells5 (C2.out.get 0 rfl)
      go_wp2_with fail
      refine(HI2.out _).mono ?_
      rintro e w3 ⟨rfl,hb⟩
      have C3:=hideK (C2.out.call hb)
      clear hb C2 q0 q1 q2 q3 q4
      obtain⟨q0,q1,q2,q3,q4⟩:=cells5 (C3.out.get 0 rfl)
      go_wp2_with fail
      refine(HI3.out _).mono ?_
      rintro e w4 ⟨rfl,hb⟩
      have C4:=hideK (C3.out.call hb)
      clear hb C3 q0 q1 q2 q3 q4
      obtain⟨q0,q1,q2,q3,q4⟩:=cells5 (C4.out.get 0 rfl)
      by_cases h3:t<3
      ·have HE:Hid (Q=true):=by unfold Hid;rw[<-HQ2.out,beq_eq_false_iff_ne.2 (by omega)];rfl
       go_wp2_with fail
       go_ret
       exact⟨ret_boolP HE.out.symm,C4.out.low⟩
      ·have ht3:=HT3.out (by first|rfl|trivial) (by omega)
       have h3d:decide (t<3)=false:=decide_eq_false h3
       by_cases h4:n=0
       ·have h4':((n:Int)==0)=true:=beq_iff_eq.2 (by omega)
        have HE:Hid (Q=true):=by unfold Hid;rw[<-HQ2.out,beq_iff_eq.2 ht3,decide_eq_true h4,HQD.out];rfl
        clear ht3
        go_wp2_with fail
        go_ret
        exact⟨ret_boolP HE.out.symm,C4.out.low⟩
       ·have h4':((n:Int)==0)=false:=beq_eq_false_iff_ne.2 (by omega)
        have HE:Hid (Q=false):=by unfold Hid;rw[<-HQ2.out,beq_iff_eq.2 ht3,decide_eq_false h4];rfl
        clear ht3
        go_wp2_with fail
        go_ret
        exact⟨ret_boolP HE.out.symm,C4.out.low⟩
     ·have hz1:(q==0)=false:=beq_eq_false_iff_ne.2 hq
      have HQD:Hid (decide (q=0)=false):=decide_eq_false hq
      clear hz
      go_wp2_with fail
      refine(HNM.out _).mono ?_
      rintro e w1 ⟨rfl,hw⟩
      subst hw
      go_wp2_with fail
      refine(HI1.out _).mono ?_
      rintro e w2 ⟨rfl,hb⟩
      have C2:=hideK (C1.out.call hb)
      clear hb C1 q0 q1 q2 q3 q4
      obtain⟨q0,q1,q2,q3,q4⟩:=cells5 (C2.out.get 0 rfl)
      go_wp2_with fail
      refine(HI2.out _).mono ?_
      rintro e w3 ⟨rfl,hb⟩
      have C3:=hideK (C2.out.call hb)
      clear hb C2 q0 q1 q2 q3 q4
      obtain⟨q0,q1,q2,q3,q4⟩:=cells5 (C3.out.get 0 rfl)
      go_wp2_with fail
      refine(HI3.out _).mono ?_
      rintro e w4 ⟨rfl,hb⟩
      have C4:=hideK (C3.out.call hb)
      clear hb C3 q0 q1 q2 q3 q4
      obtain⟨q0,q1,q2,q3,q4⟩:=cells5 (C4.out.get 0 rfl)
      by_cases h3:t<3
      ·have HE:Hid (Q=true):=by unfold Hid;rw[<-HQ2.out,beq_eq_false_iff_ne.2 (by omega)];rfl
       go_wp2_with fail
       go_ret
       exact⟨ret_boolP HE.out.symm,C4.out.low⟩
      ·have ht3:=HT3.out (by first|rfl|trivial) (by omega)
       have h3d:decide (t<3)=false:=decide_eq_false h3
       by_cases h4:n=0
       ·have h4':((n:Int)==0)=true:=beq_iff_eq.2 (by omega)
        have HE:Hid (Q=false):=by unfold Hid;rw[<-HQ2.out,beq_iff_eq.2 ht3,decide_eq_true h4,HQD.out];rfl
        clear ht3
        go_wp2_with fail
        go_ret
        exact⟨ret_boolP HE.out.symm,C4.out.low⟩
       ·have h4':((n:Int)==0)=false:=beq_eq_false_iff_ne.2 (by omega)
        have HE:Hid (Q=false):=by unfold Hid;rw[<-HQ2.out,beq_iff_eq.2 ht3,decide_eq_false h4];rfl
        clear ht3
        go_wp2_with fail
        go_ret
        exact⟨ret_boolP HE.out.symm,C4.out.low⟩
theorem other_spec (x:MO) (c:Int) (w:World) (h:HasAt w w.heap.size x) (hn:x.1.has.length<=1048576) (hnm:x.1.name.size<=maxLen) (hc0:0<=c) (hc1:c<=64) :
  Calls Tryz.prog 60 #[othV x,.int .i64 c] w fun e w'=>e=.returned (.bool (othB x.1 c))/\Below w.heap.size w w':=by
 obtain⟨a,cap,hv,_,_,hi⟩:=h
 unfold othV
 rw[hv]
 exact other_specrun x.1.name a _ cap x.1.has _ _ _ c w hi rfl hn hnm hc0 hc1 _ _ rfl (by rw[oth_eq,ask2_of];rfl)
end Go.Proofs.YtpddanmnlkcdpaaGreatDoor.Pe

