/- Texts put together: PqRight. -/
import Derived.Test.YtpddanmnlkcdpaaGreatDoorMz37
import Derived.Test.YtpddanmnlkcdpaaGreatDoorMz35
import Derived.Test.YtpddanmnlkcdpaaGreatDoorMz41
set_option maxRecDepth 100000
set_option maxHeartbeats 8000000
namespace Go.Proofs.YtpddanmnlkcdpaaGreatDoor.Pe
open Go.RowKit
open Kp
open Ls (HH hh_keep lV lowL blkL countN count_spec countN_le rightB)
theorem peerRight_spec (fit:Rec->Bool) (z b:Int) (r s:ByteArray) (y:Int) (a:Option Addr) (n cap:Nat) (m:List MO) (w:World) (hs:s.size<=1048576) (hf:rightB z b r=true->FitS fit z b r w) (h:Oths w w.heap.size a m) (hm:m.length=n) (hn:n<=1048576) (hsm:Small m) :
  Calls Tryz.prog 26 #[peerV z b r s y (.slice a n cap)] w fun e w'=>e=.returned (.bool (peerB fit z b r s y (oths m)))/\Below w.heap.size w w':=by
 have C0:=hideK ((Cx.nil w).new (peerO z b r s y (.slice a n cap)))
 have HKR:=hideK (fun W (hW:Below w.heap.size w W)=>keepRight_spec fit z b r s y W hs (fun hr=>(hf hr).later hW))
 have HCO:=hideK (fun W=>count_spec z b r W)
 have HCL:=hideK (countN_le z b r)
 have HS:=hideK h
 have HM:=hideK hm
 have HSM:=hideK hsm
 have HPB:Hid (peerB fit z b r s y (oths m)=(keepB fit z b r s y && othsB (oths m) (countN z b r:Nat))):=rfl
 generalize peerB fit z b r s y (oths m)=P at HPB ⊢
 have hmx:=mixedK
 clear hf h hm hsm
 unfold lV at HCO
 unfold kV at HKR
 unfold peerV
 unfold peerO at C0
 cases hk:keepB fit z b r s y with
 |false =>
  rw[hk]at HKR
  have HP:Hid (P=false):=by unfold Hid;rw[HPB.out,hk];rfl
  clear hk HPB
  go_enter Tryz.func26,Tryz.ntmps26
  go_wp2_with fail
  generalize w.alloc _=W0 at C0 ⊢
  refine(HKR.out _ C0.out.low).mono ?_
  rintro e w1 ⟨rfl,hb⟩
  have C1:=hideK (C0.out.call hb)
  clear hb C0
  go_wp2_with fail
  go_ret
  exact⟨ret_boolP HP.out.symm,C1.out.low⟩
 |true =>
  rw[hk]at HKR
  have HP:Hid (P=othsB (oths m) (countN z b r:Nat)):=by unfold Hid;rw[HPB.out,hk];rfl
  clear hk HPB
  by_cases h4:4<n
  ·have h4':(4:Int)<(n:Int):=by omega
   have HE:Hid (P=false):=by unfold Hid;rw[HP.out];exact othsB_long (by rw[oths_length,HM.out];exact h4)
   go_enter Tryz.func26,Tryz.ntmps26
   go_wp2_with fail
   generalize w.alloc _=W0 at C0 ⊢
   refine(HKR.out _ C0.out.low).mono ?_
   rintro e w1 ⟨rfl,hb⟩
   have C1:=hideK (C0.out.call hb)
   clear hb C0
   obtain⟨p0,p1,p2,p3,p4,p5⟩:=cellsP6 (C1.out.get 0 rfl)
   go_wp2_with fail
   go_ret
   exact⟨ret_boolP HE.out.symm,C1.out.low⟩
  ·have h4':¬(4:Int)<(n:Int):=by omega
   generalize countN z b r=cn at HCO HCL HP
   have HYE:Hid (OthsTo (oths m) (cn:Nat) n->P=true):=fun h2=>by rw[HP.out];exact othsB_yes (by rw[oths_length,HM.out];omega) (by rw[oths_length,HM.out];exact h2)
   have HNO1:Hid (∀ j (hj:j<m.length),othB m[j].1 (cn:Nat)=false->P=false):=fun j hj h=>by
    rw[HP.out]
    exact othsB_no (fun hh=>by
     have:=(hh j (by rw[oths_length];exact hj) (by rw[oths_length];exact hj)).1
     rw[oths_get m j hj,h]at this
     cases this)
   have HNO2:Hid (∀ j (hj:j+1<m.length),ltN (m[j]'(Nat.lt_of_succ_lt hj)).1.name m[j+1].1.name=false->P=false):=fun j hj h=>by
    rw[HP.out]
    exact othsB_no (fun hh=>by
     have:=(hh (j+1) (by rw[oths_length];exact hj) (by rw[oths_length];exact hj)).2 j (by rw[oths_length];omega) rfl
     rw[oths_get m j (by omega),oths_get m (j+1) hj,h]at this
     cases this)
   clear HP
   go_enter Tryz.func26,Tryz.ntmps26
   go_wp2_with fail
   generalize w.alloc _=W0 at C0 ⊢
   refine(HKR.out _ C0.out.low).mono ?_
   rintro e w1 ⟨rfl,hb⟩
   have C1:=hideK (C0.out.call hb)
   clear hb C0
   obtain⟨p0,p1,p2,p3,p4,p5⟩:=cellsP6 (C1.out.get 0 rfl)
   go_wp2_with fail
   refine(HCO.out _).mono ?_
   rintro e w2 ⟨rfl,hb⟩
   have C2:=hideK (C1.out.call hb)
   clear hb C1 p0 p1 p2 p3 p4 p5
   go_wp2_with fail
   go_loopw [4] (fun jv wr=>∃ j:Nat,jv=.int .i64 j/\j<=n/\OthsTo (oths m) (cn:Nat) j/\Cx w wr [(w.heap.size,.cells #[.int .i64 z,.int .i64 b,.string r,.string s,.int .i64 y,.slice a n cap] 35)]) (fun jv _=>n-(intOf jv).toNat)
   case atStart=>exact⟨0,rfl,Nat.zero_le _,oths_zero _ _,C2.out⟩
   case round =>
    obtain⟨j,rfl,hj,hr,hcx⟩:=hrel
    have HR:=hideK hr
    have C3:=hideK hcx
    clear hr hcx C2
    obtain⟨p0,p1,p2,p3,p4,p5⟩:=cellsP6 (C3.out.get 0 rfl)
    by_cases hlt:j<n
    ·have hlt':(j:Int)<(n:Int):=by omega
     have hjl:j<m.length:=by rw[HM.out];exact hlt
     obtain⟨b',off,rfl,hb,hc⟩:=HS.out.some (by omega)
     have F1:=hideK ((hc j hjl).below C3.out.low hb)
     have HA:=hideK (HS.out.2 m[j] (List.getElem_mem hjl))
     have HSX:=hideK (HSM.out m[j] (List.getElem_mem hjl))
     have HB1:=hideK (HNO1.out j hjl)
     have HST:Hid (othB m[j].1 (cn:Nat)=true->(∀ i (hi:i<m.length),i+1=j->ltN m[i].1.name m[j].1.name=true)->OthsTo (oths m) (cn:Nat) (j+1)):=fun h1 h2=>oths_step (by rw[oths_length];exact hjl) HR.out (by rw[oths_get m j hjl];exact h1) (fun i hi hij=>by rw[oths_length]at hi;rw[oths_get m i hi,oths_get m j hjl];exact h2 i hi hij)
     have HPR:Hid (∀ j' (_:j=j' + 1),∃ nm':ByteArray,wr.cell? ⟨b',off+j' * 5,none⟩=some (.string nm')/\(ltN nm' m[j].1.name=false->P=false)/\(ltN nm' m[j].1.name=true->∀ i (hi:i<m.length),i+1=j->ltN m[i].1.name m[j].1.name=true)):=fun j' e=>by
      subst e
      refine⟨(m[j']'(by omega)).1.name,((hc j' (by omega)).below C3.out.low hb).1,fun h=>HNO2.out j' hjl h,fun h i hi hij=>?_⟩
      obtain rfl:i=j':=by omega
      exact h
     have HHA:=hideK (fun W (hW:Below w.heap.size w W)=>other_spec m[j] (cn:Nat) W ((HA.out.below hW).mono hW.size) HSX.out.1 HSX.out.2 (by omega) (by have:=HCL.out;omega))
     obtain⟨ax,cx,hxv,_,_,_⟩:=HA.out
     unfold othV at HHA
     obtain⟨d0,d1,d2,d3,d4⟩:=F1.out
     rw[hxv]at d1 HHA
     generalize othB m[j].1 (cn:Nat)=Q at HB1 HST HHA
     generalize m[j].1.name=nm at d0 HPR HHA HST
     generalize m[j].1.has.length=k at d1 HHA
     generalize m[j].1.asked=q at d2 HHA
     generalize m[j].1.age=g at d3 HHA
     generalize m[j].1.strikes=t at d4 HHA
     clear hc hxv HA HSX F1
     have hj5:j*5=j*5:=rfl
     clear hj5
     have r5:=fun d os=>cell_regrown p5 d os
     have e0:=fun d os=>cell_regrown d0 d os
     have e1:=fun d os=>cell_regrown d1 d os
     have e2:=fun d os=>cell_regrown d2 d os
     have e3:=fun d os=>cell_regrown d3 d os
     have e4:=fun d os=>cell_regrown d4 d os
     cases Q with
     |false =>
      have HE:=hideK (HB1.out rfl)
      go_wp2_with fail
      refine wp_region_quiet_below (by assumption) (by kernel_rfl) ?_
      repeat (go_big_quiet_step ((go_at_call 60;exact Calls.regrown_of (HHA.out _ (lowL C3.out.low (below_regrown _ _ _))))))
      refine wpQuiet_nil ?_
      intro _ hw'
      obtain⟨⟨dq,osq⟩,hw''⟩:=hw'
      subst hw''
      have K1:=hideK (C3.out.call (below_regrown wr dq osq))
      generalize Go.Sort.grow (redrawn wr dq) osq=w8 at K1 ⊢
      clear r5 e0 e1 e2 e3 e4 d0 d1 d2 d3 d4 p0 p1 p2 p3 p4 p5
      go_wp2_with fail
      go_ret
      exact⟨ret_boolP HE.out.symm,K1.out.low⟩
     |true =>
      rcases Nat.eq_zero_or_pos j with h0|h0
      ·subst h0
       simp only[Nat.zero_mul,Nat.add_zero]at d0 d1 d2 d3 d4 e0 e1 e2 e3 e4
       have HNX:=hideK (HST.out rfl (fun i hi e=>by omega))
       have hd:decide ((0:Int)<((0:Nat):Int))=false:=by simp
       go_wp2_with fail
       refine wp_region_quiet_below (by assumption) (by kernel_rfl) ?_
       repeat (go_big_quiet_step ((go_at_call 60;exact Calls.regrown_of (HHA.out _ (lowL C3.out.low (below_regrown _ _ _))))))
       refine wpQuiet_nil ?_
       intro _ hw'
       obtain⟨⟨dq,osq⟩,hw''⟩:=hw'
       subst hw''
       have K1:=hideK (C3.out.call (below_regrown wr dq osq))
       generalize Go.Sort.grow (redrawn wr dq) osq=w8 at K1 ⊢
       clear r5 e0 e1 e2 e3 e4 d0 d1 d2 d3 d4 p0 p1 p2 p3 p4 p5
       go_wp2_with fail
       go_roundw
       case rel=>exact⟨1,by go_num,by omega,HNX.out,K1.out⟩
       case measure=>simp[intOf];omega
      ·obtain⟨j',rfl⟩:∃ j',j=j' + 1:=⟨j-1,by omega⟩
       obtain⟨nm',hcn,hbad,hgood⟩:=HPR.out j' rfl
       have r6:=fun d os=>cell_regrown hcn d os
       have hd:decide ((0:Int)<((j' + 1:Nat):Int))=true:=decide_eq_true (by omega)
       have hj3:(j':Int)<(n:Int):=by omega
       unfold ltN at hbad hgood
       cases hL:Op.bytesLess nm'.toList nm.toList with
       |false =>
        have HE:=hideK (hbad hL)
        clear hbad hgood HB1
        go_wp2_with fail
        refine wp_region_quiet_below (by assumption) (by kernel_rfl) ?_
        repeat (go_big_quiet_step ((go_at_call 60;exact Calls.regrown_of (HHA.out _ (lowL C3.out.low (below_regrown _ _ _))))))
        refine wpQuiet_nil ?_
        intro _ hw'
        obtain⟨⟨dq,osq⟩,hw''⟩:=hw'
        subst hw''
        have K1:=hideK (C3.out.call (below_regrown wr dq osq))
        generalize Go.Sort.grow (redrawn wr dq) osq=w8 at K1 ⊢
        clear r5 r6 e0 e1 e2 e3 e4 d0 d1 d2 d3 d4 p0 p1 p2 p3 p4 p5 hcn
        go_wp2_with fail
        go_ret
        exact⟨ret_boolP HE.out.symm,K1.out.low⟩
       |true =>
        have HNX:=hideK (HST.out rfl (hgood hL))
        clear hbad hgood HB1
        go_wp2_with fail
        refine wp_region_quiet_below (by assumption) (by kernel_rfl) ?_
        repeat (go_big_quiet_step ((go_at_call 60;exact Calls.regrown_of (HHA.out _ (lowL C3.out.low (below_regrown _ _ _))))))
        refine wpQuiet_nil ?_
        intro _ hw'
        obtain⟨⟨dq,osq⟩,hw''⟩:=hw'
        subst hw''
        have K1:=hideK (C3.out.call (below_regrown wr dq osq))
        generalize Go.Sort.grow (redrawn wr dq) osq=w8 at K1 ⊢
        clear r5 r6 e0 e1 e2 e3 e4 d0 d1 d2 d3 d4 p0 p1 p2 p3 p4 p5 hcn
        go_wp2_with fail
        go_roundw
        case rel=>exact⟨j' + 1+1,by go_num,by omega,HNX.out,K1.out⟩
        case measure=>simp[intOf];omega
    ·have HE:=hideK (HYE.out (by have:=HR.out;rwa[show j=n by omega]at this))
     have hltD:decide ((j:Int)<(n:Int))=false:=by simp;omega
     have hlt2:¬((j:Int)<(n:Int)):=by omega
     go_wp2_with fail
     go_ret
     exact⟨ret_boolP HE.out.symm,C3.out.low⟩
end Go.Proofs.YtpddanmnlkcdpaaGreatDoor.Pe

