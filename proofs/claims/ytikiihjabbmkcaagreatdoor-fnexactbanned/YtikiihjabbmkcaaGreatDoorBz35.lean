/- Texts put together: KpSync, KpMay, PeOths, ShaSpecA, ShaStill. -/
import Derived.Test.YtikiihjabbmkcaaGreatDoorBz20
import Derived.Test.YtikiihjabbmkcaaGreatDoorBz12
import Derived.Test.YtikiihjabbmkcaaGreatDoorBz34
import Derived.Lib.QuietBelow
import Derived.BigQuiet
import Derived.Test.YtikiihjabbmkcaaGreatDoorBz32
import Derived.Test.YtikiihjabbmkcaaGreatDoorBz0
import Derived.Test.YtikiihjabbmkcaaGreatDoorBz3
import Derived.StillTailTactics
set_option maxRecDepth 100000
set_option maxHeartbeats 8000000
namespace Go.Proofs.YtikiihjabbmkcaaGreatDoor.Kp
open Go.RowKit
open Ls (blkL lowL)
def spanB (s:ByteArray) (y:Int):Bool:=decide (0<=y) && decide (y<=s.size)
theorem synced_any (z b:Int) (r s:ByteArray) (y:Int) (w:World) :
  Calls Tryz.prog 89 #[kV z b r s y] w fun e w'=>e=.returned (.bool (spanB s y))/\Below w.heap.size w w':=by
 have HB:Hid (Below w.heap.size w (w.alloc (kB z b r s y))):=(Below.refl _ _).alloc (Nat.le_refl _) _
 unfold kV
 unfold kB at HB
 by_cases h0:0<=y
 ·have HM:Hid (spanB s y=decide (y<=((s.size:Nat):Int))):=by unfold Hid spanB;rw[decide_eq_true h0,Bool.true_and]
  rw[HM.out]
  go_enter Tryz.func89,Tryz.ntmps89
  go_wp2_with fail
  go_ret
  exact⟨rfl,HB.out⟩
 ·have HM:Hid (spanB s y=false):=by unfold Hid spanB;rw[decide_eq_false h0,Bool.false_and]
  rw[HM.out]
  have h0':decide (0<=y)=false:=decide_eq_false h0
  go_enter Tryz.func89,Tryz.ntmps89
  go_wp2_with fail
  go_ret
  exact⟨rfl,HB.out⟩
end Go.Proofs.YtikiihjabbmkcaaGreatDoor.Kp


namespace Go.Proofs.YtikiihjabbmkcaaGreatDoor.Kp
open Go.RowKit
open Ls (rightB right_impl lV lowL blkL)
def mayB (z b:Int) (r s:ByteArray):Bool:=rightB z b r && decide (s.size<=8000)
def atB (z b:Int) (r s:ByteArray) (y:Int) (e:Nat):Bool:=mayB z b r s && decide (e=s.size) && spanB s y
def keepB (fit:Rec->Bool) (z b:Int) (r s:ByteArray) (y:Int):Bool:=atB z b r s y (allR fit s).2
theorem mayOpen_any (z b:Int) (r s:ByteArray) (y:Int) (w:World) :
  Calls Tryz.prog 88 #[kV z b r s y] w fun e w'=>e=.returned (.bool (mayB z b r s))/\Below w.heap.size w w':=by
 have HR:=hideK (fun W=>right_impl z b r W)
 have C0:=hideK ((Cx.nil w).new (kB z b r s y))
 unfold kV
 unfold kB at C0
 unfold lV at HR
 cases hr:rightB z b r with
 |false =>
  have HM:Hid (mayB z b r s=false):=by unfold Hid mayB;rw[hr];rfl
  rw[HM.out]
  rw[hr]at HR
  clear hr HM
  go_enter Tryz.func88,Tryz.ntmps88
  go_wp2_with fail
  refine(HR.out _).mono ?_
  rintro e w1 ⟨rfl,hb⟩
  have C1:=hideK (C0.out.call hb)
  obtain⟨l0,l1,l2,l3,l4⟩:=k_cells (C1.out.get 0 rfl)
  clear hb C0
  go_wp2_with fail
  go_ret
  exact⟨rfl,C1.out.low⟩
 |true =>
  have HM:Hid (mayB z b r s=decide (((s.size:Nat):Int)<=8000)):=by unfold Hid mayB;rw[hr,Bool.true_and,decide_eq_decide];omega
  rw[HM.out]
  rw[hr]at HR
  clear hr HM
  go_enter Tryz.func88,Tryz.ntmps88
  go_wp2_with fail
  refine(HR.out _).mono ?_
  rintro e w1 ⟨rfl,hb⟩
  have C1:=hideK (C0.out.call hb)
  obtain⟨l0,l1,l2,l3,l4⟩:=k_cells (C1.out.get 0 rfl)
  clear hb C0
  go_wp2_with fail
  go_ret
  exact⟨rfl,C1.out.low⟩
theorem mixedK:Tryz.prog.follows .mixedOrders=true:=by kernel_rfl
theorem right_run (g:Nat) (v:Value) (e:Nat) (z b:Int) (r s:ByteArray) (y:Int) (w:World) (A B Q:Bool) (hg:w.heap[g]? = some (wkB v e z b r s y)) (hA:mayB z b r s=A) (hB:((e:Int)==(s.size:Int))=B) (hQ:(A && B && spanB s y)=Q) :
  Calls Tryz.prog 46 #[.pointer (some ⟨g,0,none⟩)] w fun q w'=>q=.returned (.bool Q)/\Below w.heap.size w w':=by
 have HM:=hideK (fun W=>mayOpen_any z b r s y W)
 have HS:=hideK (fun W=>synced_any z b r s y W)
 obtain⟨c0,c1,c2,c3,c4,c5,c6⟩:=wk_cells hg
 unfold kV at HM HS
 rw[hA]at HM
 clear hA hg
 have g1:=fun d os=>cell_regrown c1 d os
 have g2:=fun d os=>cell_regrown c2 d os
 have g3:=fun d os=>cell_regrown c3 d os
 have g4:=fun d os=>cell_regrown c4 d os
 have g5:=fun d os=>cell_regrown c5 d os
 have g6:=fun d os=>cell_regrown c6 d os
 have hmx:=mixedK
 cases A with
 |false =>
  have HQ:Hid (Q=false):=by unfold Hid;rw[<-hQ];rfl
  clear hQ hB
  go_enter Tryz.func46,Tryz.ntmps46
  go_upto_region 1 with fail
  refine wp_region_quiet_below (by assumption) (by kernel_rfl) ?_
  repeat (go_big_quiet_step ((go_at_call 88;exact Calls.regrown_of (HM.out _))))
  refine wpQuiet_nil ?_
  intro _ hw'
  obtain⟨⟨dq,osq⟩,hw''⟩:=hw'
  subst hw''
  have K1:=hideK (below_regrown w dq osq)
  generalize Go.Sort.grow (redrawn w dq) osq=w8 at K1 ⊢
  clear g1 g2 g3 g4 g5 g6 c1 c2 c3 c4 c5 c6
  go_wp2_with fail
  go_ret
  exact⟨by rw[HQ.out];rfl,K1.out⟩
 |true =>
  cases B with
  |false =>
   have HQ:Hid (Q=false):=by unfold Hid;rw[<-hQ];rfl
   have hB2:¬(e:Int)=(s.size:Int):=by simpa using hB
   clear hQ
   go_enter Tryz.func46,Tryz.ntmps46
   go_upto_region 1 with fail
   refine wp_region_quiet_below (by assumption) (by kernel_rfl) ?_
   repeat (go_big_quiet_step ((go_at_call 88;exact Calls.regrown_of (HM.out _))))
   refine wpQuiet_nil ?_
   intro _ hw'
   obtain⟨⟨dq,osq⟩,hw''⟩:=hw'
   subst hw''
   have K1:=hideK (below_regrown w dq osq)
   generalize Go.Sort.grow (redrawn w dq) osq=w8 at K1 ⊢
   clear g1 g2 g3 g4 g5 g6 c1 c2 c3 c4 c5 c6
   go_wp2_with fail
   go_ret
   exact⟨by rw[HQ.out];rfl,K1.out⟩
  |true =>
   have HQ:Hid (Q=spanB s y):=by unfold Hid;rw[<-hQ];rfl
   clear hQ
   generalize spanB s y=S at HS HQ
   go_enter Tryz.func46,Tryz.ntmps46
   go_upto_region 1 with fail
   refine wp_region_quiet_below (by assumption) (by kernel_rfl) ?_
   repeat (go_big_quiet_step ((first|(go_at_call 88;exact Calls.regrown_of (HM.out _))|(go_at_call 89;exact Calls.regrown_of (HS.out _)))))
   refine wpQuiet_nil ?_
   intro _ hw'
   obtain⟨⟨dq,osq⟩,hw''⟩:=hw'
   subst hw''
   have K1:=hideK (below_regrown w dq osq)
   generalize Go.Sort.grow (redrawn w dq) osq=w8 at K1 ⊢
   clear g1 g2 g3 g4 g5 g6 c1 c2 c3 c4 c5 c6
   go_wp2_with fail
   go_ret
   exact⟨by rw[HQ.out];rfl,K1.out⟩
theorem right_any (g:Nat) (v:Value) (e:Nat) (z b:Int) (r s:ByteArray) (y:Int) (w:World) (hg:w.heap[g]? = some (wkB v e z b r s y)) :
  Calls Tryz.prog 46 #[.pointer (some ⟨g,0,none⟩)] w fun q w'=>q=.returned (.bool (atB z b r s y e))/\Below w.heap.size w w' :=
 right_run g v e z b r s y w _ _ _ hg rfl rfl (by
  unfold atB
  congr 2
  by_cases h:e=s.size
  ·rw[decide_eq_true h,h];simp
  ·rw[decide_eq_false h];simp;omega)
end Go.Proofs.YtikiihjabbmkcaaGreatDoor.Kp


namespace Go.Proofs.YtikiihjabbmkcaaGreatDoor.Pe
open Go.RowKit
open Kp
open Ls (lowL)
def Small (m:List MO):Prop:=∀ x∈m,x.1.has.length<=1048576/\x.1.name.size<=maxLen
theorem others_impl (a:Option Addr) (n cap:Nat) (m:List MO) (c:Int) (w:World) (h:Oths w w.heap.size a m) (hm:m.length=n) (hn:n<=1048576) (hsm:Small m) :
  Calls Tryz.prog 94 #[.slice a n cap,.int .i64 c] w fun e w'=>e=.returned (.bool (othsB (oths m) c))/\Below w.heap.size w w':=by
 have HS:=hideK h
 have HM:=hideK hm
 have HSM:=hideK hsm
 have HLONG:Hid (4<n->othsB (oths m) c=false):=fun h=>othsB_long (by rw[oths_length,HM.out];exact h)
 have HYE:Hid (n<=4->OthsTo (oths m) c n->othsB (oths m) c=true):=fun h1 h2=>othsB_yes (by rw[oths_length,HM.out];exact h1) (by rw[oths_length,HM.out];exact h2)
 have HNO1:Hid (∀ j (hj:j<m.length),othB m[j].1 c=false->othsB (oths m) c=false):=fun j hj h=>othsB_no (fun hh=>by
  have:=(hh j (by rw[oths_length];exact hj) (by rw[oths_length];exact hj)).1
  rw[oths_get m j hj,h]at this
  cases this)
 have HNO2:Hid (∀ j (hj:j+1<m.length),ltN (m[j]'(Nat.lt_of_succ_lt hj)).1.name m[j+1].1.name=false->othsB (oths m) c=false):=fun j hj h=>othsB_no (fun hh=>by
  have:=(hh (j+1) (by rw[oths_length];exact hj) (by rw[oths_length];exact hj)).2 j (by rw[oths_length];omega) rfl
  rw[oths_get m j (by omega),oths_get m (j+1) hj,h]at this
  cases this)
 have hmx:=mixedK
 clear h hm hsm
 generalize othsB (oths m) c=R at HLONG HYE HNO1 HNO2 ⊢
 by_cases h4:4<n
 ·have h4':(4:Int)<(n:Int):=by omega
  have HE:=hideK (HLONG.out h4)
  go_enter Tryz.func94,Tryz.ntmps94
  go_wp2_with fail
  go_ret
  exact⟨ret_boolP HE.out.symm,Below.refl _ _⟩
 ·have h4':¬(4:Int)<(n:Int):=by omega
  go_enter Tryz.func94,Tryz.ntmps94
  go_wp2_with fail
  go_loopw [12] (fun jv wr=>∃ j:Nat,jv=.int .i64 j/\j<=n/\OthsTo (oths m) c j/\Below w.heap.size w wr) (fun jv _=>n-(intOf jv).toNat)
  case atStart=>exact⟨0,rfl,Nat.zero_le _,oths_zero _ _,Below.refl _ _⟩
  case round =>
   obtain⟨j,rfl,hj,hr,hbel⟩:=hrel
   have HR:=hideK hr
   have GB:=hideK hbel
   clear hr hbel
   by_cases hlt:j<n
   ·have hlt':(j:Int)<(n:Int):=by omega
    have hjl:j<m.length:=by rw[HM.out];exact hlt
    obtain⟨b,off,rfl,hb,hc⟩:=HS.out.some (by omega)
    have F1:=hideK ((hc j hjl).below GB.out hb)
    have HA:=hideK (HS.out.2 m[j] (List.getElem_mem hjl))
    have HSX:=hideK (HSM.out m[j] (List.getElem_mem hjl))
    have HB1:=hideK (HNO1.out j hjl)
    have HST:Hid (othB m[j].1 c=true->(∀ i (hi:i<m.length),i+1=j->ltN m[i].1.name m[j].1.name=true)->OthsTo (oths m) c (j+1)):=fun h1 h2=>oths_step (by rw[oths_length];exact hjl) HR.out (by rw[oths_get m j hjl];exact h1) (fun i hi hij=>by rw[oths_length]at hi;rw[oths_get m i hi,oths_get m j hjl];exact h2 i hi hij)
    have HPR:Hid (∀ j' (_:j=j' + 1),∃ nm':ByteArray,wr.cell? ⟨b,off+j' * 5,none⟩=some (.string nm')/\(ltN nm' m[j].1.name=false->R=false)/\(ltN nm' m[j].1.name=true->∀ i (hi:i<m.length),i+1=j->ltN m[i].1.name m[j].1.name=true)):=fun j' e=>by
     subst e
     refine⟨(m[j']'(by omega)).1.name,((hc j' (by omega)).below GB.out hb).1,fun h=>HNO2.out j' hjl h,fun h i hi hij=>?_⟩
     obtain rfl:i=j':=by omega
     exact h
    have HHA:=hideK (fun W (hW:Below w.heap.size w W)=>other_any m[j] c W ((HA.out.below hW).mono hW.size) HSX.out.1 HSX.out.2)
    obtain⟨ax,cx,hxv,_,_,_⟩:=HA.out
    unfold othV at HHA
    obtain⟨d0,d1,d2,d3,d4⟩:=F1.out
    rw[hxv]at d1 HHA
    generalize othB m[j].1 c=Q at HB1 HST HHA
    generalize m[j].1.name=nm at d0 HPR HHA HST
    generalize m[j].1.has.length=k at d1 HHA
    generalize m[j].1.asked=q at d2 HHA
    generalize m[j].1.age=g at d3 HHA
    generalize m[j].1.strikes=t at d4 HHA
    clear hc hxv HA HSX F1
    have C1:=hideK (Cx.new (l:=[]) ⟨GB.out,fun _ h=>absurd h List.not_mem_nil⟩ (.cells #[.string nm,.slice ax k cx,.int .i64 q,.int .i64 g,.int .i64 t] 89))
    have hbz:b<wr.heap.size:=Nat.lt_of_lt_of_le hb GB.out.size
    have BA:Hid (Below wr.heap.size wr (wr.alloc (.cells #[.string nm,.slice ax k cx,.int .i64 q,.int .i64 g,.int .i64 t] 89))):=(Below.refl _ _).alloc (Nat.le_refl _) _
    go_upto_region 6 with fail
    generalize wr.alloc (.cells #[.string nm,.slice ax k cx,.int .i64 q,.int .i64 g,.int .i64 t] 89)=W1 at C1 BA ⊢
    have HPR2:Hid (∀ j' (_:j=j' + 1),∃ nm':ByteArray,W1.cell? ⟨b,off+j' * 5,none⟩=some (.string nm')/\(ltN nm' nm=false->R=false)/\(ltN nm' nm=true->∀ i (hi:i<m.length),i+1=j->ltN m[i].1.name nm=true)):=fun j' e=>by
     obtain⟨nm',h1,h2⟩:=HPR.out j' e
     exact⟨nm',(BA.out.cell (p:=⟨b,off+j' * 5,none⟩) hbz).trans h1,h2⟩
    generalize wr.heap.size=g1 at C1 ⊢
    obtain⟨q0,q1,q2,q3,q4⟩:=cells5 (C1.out.get 0 rfl)
    have r0:=fun d os=>cell_regrown q0 d os
    have r1:=fun d os=>cell_regrown q1 d os
    have r2:=fun d os=>cell_regrown q2 d os
    have r3:=fun d os=>cell_regrown q3 d os
    have r4:=fun d os=>cell_regrown q4 d os
    clear d0 d1 d2 d3 d4 HPR BA hbz
    cases Q with
    |false =>
     have HE:=hideK (HB1.out rfl)
     refine wp_region_quiet_below (by assumption) (by kernel_rfl) ?_
     repeat (go_big_quiet_step ((go_at_call 135;exact Calls.regrown_of (HHA.out _ (lowL C1.out.low (below_regrown _ _ _))))))
     refine wpQuiet_nil ?_
     intro _ hw'
     obtain⟨⟨dq,osq⟩,hw''⟩:=hw'
     subst hw''
     have K1:=hideK (lowL C1.out.low (below_regrown W1 dq osq))
     generalize Go.Sort.grow (redrawn W1 dq) osq=w8 at K1 ⊢
     clear r0 r1 r2 r3 r4 q0 q1 q2 q3 q4
     go_wp2_with fail
     go_ret
     exact⟨ret_boolP HE.out.symm,K1.out⟩
    |true =>
     rcases Nat.eq_zero_or_pos j with h0|h0
     ·subst h0
      have HNX:=hideK (HST.out rfl (fun i hi e=>by omega))
      have hd:decide ((0:Int)<((0:Nat):Int))=false:=by simp
      refine wp_region_quiet_below (by assumption) (by kernel_rfl) ?_
      repeat (go_big_quiet_step ((go_at_call 135;exact Calls.regrown_of (HHA.out _ (lowL C1.out.low (below_regrown _ _ _))))))
      refine wpQuiet_nil ?_
      intro _ hw'
      obtain⟨⟨dq,osq⟩,hw''⟩:=hw'
      subst hw''
      have K1:=hideK (lowL C1.out.low (below_regrown W1 dq osq))
      generalize Go.Sort.grow (redrawn W1 dq) osq=w8 at K1 ⊢
      clear r0 r1 r2 r3 r4 q0 q1 q2 q3 q4
      go_wp2_with fail
      go_roundw
      case rel=>exact⟨1,by go_num,by omega,HNX.out,K1.out⟩
      case measure=>simp[intOf];omega
     ·obtain⟨j',rfl⟩:∃ j',j=j' + 1:=⟨j-1,by omega⟩
      obtain⟨nm',hcn,hbad,hgood⟩:=HPR2.out j' rfl
      have r5:=fun d os=>cell_regrown hcn d os
      have hd:decide ((0:Int)<((j' + 1:Nat):Int))=true:=decide_eq_true (by omega)
      have hj3:(j':Int)<(n:Int):=by omega
      unfold ltN at hbad hgood
      cases hL:Op.bytesLess nm'.toList nm.toList with
      |false =>
       have HE:=hideK (hbad hL)
       clear hbad hgood HB1
       refine wp_region_quiet_below (by assumption) (by kernel_rfl) ?_
       repeat (go_big_quiet_step ((go_at_call 135;exact Calls.regrown_of (HHA.out _ (lowL C1.out.low (below_regrown _ _ _))))))
       refine wpQuiet_nil ?_
       intro _ hw'
       obtain⟨⟨dq,osq⟩,hw''⟩:=hw'
       subst hw''
       have K1:=hideK (lowL C1.out.low (below_regrown W1 dq osq))
       generalize Go.Sort.grow (redrawn W1 dq) osq=w8 at K1 ⊢
       clear r0 r1 r2 r3 r4 q0 q1 q2 q3 q4 r5 hcn
       go_wp2_with fail
       go_ret
       exact⟨ret_boolP HE.out.symm,K1.out⟩
      |true =>
       have HNX:=hideK (HST.out rfl (hgood hL))
       clear hbad hgood HB1
       refine wp_region_quiet_below (by assumption) (by kernel_rfl) ?_
       repeat (go_big_quiet_step ((go_at_call 135;exact Calls.regrown_of (HHA.out _ (lowL C1.out.low (below_regrown _ _ _))))))
       refine wpQuiet_nil ?_
       intro _ hw'
       obtain⟨⟨dq,osq⟩,hw''⟩:=hw'
       subst hw''
       have K1:=hideK (lowL C1.out.low (below_regrown W1 dq osq))
       generalize Go.Sort.grow (redrawn W1 dq) osq=w8 at K1 ⊢
       clear r0 r1 r2 r3 r4 q0 q1 q2 q3 q4 r5 hcn
       go_wp2_with fail
       go_roundw
       case rel=>exact⟨j' + 1+1,by go_num,by omega,HNX.out,K1.out⟩
       case measure=>simp[intOf];omega
   ·have HE:=hideK (HYE.out (by omega) (by have:=HR.out;rwa[show j=n by omega]at this))
    go_wp2_with fail
    go_ret
    exact⟨ret_boolP HE.out.symm,GB.out⟩
end Go.Proofs.YtikiihjabbmkcaaGreatDoor.Pe


namespace Go.Proofs.YtikiihjabbmkcaaGreatDoor.Sh
open Go.RowKit
theorem keys_any (w:World):Calls Tryz.prog 211 #[] w fun e w'=>e=.returned (.slice (some ⟨w.heap.size,0,none⟩) 64 64)/\w'=w.alloc (.cells (rowF .u32 64 keyF) 214):=by
 go_enter Tryz.func211,Tryz.ntmps211
 go_wp2
 go_ret
 exact⟨rfl,rfl⟩
theorem start_any (w:World):Calls Tryz.prog 185 #[] w fun e w'=>e=.returned (.slice (some ⟨w.heap.size,0,none⟩) 8 8)/\w'=w.alloc (.cells (rowF .i64 8 firstF) 2):=by
 go_enter Tryz.func185,Tryz.ntmps185
 go_wp2
 go_ret
 exact⟨rfl,rfl⟩
end Go.Proofs.YtikiihjabbmkcaaGreatDoor.Sh


/- Two laws of the library on regions that draw their order and only read, the world spelled as a walk spells it. -/
namespace Go.Proofs.YtikiihjabbmkcaaGreatDoor.Sh
theorem still_lit {P:Program} {id:Nat} {Q:Exit->Act->World->Prop} {a:Act} {w:World} {l:List Oper} (hm:P.follows .mixedOrders=true) (hB:Region.lexB .any l.toArray=true)
  (h:wpStill P l.toArray w.drew (fun a'=>Q .normal a' w.drew) l a):(Code.region id l.toArray true).wp P Q a w :=
 wp_region_still_lit hm hB h
theorem still_tail {P:Program} {id:Nat} {Q:Exit->Act->World->Prop} {a:Act} {w:World} {l:List Oper} (n:Nat) (hm:P.follows .mixedOrders=true) (hB:Region.lexTailB .any l.toArray n=true)
  (h:wpStill P l.toArray w.drew (fun a'=>wpList P l.toArray Q (l.drop n) a' w.drew) (l.take n) a):(Code.region id l.toArray true).wp P Q a w :=
 wp_region_still_tail n hm hB h
end Go.Proofs.YtikiihjabbmkcaaGreatDoor.Sh

