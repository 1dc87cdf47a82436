/- Texts put together: PqRight, Climb, InclWalks, InclSpec, LsFits. -/
import Derived.Test.YtikiihjabbmkcaaGreatDoorBz42
import Derived.Test.YtikiihjabbmkcaaGreatDoorBz41
import Derived.Test.YtikiihjabbmkcaaGreatDoorBz43
import Derived.Test.YtikiihjabbmkcaaGreatDoorBz39
import Derived.Deep.RegionWith
import Derived.BigRegion
import Derived.Test.YtikiihjabbmkcaaGreatDoorBz20
import Derived.Lib.QuietBelow
set_option maxRecDepth 100000
set_option maxHeartbeats 8000000
namespace Go.Proofs.YtikiihjabbmkcaaGreatDoor.Pe
open Go.RowKit
open Kp
open Ls (HH hh_keep lV lowL blkL countN count_spec countN_le rightB)
theorem peerRight_spec (fit:Rec->Bool) (z b:Int) (r s:ByteArray) (y:Int) (a:Option Addr) (n cap:Nat) (m:List MO) (w:World) (hs:s.size<=1048576) (hf:rightB z b r=true->FitS fit z b r w) (h:Oths w w.heap.size a m) (hm:m.length=n) (hn:n<=1048576) (hsm:Small m) :
  Calls Tryz.prog 17 #[peerV z b r s y (.slice a n cap)] w fun e w'=>e=.returned (.bool (peerB fit z b r s y (oths m)))/\Below w.heap.size w w':=by
 have C0:=hideK ((Cx.nil w).new (peerO z b r s y (.slice a n cap)))
 have HKR:=hideK (fun W (hW:Below w.heap.size w W)=>keepRight_spec fit z b r s y W hs (fun hr=>(hf hr).later hW))
 have HCO:=hideK (fun W=>count_spec z b r W)
 have HCL:=hideK (countN_le z b r)
 have HS:=hideK h
 have HM:=hideK hm
 have HSM:=hideK hsm
 have HPB:Hid (peerB fit z b r s y (oths m)=(keepB fit z b r s y && othsB (oths m) (countN z b r:Nat))):=rfl
 generalize peerB fit z b r s y (oths m)=P at HPB ⊢
 have hmx:=mixedK
 clear hf h hm hsm
 unfold lV at HCO
 unfold kV at HKR
 unfold peerV
 unfold peerO at C0
 cases hk:keepB fit z b r s y with
 |false =>
  rw[hk]at HKR
  have HP:Hid (P=false):=by unfold Hid;rw[HPB.out,hk];rfl
  clear hk HPB
  go_enter Tryz.func17,Tryz.ntmps17
  go_wp2_with fail
  generalize w.alloc _=W0 at C0 ⊢
  refine(HKR.out _ C0.out.low).mono ?_
  rintro e w1 ⟨rfl,hb⟩
  have C1:=hideK (C0.out.call hb)
  clear hb C0
  go_wp2_with fail
  go_ret
  exact⟨ret_boolP HP.out.symm,C1.out.low⟩
 |true =>
  rw[hk]at HKR
  have HP:Hid (P=othsB (oths m) (countN z b r:Nat)):=by unfold Hid;rw[HPB.out,hk];rfl
  clear hk HPB
  by_cases h4:4<n
  ·have h4':(4:Int)<(n:Int):=by omega
   have HE:Hid (P=false):=by unfold Hid;rw[HP.out];exact othsB_long (by rw[oths_length,HM.out];exact h4)
   go_enter Tryz.func17,Tryz.ntmps17
   go_wp2_with fail
   generalize w.alloc _=W0 at C0 ⊢
   refine(HKR.out _ C0.out.low).mono ?_
   rintro e w1 ⟨rfl,hb⟩
   have C1:=hideK (C0.out.call hb)
   clear hb C0
   obtain⟨p0,p1,p2,p3,p4,p5⟩:=cellsP6 (C1.out.get 0 rfl)
   go_wp2_with fail
   go_ret
   exact⟨ret_boolP HE.out.symm,C1.out.low⟩
  ·have h4':¬(4:Int)<(n:Int):=by omega
   generalize countN z b r=cn at HCO HCL HP
   have HYE:Hid (OthsTo (oths m) (cn:Nat) n->P=true):=fun h2=>by rw[HP.out];exact othsB_yes (by rw[oths_length,HM.out];omega) (by rw[oths_length,HM.out];exact h2)
   have HNO1:Hid (∀ j (hj:j<m.length),othB m[j].1 (cn:Nat)=false->P=false):=fun j hj h=>by
    rw[HP.out]
    exact othsB_no (fun hh=>by
     have:=(hh j (by rw[oths_length];exact hj) (by rw[oths_length];exact hj)).1
     rw[oths_get m j hj,h]at this
     cases this)
   have HNO2:Hid (∀ j (hj:j+1<m.length),ltN (m[j]'(Nat.lt_of_succ_lt hj)).1.name m[j+1].1.name=false->P=false):=fun j hj h=>by
    rw[HP.out]
    exact othsB_no (fun hh=>by
     have:=(hh (j+1) (by rw[oths_length];exact hj) (by rw[oths_length];exact hj)).2 j (by rw[oths_length];omega) rfl
     rw[oths_get m j (by omega),oths_get m (j+1) hj,h]at this
     cases this)
   clear HP
   go_enter Tryz.func17,Tryz.ntmps17
   go_wp2_with fail
   generalize w.alloc _=W0 at C0 ⊢
   refine(HKR.out _ C0.out.low).mono ?_
   rintro e w1 ⟨rfl,hb⟩
   have C1:=hideK (C0.out.call hb)
   clear hb C0
   obtain⟨p0,p1,p2,p3,p4,p5⟩:=cellsP6 (C1.out.get 0 rfl)
   go_wp2_with fail
   refine(HCO.out _).mono ?_
   rintro e w2 ⟨rfl,hb⟩
   have C2:=hideK (C1.out.call hb)
   clear hb C1 p0 p1 p2 p3 p4 p5
   go_wp2_with fail
   go_loopw [4] (fun jv wr=>∃ j:Nat,jv=.int .i64 j/\j<=n/\OthsTo (oths m) (cn:Nat) j/\Cx w wr [(w.heap.size,.cells #[.int .i64 z,.int .i64 b,.string r,.string s,.int .i64 y,.slice a n cap] 43)]) (fun jv _=>n-(intOf jv).toNat)
   case atStart=>exact⟨0,rfl,Nat.zero_le _,oths_zero _ _,C2.out⟩
   case round =>
    obtain⟨j,rfl,hj,hr,hcx⟩:=hrel
    have HR:=hideK hr
    have C3:=hideK hcx
    clear hr hcx C2
    obtain⟨p0,p1,p2,p3,p4,p5⟩:=cellsP6 (C3.out.get 0 rfl)
    by_cases hlt:j<n
    ·have hlt':(j:Int)<(n:Int):=by omega
     have hjl:j<m.length:=by rw[HM.out];exact hlt
     obtain⟨b',off,rfl,hb,hc⟩:=HS.out.some (by omega)
     have F1:=hideK ((hc j hjl).below C3.out.low hb)
     have HA:=hideK (HS.out.2 m[j] (List.getElem_mem hjl))
     have HSX:=hideK (HSM.out m[j] (List.getElem_mem hjl))
     have HB1:=hideK (HNO1.out j hjl)
     have HST:Hid (othB m[j].1 (cn:Nat)=true->(∀ i (hi:i<m.length),i+1=j->ltN m[i].1.name m[j].1.name=true)->OthsTo (oths m) (cn:Nat) (j+1)):=fun h1 h2=>oths_step (by rw[oths_length];exact hjl) HR.out (by rw[oths_get m j hjl];exact h1) (fun i hi hij=>by rw[oths_length]at hi;rw[oths_get m i hi,oths_get m j hjl];exact h2 i hi hij)
     have HPR:Hid (∀ j' (_:j=j' + 1),∃ nm':ByteArray,wr.cell? ⟨b',off+j' * 5,none⟩=some (.string nm')/\(ltN nm' m[j].1.name=false->P=false)/\(ltN nm' m[j].1.name=true->∀ i (hi:i<m.length),i+1=j->ltN m[i].1.name m[j].1.name=true)):=fun j' e=>by
      subst e
      refine⟨(m[j']'(by omega)).1.name,((hc j' (by omega)).below C3.out.low hb).1,fun h=>HNO2.out j' hjl h,fun h i hi hij=>?_⟩
      obtain rfl:i=j':=by omega
      exact h
     have HHA:=hideK (fun W (hW:Below w.heap.size w W)=>other_spec m[j] (cn:Nat) W ((HA.out.below hW).mono hW.size) HSX.out.1 HSX.out.2 (by omega) (by have:=HCL.out;omega))
     obtain⟨ax,cx,hxv,_,_,_⟩:=HA.out
     unfold othV at HHA
     obtain⟨d0,d1,d2,d3,d4⟩:=F1.out
     rw[hxv]at d1 HHA
     generalize othB m[j].1 (cn:Nat)=Q at HB1 HST HHA
     generalize m[j].1.name=nm at d0 HPR HHA HST
     generalize m[j].1.has.length=k at d1 HHA
     generalize m[j].1.asked=q at d2 HHA
     generalize m[j].1.age=g at d3 HHA
     generalize m[j].1.strikes=t at d4 HHA
     clear hc hxv HA HSX F1
     have hj5:j*5=j*5:=rfl
     clear hj5
     have r5:=fun d os=>cell_regrown p5 d os
     have e0:=fun d os=>cell_regrown d0 d os
     have e1:=fun d os=>cell_regrown d1 d os
     have e2:=fun d os=>cell_regrown d2 d os
     have e3:=fun d os=>cell_regrown d3 d os
     have e4:=fun d os=>cell_regrown d4 d os
     cases Q with
     |false =>
      have HE:=hideK (HB1.out rfl)
      go_wp2_with fail
      refine wp_region_quiet_below (by assumption) (by kernel_rfl) ?_
      repeat (go_big_quiet_step ((go_at_call 50;exact Calls.regrown_of (HHA.out _ (lowL C3.out.low (below_regrown _ _ _))))))
      refine wpQuiet_nil ?_
      intro _ hw'
      obtain⟨⟨dq,osq⟩,hw''⟩:=hw'
      subst hw''
      have K1:=hideK (C3.out.call (below_regrown wr dq osq))
      generalize Go.Sort.grow (redrawn wr dq) osq=w8 at K1 ⊢
      clear r5 e0 e1 e2 e3 e4 d0 d1 d2 d3 d4 p0 p1 p2 p3 p4 p5
      go_wp2_with fail
      go_ret
      exact⟨ret_boolP HE.out.symm,K1.out.low⟩
     |true =>
      rcases Nat.eq_zero_or_pos j with h0|h0
      ·subst h0
       simp only[Nat.zero_mul,Nat.add_zero]at d0 d1 d2 d3 d4 e0 e1 e2 e3 e4
       have HNX:=hideK (HST.out rfl (fun i hi e=>by omega))
       have hd:decide ((0:Int)<((0:Nat):Int))=false:=by simp
       go_wp2_with fail
       refine wp_region_quiet_below (by assumption) (by kernel_rfl) ?_
       repeat (go_big_quiet_step ((go_at_call 50;exact Calls.regrown_of (HHA.out _ (lowL C3.out.low (below_regrown _ _ _))))))
       refine wpQuiet_nil ?_
       intro _ hw'
       obtain⟨⟨dq,osq⟩,hw''⟩:=hw'
       subst hw''
       have K1:=hideK (C3.out.call (below_regrown wr dq osq))
       generalize Go.Sort.grow (redrawn wr dq) osq=w8 at K1 ⊢
       clear r5 e0 e1 e2 e3 e4 d0 d1 d2 d3 d4 p0 p1 p2 p3 p4 p5
       go_wp2_with fail
       go_roundw
       case rel=>exact⟨1,by go_num,by omega,HNX.out,K1.out⟩
       case measure=>simp[intOf];omega
      ·obtain⟨j',rfl⟩:∃ j',j=j' + 1:=⟨j-1,by omega⟩
       obtain⟨nm',hcn,hbad,hgood⟩:=HPR.out j' rfl
       have r6:=fun d os=>cell_regrown hcn d os
       have hd:decide ((0:Int)<((j' + 1:Nat):Int))=true:=decide_eq_true (by omega)
       have hj3:(j':Int)<(n:Int):=by omega
       unfold ltN at hbad hgood
       cases hL:Op.bytesLess nm'.toList nm.toList with
       |false =>
        have HE:=hideK (hbad hL)
        clear hbad hgood HB1
        go_wp2_with fail
        refine wp_region_quiet_below (by assumption) (by kernel_rfl) ?_
        repeat (go_big_quiet_step ((go_at_call 50;exact Calls.regrown_of (HHA.out _ (lowL C3.out.low (below_regrown _ _ _))))))
        refine wpQuiet_nil ?_
        intro _ hw'
        obtain⟨⟨dq,osq⟩,hw''⟩:=hw'
        subst hw''
        have K1:=hideK (C3.out.call (below_regrown wr dq osq))
        generalize Go.Sort.grow (redrawn wr dq) osq=w8 at K1 ⊢
        clear r5 r6 e0 e1 e2 e3 e4 d0 d1 d2 d3 d4 p0 p1 p2 p3 p4 p5 hcn
        go_wp2_with fail
        go_ret
        exact⟨ret_boolP HE.out.symm,K1.out.low⟩
       |true =>
        have HNX:=hideK (HST.out rfl (hgood hL))
        clear hbad hgood HB1
        go_wp2_with fail
        refine wp_region_quiet_below (by assumption) (by kernel_rfl) ?_
        repeat (go_big_quiet_step ((go_at_call 50;exact Calls.regrown_of (HHA.out _ (lowL C3.out.low (below_regrown _ _ _))))))
        refine wpQuiet_nil ?_
        intro _ hw'
        obtain⟨⟨dq,osq⟩,hw''⟩:=hw'
        subst hw''
        have K1:=hideK (C3.out.call (below_regrown wr dq osq))
        generalize Go.Sort.grow (redrawn wr dq) osq=w8 at K1 ⊢
        clear r5 r6 e0 e1 e2 e3 e4 d0 d1 d2 d3 d4 p0 p1 p2 p3 p4 p5 hcn
        go_wp2_with fail
        go_roundw
        case rel=>exact⟨j' + 1+1,by go_num,by omega,HNX.out,K1.out⟩
        case measure=>simp[intOf];omega
    ·have HE:=hideK (HYE.out (by have:=HR.out;rwa[show j=n by omega]at this))
     have hltD:decide ((j:Int)<(n:Int))=false:=by simp;omega
     have hlt2:¬((j:Int)<(n:Int)):=by omega
     go_wp2_with fail
     go_ret
     exact⟨ret_boolP HE.out.symm,C3.out.low⟩
end Go.Proofs.YtikiihjabbmkcaaGreatDoor.Pe


namespace Go.Proofs.YtikiihjabbmkcaaGreatDoor.Tr
open Go.RowKit
open St
open Sh (Vars nodeV nodeV_size nodeR nodeR_yes node_impl)
def Climbs (w0:World) (f:Value) (φ:ByteArray->ByteArray):Prop :=
 ∃ k cap,f=.func (.func k) #[] cap/\(∀ args w,(callFunc k args).run Tryz.prog w=.ok (.enter k args) w)/\∀ (node:ByteArray) (w:World),node.size=32->Below w0.heap.size w0 w->Vars w ->
  Calls Tryz.prog k (#[.string node]++cap) w fun e w'=>e=.returned (.string (φ node))/\Below w.heap.size w w'
theorem Climbs.later {w w':World} {f:Value} {φ:ByteArray->ByteArray} (h:Climbs w f φ) (b:Below w.heap.size w w'):Climbs w' f φ:=by
 obtain⟨k,cap,hf,he,hc⟩:=h
 exact⟨k,cap,hf,he,fun node W hn hW hV=>hc node W hn (below2 b hW) hV⟩
theorem stay_any (w0:World):Climbs w0 (.func (.func 220) #[] #[]) (fun x=>x):=by
 refine⟨220,#[],rfl,enters_of Tryz.func220 (by kernel_rfl) rfl,fun node w hn hb hV=>?_⟩
 show Calls Tryz.prog 220 #[.string node] w _
 clear hV hb hn
 go_enter Tryz.func220,Tryz.ntmps220
 go_wp2_with fail
 go_ret
 exact⟨rfl,Below.refl _ _⟩
theorem right_call (node side:ByteArray) (k g1 g2:Nat) (cap:Array Value) (φ:ByteArray->ByteArray) (w:World) (hn:node.size=32) (hs:side.size=32) (hV:Vars w)
  (he:∀ args w,(callFunc k args).run Tryz.prog w=.ok (.enter k args) w) (c1:w.cell? ⟨g1,0,none⟩=some (.func (.func k) #[] cap)) (c2:w.cell? ⟨g2,0,none⟩=some (.string side))
  (H:∀ (x:ByteArray) (W:World),x.size=32->Below w.heap.size w W->Vars W->Calls Tryz.prog k (#[.string x]++cap) W fun e w'=>e=.returned (.string (φ x))/\Below W.heap.size W w') :
  Calls Tryz.prog 236 #[.string node,.pointer (some ⟨g1,0,none⟩),.pointer (some ⟨g2,0,none⟩)] w fun e w'=>e=.returned (.string (φ (nodeV node side)))/\Below w.heap.size w w':=by
 have HH:=hideT H
 have HV:=hideT hV
 have hv2:=hV.two
 have HN:=hideT (nodeR_yes node side hn hs)
 have HG:=hideT (World.block_lt_of_cell? w _ c1)
 have HC1:=hideT c1
 clear H hV
 go_enter Tryz.func236,Tryz.ntmps236
 go_wp2_with fail
 go_region_with (first|(go_at_call 237;(with_reducible refine(node_impl node side _ ?_).mono ?_);(· exact HV.out);rw[HN.out];rintro e w1 ⟨rfl,hb1⟩;have HB1:=hideT (show Below w.heap.size w w1 from ⟨hb1.os,hb1.tape,hb1.output,hb1.size,hb1.block⟩);have c1b:=(HB1.out.cell (p:=⟨g1,0,none⟩) HG.out).trans HC1.out;clear hb1)|((with_reducible refine(HH.out (nodeV node side) w1 ?_ HB1.out ?_).mono ?_);(· exact nodeV_size _ _);(· exact HV.out.below HB1.out hv2);rintro e w2 ⟨rfl,hb2⟩;have HB2:=hideT (below2 HB1.out hb2);clear hb2))
 all_goals (try go_wp2_with fail)
 all_goals go_ret
 all_goals exact⟨rfl,HB2.out⟩
theorem left_call (node side:ByteArray) (k g1 g2:Nat) (cap:Array Value) (φ:ByteArray->ByteArray) (w:World) (hn:node.size=32) (hs:side.size=32) (hV:Vars w)
  (he:∀ args w,(callFunc k args).run Tryz.prog w=.ok (.enter k args) w) (c1:w.cell? ⟨g1,0,none⟩=some (.func (.func k) #[] cap)) (c2:w.cell? ⟨g2,0,none⟩=some (.string side))
  (H:∀ (x:ByteArray) (W:World),x.size=32->Below w.heap.size w W->Vars W->Calls Tryz.prog k (#[.string x]++cap) W fun e w'=>e=.returned (.string (φ x))/\Below W.heap.size W w') :
  Calls Tryz.prog 238 #[.string node,.pointer (some ⟨g1,0,none⟩),.pointer (some ⟨g2,0,none⟩)] w fun e w'=>e=.returned (.string (φ (nodeV side node)))/\Below w.heap.size w w':=by
 have HH:=hideT H
 have HV:=hideT hV
 have hv2:=hV.two
 have HN:=hideT (nodeR_yes side node hs hn)
 have HG:=hideT (World.block_lt_of_cell? w _ c1)
 have HC1:=hideT c1
 clear H hV
 go_enter Tryz.func238,Tryz.ntmps238
 go_wp2_with fail
 go_region_with (first|(go_at_call 237;(with_reducible refine(node_impl side node _ ?_).mono ?_);(· exact HV.out);rw[HN.out];rintro e w1 ⟨rfl,hb1⟩;have HB1:=hideT (show Below w.heap.size w w1 from ⟨hb1.os,hb1.tape,hb1.output,hb1.size,hb1.block⟩);have c1b:=(HB1.out.cell (p:=⟨g1,0,none⟩) HG.out).trans HC1.out;clear hb1)|((with_reducible refine(HH.out (nodeV side node) w1 ?_ HB1.out ?_).mono ?_);(· exact nodeV_size _ _);(· exact HV.out.below HB1.out hv2);rintro e w2 ⟨rfl,hb2⟩;have HB2:=hideT (below2 HB1.out hb2);clear hb2))
 all_goals (try go_wp2_with fail)
 all_goals go_ret
 all_goals exact⟨rfl,HB2.out⟩
theorem joinRight_any (side:ByteArray) (f:Value) (φ:ByteArray->ByteArray) (w:World) (hs:side.size=32) (h:Climbs w f φ) :
  Calls Tryz.prog 223 #[.string side,f] w fun e w'=>∃ g,e=.returned g/\Climbs w' g (fun x=>φ (nodeV x side))/\Below w.heap.size w w':=by
 obtain⟨k,cap,rfl,he,hc⟩:=h
 have HE:=hideT he
 have HC:=hideT hc
 clear he hc
 go_enter Tryz.func223,Tryz.ntmps223
 go_wp2_with fail
 go_ret
 refine⟨_,rfl,⟨236,_,rfl,enters_of Tryz.func236 (by kernel_rfl) rfl,fun node W hn hW hV=>?_⟩,((Below.refl _ _).alloc (Nat.le_refl _) _).alloc (by simp) _⟩
 have hsz:=hW.size
 have hb:Below w.heap.size w W:=below2 (((Below.refl _ _).alloc (Nat.le_refl _) _).alloc (by simp) _) hW
 have c1:=hW.cell (p:=⟨w.heap.size+1,0,none⟩) (by simp)
 have c2:=hW.cell (p:=⟨w.heap.size,0,none⟩) (by simp;omega)
 refine right_call node side k (w.heap.size+1) w.heap.size cap φ W hn hs hV HE.out ?_ ?_ (fun x W' hx hW' hV'=>HC.out x W' hx (below2 hb hW') hV')
 ·rw[c1]
  simp
 ·rw[c2]
  simp
theorem joinLeft_any (side:ByteArray) (f:Value) (φ:ByteArray->ByteArray) (w:World) (hs:side.size=32) (h:Climbs w f φ) :
  Calls Tryz.prog 224 #[.string side,f] w fun e w'=>∃ g,e=.returned g/\Climbs w' g (fun x=>φ (nodeV side x))/\Below w.heap.size w w':=by
 obtain⟨k,cap,rfl,he,hc⟩:=h
 have HE:=hideT he
 have HC:=hideT hc
 clear he hc
 go_enter Tryz.func224,Tryz.ntmps224
 go_wp2_with fail
 go_ret
 refine⟨_,rfl,⟨238,_,rfl,enters_of Tryz.func238 (by kernel_rfl) rfl,fun node W hn hW hV=>?_⟩,((Below.refl _ _).alloc (Nat.le_refl _) _).alloc (by simp) _⟩
 have hsz:=hW.size
 have hb:Below w.heap.size w W:=below2 (((Below.refl _ _).alloc (Nat.le_refl _) _).alloc (by simp) _) hW
 have c1:=hW.cell (p:=⟨w.heap.size+1,0,none⟩) (by simp)
 have c2:=hW.cell (p:=⟨w.heap.size,0,none⟩) (by simp;omega)
 refine left_call node side k (w.heap.size+1) w.heap.size cap φ W hn hs hV HE.out ?_ ?_ (fun x W' hx hW' hV'=>HC.out x W' hx (below2 hb hW') hV')
 ·rw[c1]
  simp
 ·rw[c2]
  simp
end Go.Proofs.YtikiihjabbmkcaaGreatDoor.Tr


namespace Go.Proofs.YtikiihjabbmkcaaGreatDoor.Tr
open Go.RowKit
open St
open Sh (Vars nodeV)
theorem take_last (p:List ByteArray) (m:Nat) (h:1<=m) (hm:m<=p.length):p.take m=p.take (m-1)++[p[m-1]]:=by
 have:=List.take_append_getElem (l:=p) (i:=m-1) (by omega)
 rw[this,show m-1+1=m by omega]
theorem climbFrom_any (n0 i0:Nat) (p:List ByteArray) (a:Option Addr) (cap B:Nat) (w:World) (hin:i0<n0) (hn:n0<9223372036854775808) (hp:p.length<=1048576) (hcap:p.length<=cap) (hw:∀ j (h:j<p.length),p[j].size=32) (hs:Strs w B a p) (hB:B<=w.heap.size) :
  Calls Tryz.prog 192 #[.int .i64 i0,.int .i64 n0,.slice a p.length cap] w fun e w'=>Below w.heap.size w w'/\((∃ f φ,e=.returned (.tuple #[f,.bool true])/\Climbs w' f φ/\∀ h,incl n0 i0 p h=some (φ h))∨(∃ f,e=.returned (.tuple #[f,.bool false])/\∀ h,incl n0 i0 p h=none)):=by
 have HS:=hideT hs
 have HW:=hideT hw
 clear hs hw
 obtain⟨m0,hm0⟩:∃ m0,m0=p.length:=⟨_,rfl⟩
 have HM:=hideT hm0
 rw[<-hm0]at hp hcap ⊢
 clear hm0
 go_enter Tryz.func192,Tryz.ntmps192
 go_wp2_with fail
 go_loopw [0,1,2,8] (fun iv nv pv uv wr=>∃ (i n m c:Nat) (φ:ByteArray->ByteArray),iv=.int .i64 i/\nv=.int .i64 n/\pv=.slice a m c/\i<n/\n<=n0/\m<=m0/\m<=c/\Climbs wr uv φ/\(∀ h,incl n0 i0 p h=(incl n i (p.take m) h).map φ)/\Below w.heap.size w wr) (fun _ nv _ _ _=>(intOf nv).toNat)
 case atStart =>
  refine⟨i0,n0,m0,cap,fun x=>x,rfl,rfl,rfl,hin,Nat.le_refl _,Nat.le_refl _,hcap,stay_any w,fun h=>?_,Below.refl _ _⟩
  rw[HM.out,List.take_length,Option.map_id']
 case round =>
  obtain⟨i,n,m,c,φ,rfl,rfl,rfl,hi,hn0,hm,hmc,hcl,hinc,hbel⟩:=hrel
  have HB:=hideT hbel
  have HCL:=hideT hcl
  have HI:=hideT hinc
  clear hbel hcl hinc
  by_cases h1:n<=1
  ·obtain rfl:n=1:=by omega
   obtain rfl:i=0:=by omega
   by_cases hm0:m=0
   ·subst hm0
    have HE:Hid (∀ h,incl n0 i0 p h=some (φ h)):=fun h=>by
     rw[HI.out h,incl_one]
     rfl
    go_wp2_with fail
    go_ret2
    exact⟨HB.out,.inl ⟨_,φ,rfl,HCL.out,HE.out⟩⟩
   ·have HE:Hid (∀ h,incl n0 i0 p h=none):=fun h=>by
     rw[HI.out h,incl_one,if_neg (by
      intro he
      have h2:=congrArg List.length he
      rw[List.length_take,List.length_nil]at h2
      have h3:=HM.out
      omega)]
     rfl
    have g0:((m:Int)==0)=false:=by simp;omega
    go_wp2_with fail
    go_ret2
    exact⟨HB.out,.inr ⟨_,rfl,HE.out⟩⟩
  ·have g1:1<(n:Int):=by omega
   by_cases hm0:m=0
   ·subst hm0
    have HE:Hid (∀ h,incl n0 i0 p h=none):=fun h=>by
     rw[HI.out h,List.take_zero,incl_none n i h (by omega)]
     rfl
    go_wp2_with fail
    go_ret2
    exact⟨HB.out,.inr ⟨_,rfl,HE.out⟩⟩
   ·have g0:¬(m:Int)=0:=by omega
    have hml:m-1<p.length:=by have:=HM.out;omega
    obtain⟨b,off,rfl,hb,hc⟩:=(HS.out.after HB.out hB).some (by omega)
    have ci:=hc (m-1) hml
    have HSZ:=hideT (HW.out (m-1) hml)
    have HTL:=hideT (take_last p m (by omega) (by have:=HM.out;omega))
    have HIL:=hideT (fun (s h:ByteArray) (hik:i<half n)=>incl_left n i (p.take (m-1)) s h (by omega) hik)
    have HIR:=hideT (fun (s h:ByteArray) (hik:¬i<half n)=>incl_right n i (p.take (m-1)) s h (by omega) hik hi)
    obtain⟨s,hse⟩:∃ s,s=p[m-1]:=⟨_,rfl⟩
    rw[<-hse]at ci HSZ HTL
    clear hc hse
    have hp2:=half_pos n
    have hl2:=half_lt n (by omega)
    go_wp2_with fail
    refine(cutLast_any b off m c s wr (by omega) (by omega) hmc ci).mono ?_
    rintro e w1 ⟨rfl,hb1⟩
    have HB1:=hideT (HB.out.trans (hb1.mono HB.out.size))
    have HCL1:=hideT (HCL.out.later hb1)
    clear hb1 ci
    go_wp2_with fail
    refine(half_impl n w1 (by omega) (by omega)).mono ?_
    rintro e w2 ⟨rfl,hw2⟩
    subst w2
    obtain⟨k,hk⟩:∃ k,k=half n:=⟨_,rfl⟩
    rw[<-hk]at hp2 hl2 HIL HIR ⊢
    clear hk
    by_cases hik:i<k
    ·go_wp2_with fail
     refine(joinRight_any s _ φ w1 HSZ.out HCL1.out).mono ?_
     rintro e w3 ⟨g,rfl,hg3,hb3⟩
     have HB3:=hideT (HB1.out.trans (hb3.mono HB1.out.size))
     have HG:=hideT hg3
     clear hb3 hg3
     go_wp2_with fail
     go_roundw
     case rel =>
      refine⟨i,k,m-1,m-1,_,rfl,rfl,rfl,hik,by omega,by omega,Nat.le_refl _,HG.out,fun h=>?_,HB3.out⟩
      rw[HI.out h,HTL.out,HIL.out s h hik,Option.map_map]
      rfl
     case measure=>simp[intOf];omega
    ·go_wp2_with fail
     refine(joinLeft_any s _ φ w1 HSZ.out HCL1.out).mono ?_
     rintro e w3 ⟨g,rfl,hg3,hb3⟩
     have HB3:=hideT (HB1.out.trans (hb3.mono HB1.out.size))
     have HG:=hideT hg3
     clear hb3 hg3
     go_wp2_with fail
     go_roundw
     case rel =>
      refine⟨i-k,n-k,m-1,m-1,_,by go_num,by go_num,rfl,by omega,by omega,by omega,Nat.le_refl _,HG.out,fun h=>?_,HB3.out⟩
      rw[HI.out h,HTL.out,HIR.out s h hik,Option.map_map]
      rfl
     case measure=>simp[intOf];omega
theorem str_eq (a b:ByteArray):(a.toList==b.toList)=decide (a=b):=by
 rw[ByteArray.toList_eq,ByteArray.toList_eq]
 by_cases h:a=b
 ·subst h
  simp
 ·rw[decide_eq_false h]
  have:¬a.data.toList=b.data.toList:=fun e=>h (by
   cases a
   cases b
   simp at e
   rw[e])
  simpa using this
def inclB (leaf:ByteArray) (i n:Int) (p:List ByteArray) (root:ByteArray):Bool :=
 decide (leaf.size=32) && decide (root.size=32) && (decide (p.length<=63) && wide p) && decide (0<=i) && decide (i<n) && decide (incl n.toNat i.toNat p leaf=some root)
theorem inclB_leaf (leaf:ByteArray) (i n:Int) (p:List ByteArray) (root:ByteArray) (h:¬leaf.size=32):inclB leaf i n p root=false:=by simp[inclB,h]
theorem inclB_root (leaf:ByteArray) (i n:Int) (p:List ByteArray) (root:ByteArray) (h:¬root.size=32):inclB leaf i n p root=false:=by simp[inclB,h]
theorem inclB_path (leaf:ByteArray) (i n:Int) (p:List ByteArray) (root:ByteArray) (h:(decide (p.length<=63) && wide p)=false):inclB leaf i n p root=false:=by simp only[inclB,h];simp
theorem inclB_low (leaf:ByteArray) (i n:Int) (p:List ByteArray) (root:ByteArray) (h:i<0):inclB leaf i n p root=false:=by simp[inclB,show ¬0<=i by omega]
theorem inclB_high (leaf:ByteArray) (i n:Int) (p:List ByteArray) (root:ByteArray) (h:¬i<n):inclB leaf i n p root=false:=by simp[inclB,h]
theorem inclB_in (leaf:ByteArray) (i n:Nat) (p:List ByteArray) (root:ByteArray) (h1:leaf.size=32) (h2:root.size=32) (h3:(decide (p.length<=63) && wide p)=true) (h:i<n):inclB leaf i n p root=decide (incl n i p leaf=some root):=by
 simp only[inclB,h1,h2,h3]
 simp[h]
theorem incl_impl (leaf root:ByteArray) (i n:Int) (p:List ByteArray) (a:Option Addr) (cap B:Nat) (w:World) (hn:n<9223372036854775808) (hp:p.length<=1048576) (hcap:p.length<=cap) (hs:Strs w B a p) (hB:B<=w.heap.size) (hV:Vars w) :
  Calls Tryz.prog 159 #[.string leaf,.int .i64 i,.int .i64 n,.slice a p.length cap,.string root] w fun e w'=>e=.returned (.bool (inclB leaf i n p root))/\Below w.heap.size w w':=by
 have HD:=hideT (digs_impl a cap p 63 w B hs hp)
 have HCF:=hideT (fun (n' i':Nat) h1 h2 h3=>climbFrom_any n' i' p a cap B w h1 h2 hp hcap h3 hs hB)
 have HV:=hideT hV
 have hv2:=hV.two
 have HPath:=hideT (inclB_path leaf i n p root)
 have HIn:=hideT (inclB_in leaf)
 have HWide:=hideT ((wide_yes p).1)
 clear hs hV
 by_cases h1:leaf.size=32
 ·by_cases h2:root.size=32
  ·cases h3:(decide (p.length<=63) && wide p) with
   |false =>
    have HF:=hideT (HPath.out h3)
    rw[h3]at HD
    clear h3
    clear HCF
    generalize p.length=m at hp hcap HD ⊢
    go_enter Tryz.func159,Tryz.ntmps159
    go_wp2_with fail
    refine HD.out.mono ?_
    rintro e w1 ⟨rfl,hw⟩
    subst w1
    go_wp2_with fail
    go_ret
    exact⟨ret_bool HF.out.symm,Below.refl _ _⟩
   |true =>
    have HT:=hideT h3
    have HW2:Hid (wide p=true):=by
     unfold Hid
     rw[Bool.and_eq_true]at h3
     exact h3.2
    rw[h3]at HD
    clear h3
    by_cases hi0:i<0
    ·have HF:=hideT (inclB_low leaf i n p root hi0)
     clear HCF
     generalize p.length=m at hp hcap HD ⊢
     go_enter Tryz.func159,Tryz.ntmps159
     go_wp2_with fail
     refine HD.out.mono ?_
     rintro e w1 ⟨rfl,hw⟩
     subst w1
     go_wp2_with fail
     go_ret
     exact⟨ret_bool HF.out.symm,Below.refl _ _⟩
    ·by_cases hin:i<n
     ·obtain⟨i',rfl⟩:∃ k:Nat,i=k:=⟨i.toNat,by omega⟩
      obtain⟨n',rfl⟩:∃ k:Nat,n=k:=⟨n.toNat,by omega⟩
      have HF:=hideT (HIn.out i' n' p root h1 h2 HT.out (by omega))
      have HC:=hideT (HCF.out n' i' (by omega) (by omega) (HWide.out HW2.out))
      generalize p.length=m at hp hcap HD HC ⊢
      have g1:¬(n':Int)<=i':=by omega
      clear HCF hi0 hin hn
      go_enter Tryz.func159,Tryz.ntmps159
      go_wp2_with fail
      refine HD.out.mono ?_
      rintro e w1 ⟨rfl,hw⟩
      subst w1
      go_wp2_with fail
      refine HC.out.mono ?_
      rintro e w2 ⟨hb2,⟨f,φ,rfl,hcl,hall⟩|⟨f,rfl,hnone⟩⟩
      ·obtain⟨k,caps,rfl,he,hcall⟩:=hcl
       have HB2:=hideT hb2
       have HE:=hideT (hall leaf)
       have HCall:=hideT (hcall leaf w2 h1 (Below.refl _ _) (HV.out.below hb2 hv2))
       clear hcall hall hb2
       go_wp2_with fail
       refine HCall.out.mono ?_
       rintro e w3 ⟨rfl,hb3⟩
       have HB3:=hideT (below2 HB2.out hb3)
       clear hb3
       have HQ:Hid (inclB leaf i' n' p root=decide (φ leaf=root)):=by
        unfold Hid
        rw[HF.out,HE.out]
        simp
       go_wp2_with fail
       go_ret
       exact⟨ret_bool (by rw[HQ.out];exact str_eq _ _),HB3.out⟩
      ·have HQ:Hid (inclB leaf i' n' p root=false):=by
        unfold Hid
        rw[HF.out,hnone leaf]
        simp
       clear hnone
       go_wp2_with fail
       go_ret
       exact⟨ret_bool HQ.out.symm,hb2⟩
     ·have HF:=hideT (inclB_high leaf i n p root hin)
      have hin':n<=i:=by omega
      clear HCF
      generalize p.length=m at hp hcap HD ⊢
      go_enter Tryz.func159,Tryz.ntmps159
      go_wp2_with fail
      refine HD.out.mono ?_
      rintro e w1 ⟨rfl,hw⟩
      subst w1
      go_wp2_with fail
      go_ret
      exact⟨ret_bool HF.out.symm,Below.refl _ _⟩
  ·have HF:=hideT (inclB_root leaf i n p root h2)
   clear HCF
   generalize p.length=m at hp hcap HD ⊢
   go_enter Tryz.func159,Tryz.ntmps159
   go_wp2_with fail
   go_ret
   exact⟨ret_bool HF.out.symm,Below.refl _ _⟩
 ·have HF:=hideT (inclB_leaf leaf i n p root h1)
  clear HCF
  generalize p.length=m at hp hcap HD ⊢
  go_enter Tryz.func159,Tryz.ntmps159
  go_wp2_with fail
  go_ret
  exact⟨ret_bool HF.out.symm,Below.refl _ _⟩
end Go.Proofs.YtikiihjabbmkcaaGreatDoor.Tr


namespace Go.Proofs.YtikiihjabbmkcaaGreatDoor.Tr
open Go.RowKit
open St
open Sh (nodeV nodeV_size l03Node_any)
theorem od_pos (a:Nat) (h:0<a):od a%2=1/\0<od a/\od a<=a:=by
 induction a using Nat.strongRecOn with
 |ind a ih =>
  by_cases he:a%2=0
  ·rw[od_even a he h]
   have:=ih (a/2) (by omega) (by omega)
   omega
  ·rw[od_odd a (by omega)]
   omega
/-- the loop,its conditions met -/
theorem incl_at (leaf root:ByteArray) (i0 n0:Nat) (p:List ByteArray) (b off cap B:Nat) (w:World) (hn:n0<9223372036854775808) (hin:i0<n0) (hp:p.length<=63) (hl:leaf.size=32) (hr:root.size=32) (hw:wide p=true) (hb:b<B) (hc0:∀ j (h:j<p.length),w.cell? ⟨b,off+j,none⟩=some (.string p[j])) (hB:B<=w.heap.size) :
  Calls Tryz.prog 123 #[.string leaf,.int .i64 i0,.int .i64 n0,.slice (some ⟨b,off,none⟩) p.length cap,.string root] w fun e w'=>e=.returned (.bool (decide (incl n0 i0 p leaf=some root)))/\Below w.heap.size w w':=by
 have hs:Strs w B (some ⟨b,off,none⟩) p:=.inr ⟨b,off,rfl,hb,hc0⟩
 have HWd:=hideT (wide_spec _ cap p w B hs (by omega))
 rw[hw]at HWd
 have HC:=hideT hc0
 have HW:=hideT ((wide_yes p).1 hw)
 clear hs hw hc0
 obtain⟨m,hm⟩:∃ m,m=p.length:=⟨_,rfl⟩
 have HM:=hideT hm
 rw[<-hm]at hp HWd ⊢
 clear hm
 have g1:¬(n0:Int)<=i0:=by omega
 have g2:¬n0<=i0:=by omega
 have b1:decide ((63:Int)<(m:Int))=false:=by simp;omega
 have b2:decide ((i0:Int)<0)=false:=by simp
 have b3:decide (n0<=i0)=false:=by simp;omega
 have hn':n0<9223372036854775808:=hn
 go_enter Tryz.func123,Tryz.ntmps123
 go_wp2_with fail
 refine HWd.out.mono ?_
 rintro e w1 ⟨rfl,hw1⟩
 subst w1
 go_wp2_with fail
 go_loopw [14,11,12,13] (fun kv av lv hv wr=>∃ (k x y:Nat) (h:ByteArray),kv=.int .i64 k/\av=.int .i64 x/\lv=.int .i64 y/\hv=.string h/\k<=m/\x<=y/\y<n0/\h.size=32/\incl n0 i0 p leaf=climbS x y (p.drop k) h/\Below w.heap.size w wr) (fun kv _ _ _ _=>m-(intOf kv).toNat)
 case atStart =>
  exact⟨0,i0,n0-1,leaf,rfl,rfl,by go_num,rfl,by omega,by omega,by omega,hl,rfl,Below.refl _ _⟩
 case round =>
  obtain⟨k,x,y,h,rfl,rfl,rfl,rfl,hk,hxy,hy,hh,hinc,hbel⟩:=hrel
  have HB:=hideT hbel
  have HI:=hideT hinc
  clear hbel hinc
  by_cases hlt:k<m
  ·have hkl:k<p.length:=by rw[<-HM.out];exact hlt
   have ci:=(HB.out.cell (p:=⟨b,off+k,none⟩) (by simp;omega)).trans (HC.out k hkl)
   have HSZ:=hideT (HW.out k hkl)
   have HD:=hideT (List.drop_eq_getElem_cons hkl)
   obtain⟨s,hse⟩:∃ s,s=p[k]:=⟨_,rfl⟩
   rw[<-hse]at ci HSZ HD
   clear hse
   have hs32:=HSZ.out
   by_cases hy0:y=0
   ·subst hy0
    have HE:Hid (decide (incl n0 i0 p leaf=some root)=false):=by
     unfold Hid
     rw[HI.out,HD.out,climbS_zero _ _ _ (by simp)]
     rfl
    go_wp2_with fail
    go_ret
    exact⟨ret_bool HE.out.symm,HB.out⟩
   ·have gy:¬(y:Int)=0:=by omega
    by_cases hodd:x%2=1
    ·have go1:(x:Int)%2=1:=by omega
     have HE:=hideT (climbS_odd x y s (p.drop (k+1)) h hy0 hodd)
     go_wp2_with fail
     refine(l03Node_any s h wr (by omega) (by omega)).mono ?_
     rintro e w2 ⟨rfl,hb2⟩
     have HB2:=hideT (HB.out.trans (hb2.mono HB.out.size))
     clear hb2 ci
     go_wp2_with fail
     go_loopw [11,12] (fun av lv wi=>av=.int .i64 x/\lv=.int .i64 y/\wi=w2) (fun _ _ _=>0)
     case atStart=>exact⟨rfl,rfl,rfl⟩
     case round =>
      obtain⟨rfl,rfl,hwi⟩:=hrel
      subst hwi
      go_wp2_with fail
      go_roundw
      case rel =>
       refine⟨k+1,x/2,y/2,nodeV s h,by go_num,by go_num,by go_num,rfl,by omega,by omega,by omega,nodeV_size _ _,?_,HB2.out⟩
       rw[HI.out,HD.out,HE.out]
      case measure=>simp[intOf];omega
    ·have go1:(x:Int)%2=0:=by omega
     by_cases hxy2:x=y
     ·have gxy:(x:Int)=y:=by omega
      have HE:Hid (climbS x y (s :: p.drop (k+1)) h=climbS (od x/2) (od x/2) (p.drop (k+1)) (nodeV s h)):=by
       unfold Hid
       rw[<-hxy2]
       exact climbS_end x s (p.drop (k+1)) h (by omega) (by omega)
      have HXY:=hideT hxy2
      have HO:=hideT (od_pos x (by omega))
      go_wp2_with fail
      refine(l03Node_any s h wr (by omega) (by omega)).mono ?_
      rintro e w2 ⟨rfl,hb2⟩
      have HB2:=hideT (HB.out.trans (hb2.mono HB.out.size))
      clear hb2 ci
      go_wp2_with fail
      go_loopw [11,12] (fun av lv wi=>∃ z:Nat,av=.int .i64 z/\lv=.int .i64 z/\0<z/\z<=x/\od z=od x/\wi=w2) (fun av _ _=>(intOf av).toNat)
      case atStart=>exact⟨x,by rw[HXY.out],by rw[HXY.out],by omega,Nat.le_refl _,rfl,rfl⟩
      case round =>
       obtain⟨z,rfl,rfl,hz0,hzx,hod,hwi⟩:=hrel
       subst hwi
       have HOD:=hideT hod
       clear hod
       have gz:0<(z:Int):=by omega
       by_cases hze:z%2=0
       ·have gz2:(z:Int)%2=0:=by omega
        go_wp2_with fail
        go_roundw
        case rel=>exact⟨z/2,by go_num,by go_num,by omega,by omega,by rw[<-od_even z hze hz0];exact HOD.out,trivial⟩
        case measure=>simp[intOf];omega
       ·have gz2:(z:Int)%2=1:=by omega
        have HZ:Hid (od x=z):=by
         unfold Hid
         rw[<-HOD.out]
         exact od_odd z (by omega)
        go_wp2_with fail
        go_roundw
        case rel =>
         refine⟨k+1,z/2,z/2,nodeV s h,by go_num,by go_num,by go_num,rfl,by omega,by omega,by omega,nodeV_size _ _,?_,HB2.out⟩
         rw[HI.out,HD.out,HE.out,HZ.out]
        case measure=>simp[intOf];omega
     ·have gxy:¬(x:Int)=y:=by omega
      have HE:=hideT (climbS_even x y s (p.drop (k+1)) h hy0 (by omega) hxy2)
      go_wp2_with fail
      refine(l03Node_any h s wr (by omega) (by omega)).mono ?_
      rintro e w2 ⟨rfl,hb2⟩
      have HB2:=hideT (HB.out.trans (hb2.mono HB.out.size))
      clear hb2 ci
      go_wp2_with fail
      go_roundw
      case rel =>
       refine⟨k+1,x/2,y/2,nodeV h s,by go_num,by go_num,by go_num,rfl,by omega,by omega,by omega,nodeV_size _ _,?_,HB2.out⟩
       rw[HI.out,HD.out,HE.out]
      case measure=>simp[intOf];omega
  ·have HD:Hid (p.drop k=[]):=by
    unfold Hid
    exact List.drop_eq_nil_of_le (by have:=HM.out;omega)
   by_cases hy0:y=0
   ·subst hy0
    have HE:Hid (decide (incl n0 i0 p leaf=some root)=decide (h=root)):=by
     unfold Hid
     rw[HI.out,HD.out,climbS_nil,if_pos rfl]
     simp
    go_wp2_with fail
    go_ret
    exact⟨ret_bool (by rw[HE.out];exact str_eq _ _),HB.out⟩
   ·have gy:((y:Int)==0)=false:=by simp;omega
    have HE:Hid (decide (incl n0 i0 p leaf=some root)=false):=by
     unfold Hid
     rw[HI.out,HD.out,climbS_nil,if_neg hy0]
     rfl
    go_wp2_with fail
    go_ret
    exact⟨ret_bool HE.out.symm,HB.out⟩
theorem incl_empty (leaf root:ByteArray) (i0 n0:Nat) (a:Option Addr) (cap:Nat) (w:World) (hn:n0<9223372036854775808) (hin:i0<n0) (hl:leaf.size=32) (hr:root.size=32) :
  Calls Tryz.prog 123 #[.string leaf,.int .i64 i0,.int .i64 n0,.slice a 0 cap,.string root] w fun e w'=>e=.returned (.bool (decide (incl n0 i0 [] leaf=some root)))/\Below w.heap.size w w':=by
 have HWd:=hideT (wide_spec a cap [] w 0 (.inl rfl) (by simp))
 have g1:¬(n0:Int)<=i0:=by omega
 rw[show wide []=true from rfl]at HWd
 go_enter Tryz.func123,Tryz.ntmps123
 go_wp2_with fail
 refine HWd.out.mono ?_
 rintro e w1 ⟨rfl,hw1⟩
 subst w1
 go_wp2_with fail
 go_loopw [14,11,12,13] (fun kv av lv hv wr=>kv=.int .i64 0/\av=.int .i64 i0/\lv=.int .i64 ((n0:Int)-1)/\hv=.string leaf/\wr=w) (fun _ _ _ _ _=>0)
 case atStart=>exact⟨rfl,rfl,rfl,rfl,rfl⟩
 case round =>
  obtain⟨rfl,rfl,rfl,rfl,hw⟩:=hrel
  subst hw
  by_cases h1:n0=1
  ·subst h1
   obtain rfl:i0=0:=by omega
   have HE:Hid (decide (incl 1 0 [] leaf=some root)=decide (leaf=root)):=by
    unfold Hid
    rw[incl_one,if_pos rfl]
    simp
   go_wp2_with fail
   go_ret
   exact⟨ret_bool (by rw[HE.out];exact str_eq _ _),Below.refl _ _⟩
  ·have HE:Hid (decide (incl n0 i0 [] leaf=some root)=false):=by
    unfold Hid
    rw[incl_none n0 i0 leaf (by omega)]
    rfl
   have gy:((n0:Int)-1==0)=false:=by simp;omega
   go_wp2_with fail
   go_ret
   exact⟨ret_bool HE.out.symm,Below.refl _ _⟩
theorem incl_in (leaf root:ByteArray) (i0 n0:Nat) (p:List ByteArray) (a:Option Addr) (cap B:Nat) (w:World) (hn:n0<9223372036854775808) (hin:i0<n0) (hp:p.length<=63) (hl:leaf.size=32) (hr:root.size=32) (hw:wide p=true) (hs:Strs w B a p) (hB:B<=w.heap.size) :
  Calls Tryz.prog 123 #[.string leaf,.int .i64 i0,.int .i64 n0,.slice a p.length cap,.string root] w fun e w'=>e=.returned (.bool (decide (incl n0 i0 p leaf=some root)))/\Below w.heap.size w w':=by
 rcases hs with rfl|⟨b,off,rfl,hb,hc⟩
 ·exact incl_empty leaf root i0 n0 a cap w hn hin hl hr
 ·exact incl_at leaf root i0 n0 p b off cap B w hn hin hp hl hr hw hb hc hB
theorem incl_spec (leaf root:ByteArray) (i n:Int) (p:List ByteArray) (a:Option Addr) (cap B:Nat) (w:World) (hn:n<9223372036854775808) (hp:p.length<=1048576) (hs:Strs w B a p) (hB:B<=w.heap.size) :
  Calls Tryz.prog 123 #[.string leaf,.int .i64 i,.int .i64 n,.slice a p.length cap,.string root] w fun e w'=>e=.returned (.bool (inclB leaf i n p root))/\Below w.heap.size w w':=by
 have HD:=hideT (wide_spec a cap p w B hs hp)
 have HIN:=hideT (fun (i0 n0:Nat) h1 h2 h3 h4 h5 h6=>incl_in leaf root i0 n0 p a cap B w h1 h2 h3 h4 h5 h6 hs hB)
 have HPath:=hideT (inclB_path leaf i n p root)
 clear hs
 by_cases h63:63<p.length
 ·have HF:=hideT (HPath.out (by rw[decide_eq_false (by omega)];rfl))
  generalize p.length=m at hp HD h63 ⊢
  go_enter Tryz.func123,Tryz.ntmps123
  go_wp2_with fail
  go_ret
  exact⟨ret_bool HF.out.symm,Below.refl _ _⟩
 ·cases h3:wide p with
  |false =>
   have HF:=hideT (HPath.out (by rw[h3,Bool.and_false]))
   rw[h3]at HD
   clear h3
   generalize p.length=m at hp HD h63 ⊢
   go_enter Tryz.func123,Tryz.ntmps123
   go_wp2_with fail
   refine HD.out.mono ?_
   rintro e w1 ⟨rfl,hw⟩
   subst w1
   go_wp2_with fail
   go_ret
   exact⟨ret_bool HF.out.symm,Below.refl _ _⟩
  |true =>
   have HT:Hid ((decide (p.length<=63) && wide p)=true):=by
    unfold Hid
    rw[h3,decide_eq_true (by omega)]
    rfl
   by_cases hl:leaf.size=32
   ·by_cases hr:root.size=32
    ·by_cases hi0:i<0
     ·have HF:=hideT (inclB_low leaf i n p root hi0)
      rw[h3]at HD
      clear h3 HIN
      generalize p.length=m at hp HD h63 ⊢
      go_enter Tryz.func123,Tryz.ntmps123
      go_wp2_with fail
      refine HD.out.mono ?_
      rintro e w1 ⟨rfl,hw⟩
      subst w1
      go_wp2_with fail
      go_ret
      exact⟨ret_bool HF.out.symm,Below.refl _ _⟩
     ·by_cases hin:i<n
      ·obtain⟨i',rfl⟩:∃ k:Nat,i=k:=⟨i.toNat,by omega⟩
       obtain⟨n',rfl⟩:∃ k:Nat,n=k:=⟨n.toNat,by omega⟩
       rw[inclB_in leaf i' n' p root hl hr HT.out (by omega)]
       exact HIN.out i' n' (by omega) (by omega) (by omega) hl hr h3
      ·have HF:=hideT (inclB_high leaf i n p root hin)
       have hin':n<=i:=by omega
       rw[h3]at HD
       clear h3 HIN
       generalize p.length=m at hp HD h63 ⊢
       go_enter Tryz.func123,Tryz.ntmps123
       go_wp2_with fail
       refine HD.out.mono ?_
       rintro e w1 ⟨rfl,hw⟩
       subst w1
       go_wp2_with fail
       go_ret
       exact⟨ret_bool HF.out.symm,Below.refl _ _⟩
    ·have HF:=hideT (inclB_root leaf i n p root hr)
     rw[h3]at HD
     clear h3 HIN
     generalize p.length=m at hp HD h63 ⊢
     go_enter Tryz.func123,Tryz.ntmps123
     go_wp2_with fail
     refine HD.out.mono ?_
     rintro e w1 ⟨rfl,hw⟩
     subst w1
     go_wp2_with fail
     go_ret
     exact⟨ret_bool HF.out.symm,Below.refl _ _⟩
   ·have HF:=hideT (inclB_leaf leaf i n p root hl)
    rw[h3]at HD
    clear h3 HIN
    generalize p.length=m at hp HD h63 ⊢
    go_enter Tryz.func123,Tryz.ntmps123
    go_wp2_with fail
    refine HD.out.mono ?_
    rintro e w1 ⟨rfl,hw⟩
    subst w1
    go_wp2_with fail
    go_ret
    exact⟨ret_bool HF.out.symm,Below.refl _ _⟩
end Go.Proofs.YtikiihjabbmkcaaGreatDoor.Tr


namespace Go.Proofs.YtikiihjabbmkcaaGreatDoor.Ls
open Go.RowKit
open Bk (cnt count_any)
open Bi (is_yes is_no)
open Tr (inclB incl_impl incl_spec inclB_leaf)
open Sh (Vars leafR leafV leafR_no leafR_yes leaf_impl l03Leaf_any)
open St (Strs)
def fitsB (z b:Int) (r:ByteArray) (i:Int) (t:ByteArray) (p:List ByteArray):Bool:=inclB (leafR t) i ((countN z b r:Nat):Int) p r
theorem mixedF:Tryz.prog.follows .mixedOrders=true:=by kernel_rfl
theorem vars_keepF {w w':World} (h:Vars w) (hb:Below w.heap.size w w'):Vars w':=h.below hb h.two
theorem inclB_range {leaf:ByteArray} {i n:Int} {p:List ByteArray} {root:ByteArray} (h:¬(0<=i/\i<n)):inclB leaf i n p root=false:=by
 unfold inclB
 rw[<-Bool.not_eq_true]
 simp only[Bool.and_eq_true,decide_eq_true_eq]
 exact fun q=>h ⟨q.1.1.2,q.1.2⟩
theorem fits_piece {z b:Int} {r:ByteArray} {i:Int} {t:ByteArray} {p:List ByteArray} (h:100<t.size):fitsB z b r i t p=false:=by
 unfold fitsB
 rw[leafR_no t h]
 exact inclB_leaf _ _ _ _ _ (by decide)
theorem fits_impl (z b:Int) (r:ByteArray) (i:Int) (t:ByteArray) (p:List ByteArray) (a:Option Addr) (cap m:Nat) (w:World) (ht:t.size<=maxLen) (hm:m=p.length) (hp:m<=1048576) (hcap:m<=cap) (hs:Strs w w.heap.size a p) (hV:Vars w) :
  Calls Tryz.prog 128 #[lV z b r,.int .i64 i,.string t,.slice a m cap] w fun e w'=>e=.returned (.bool (fitsB z b r i t p))/\Below w.heap.size w w':=by
 have HA:Hid (Below w.heap.size w (w.alloc (.cells #[.int .i64 z,.int .i64 b,.string r] 29))):=(Below.refl _ _).alloc (Nat.le_refl _) _
 have HX:Hid ((w.alloc (.cells #[.int .i64 z,.int .i64 b,.string r] 29)).heap[w.heap.size]? = some (.cells #[.int .i64 z,.int .i64 b,.string r] 29 (0,0))):=heap_alloc_new w _
 have HC:=hideL (fun W=>count_impl z b r W)
 have HL:=hideL (fun W h=>leaf_impl t W ht h)
 have HCL:=countN_le z b r
 have HI:Hid (∀ W,Below w.heap.size w W->Calls Tryz.prog 159 #[.string (leafR t),.int .i64 i,.int .i64 (countN z b r:Nat),.slice a m cap,.string r] W fun e w'=>e=.returned (.bool (fitsB z b r i t p))/\Below W.heap.size W w'):=fun W h=>by
  have:=incl_impl (leafR t) r i (countN z b r:Nat) p a cap W.heap.size W (by omega) (by omega) (by omega) ((hs.below h).mono h.size) (Nat.le_refl _) (vars_keepF hV h)
  rw[<-hm]at this
  exact this
 have HV:Hid (∀ W,Below w.heap.size w W->Vars W):=fun W h=>vars_keepF hV h
 have hmx:=mixedF
 clear hs hV hm
 unfold lV at HC ⊢
 generalize fitsB z b r i t p=Q at HI ⊢
 generalize leafR t=lf at HI HL
 generalize countN z b r=cn at HI HC
 go_enter Tryz.func128,Tryz.ntmps128
 go_wp2_with fail
 generalize hww:w.alloc (.cells #[.int .i64 z,.int .i64 b,.string r] 29)=wa at HA HX ⊢
 clear hww
 obtain⟨c0,c1,c2⟩:=cells3 HX.out
 generalize w.heap.size=gx at c0 c1 c2 ⊢
 have g0:=fun d os=>cell_regrown c0 d os
 have g1:=fun d os=>cell_regrown c1 d os
 have g2:=fun d os=>cell_regrown c2 d os
 refine wp_region_quiet_below (by assumption) (by kernel_rfl) ?_
 repeat (quiet_step (first|(go_at_call 160;exact Calls.regrown_of (HL.out _ (HV.out _ (lowL HA.out (below_regrown _ _ _)))))|(go_at_call 95;exact Calls.regrown_of (HC.out _))|(go_at_call 159;exact Calls.regrown_of (HI.out _ (lowL HA.out (below_regrown _ _ _))))))
 refine wpQuiet_nil ?_
 intro _ hw'
 obtain⟨⟨dq,osq⟩,hw''⟩:=hw'
 subst hw''
 have KQ:=hideL (below_regrown wa dq osq)
 generalize Go.Sort.grow (redrawn wa dq) osq=w8 at KQ ⊢
 clear g0 g1 g2 c0 c1 c2
 go_wp2_with fail
 go_ret
 exact⟨rfl,lowL HA.out KQ.out⟩
end Go.Proofs.YtikiihjabbmkcaaGreatDoor.Ls

