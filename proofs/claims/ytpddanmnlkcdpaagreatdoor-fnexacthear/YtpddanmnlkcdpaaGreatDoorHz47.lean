/- Texts put together: PqRight, KhSpec, PmOpenS, PmMeetS, PmMeetT, TkManyS, KpAdd. -/
import Derived.Test.YtpddanmnlkcdpaaGreatDoorHz36
import Derived.Test.YtpddanmnlkcdpaaGreatDoorHz34
import Derived.Test.YtpddanmnlkcdpaaGreatDoorHz43
import Derived.Test.YtpddanmnlkcdpaaGreatDoorHz27
import Derived.Test.YtpddanmnlkcdpaaGreatDoorHz30
import Derived.Test.YtpddanmnlkcdpaaGreatDoorHz35
import Derived.Deep.CutBlock
import Derived.Test.YtpddanmnlkcdpaaGreatDoorHz39
set_option maxRecDepth 100000
set_option maxHeartbeats 8000000
namespace Go.Proofs.YtpddanmnlkcdpaaGreatDoor.Pe
open Go.RowKit
open Kp
open Ls (HH hh_keep lV lowL blkL countN count_spec countN_le rightB)
theorem peerRight_spec (fit:Rec->Bool) (z b:Int) (r s:ByteArray) (y:Int) (a:Option Addr) (n cap:Nat) (m:List MO) (w:World) (hs:s.size<=1048576) (hf:rightB z b r=true->FitS fit z b r w) (h:Oths w w.heap.size a m) (hm:m.length=n) (hn:n<=1048576) (hsm:Small m) :
  Calls Tryz.prog 26 #[peerV z b r s y (.slice a n cap)] w fun e w'=>e=.returned (.bool (peerB fit z b r s y (oths m)))/\Below w.heap.size w w':=by
 have C0:=hideK ((Cx.nil w).new (peerO z b r s y (.slice a n cap)))
 have HKR:=hideK (fun W (hW:Below w.heap.size w W)=>keepRight_spec fit z b r s y W hs (fun hr=>(hf hr).later hW))
 have HCO:=hideK (fun W=>count_spec z b r W)
 have HCL:=hideK (countN_le z b r)
 have HS:=hideK h
 have HM:=hideK hm
 have HSM:=hideK hsm
 have HPB:Hid (peerB fit z b r s y (oths m)=(keepB fit z b r s y && othsB (oths m) (countN z b r:Nat))):=rfl
 generalize peerB fit z b r s y (oths m)=P at HPB ⊢
 have hmx:=mixedK
 clear hf h hm hsm
 unfold lV at HCO
 unfold kV at HKR
 unfold peerV
 unfold peerO at C0
 cases hk:keepB fit z b r s y with
 |false =>
  rw[hk]at HKR
  have HP:Hid (P=false):=by unfold Hid;rw[HPB.out,hk];rfl
  clear hk HPB
  go_enter Tryz.func26,Tryz.ntmps26
  go_wp2_with fail
  generalize w.alloc _=W0 at C0 ⊢
  refine(HKR.out _ C0.out.low).mono ?_
  rintro e w1 ⟨rfl,hb⟩
  have C1:=hideK (C0.out.call hb)
  clear hb C0
  go_wp2_with fail
  go_ret
  exact⟨ret_boolP HP.out.symm,C1.out.low⟩
 |true =>
  rw[hk]at HKR
  have HP:Hid (P=othsB (oths m) (countN z b r:Nat)):=by unfold Hid;rw[HPB.out,hk];rfl
  clear hk HPB
  by_cases h4:4<n
  ·have h4':(4:Int)<(n:Int):=by omega
   have HE:Hid (P=false):=by unfold Hid;rw[HP.out];exact othsB_long (by rw[oths_length,HM.out];exact h4)
   go_enter Tryz.func26,Tryz.ntmps26
   go_wp2_with fail
   generalize w.alloc _=W0 at C0 ⊢
   refine(HKR.out _ C0.out.low).mono ?_
   rintro e w1 ⟨rfl,hb⟩
   have C1:=hideK (C0.out.call hb)
   clear hb C0
   obtain⟨p0,p1,p2,p3,p4,p5⟩:=cellsP6 (C1.out.get 0 rfl)
   go_wp2_with fail
   go_ret
   exact⟨ret_boolP HE.out.symm,C1.out.low⟩
  ·have h4':¬(4:Int)<(n:Int):=by omega
   generalize countN z b r=cn at HCO HCL HP
   have HYE:Hid (OthsTo (oths m) (cn:Nat) n->P=true):=fun h2=>by rw[HP.out];exact othsB_yes (by rw[oths_length,HM.out];omega) (by rw[oths_length,HM.out];exact h2)
   have HNO1:Hid (∀ j (hj:j<m.length),othB m[j].1 (cn:Nat)=false->P=false):=fun j hj h=>by
    rw[HP.out]
    exact othsB_no (fun hh=>by
     have:=(hh j (by rw[oths_length];exact hj) (by rw[oths_length];exact hj)).1
     rw[oths_get m j hj,h]at this
     cases this)
   have HNO2:Hid (∀ j (hj:j+1<m.length),ltN (m[j]'(Nat.lt_of_succ_lt hj)).1.name m[j+1].1.name=false->P=false):=fun j hj h=>by
    rw[HP.out]
    exact othsB_no (fun hh=>by
     have:=(hh (j+1) (by rw[oths_length];exact hj) (by rw[oths_length];exact hj)).2 j (by rw[oths_length];omega) rfl
     rw[oths_get m j (by omega),oths_get m (j+1) hj,h]at this
     cases this)
   clear HP
   go_enter Tryz.func26,Tryz.ntmps26
   go_wp2_with fail
   generalize w.alloc _=W0 at C0 ⊢
   refine(HKR.out _ C0.out.low).mono ?_
   rintro e w1 ⟨rfl,hb⟩
   have C1:=hideK (C0.out.call hb)
   clear hb C0
   obtain⟨p0,p1,p2,p3,p4,p5⟩:=cellsP6 (C1.out.get 0 rfl)
   go_wp2_with fail
   refine(HCO.out _).mono ?_
   rintro e w2 ⟨rfl,hb⟩
   have C2:=hideK (C1.out.call hb)
   clear hb C1 p0 p1 p2 p3 p4 p5
   go_wp2_with fail
   go_loopw [4] (fun jv wr=>∃ j:Nat,jv=.int .i64 j/\j<=n/\OthsTo (oths m) (cn:Nat) j/\Cx w wr [(w.heap.size,.cells #[.int .i64 z,.int .i64 b,.string r,.string s,.int .i64 y,.slice a n cap] 35)]) (fun jv _=>n-(intOf jv).toNat)
   case atStart=>exact⟨0,rfl,Nat.zero_le _,oths_zero _ _,C2.out⟩
   case round =>
    obtain⟨j,rfl,hj,hr,hcx⟩:=hrel
    have HR:=hideK hr
    have C3:=hideK hcx
    clear hr hcx C2
    obtain⟨p0,p1,p2,p3,p4,p5⟩:=cellsP6 (C3.out.get 0 rfl)
    by_cases hlt:j<n
    ·have hlt':(j:Int)<(n:Int):=by omega
     have hjl:j<m.length:=by rw[HM.out];exact hlt
     obtain⟨b',off,rfl,hb,hc⟩:=HS.out.some (by omega)
     have F1:=hideK ((hc j hjl).below C3.out.low hb)
     have HA:=hideK (HS.out.2 m[j] (List.getElem_mem hjl))
     have HSX:=hideK (HSM.out m[j] (List.getElem_mem hjl))
     have HB1:=hideK (HNO1.out j hjl)
     have HST:Hid (othB m[j].1 (cn:Nat)=true->(∀ i (hi:i<m.length),i+1=j->ltN m[i].1.name m[j].1.name=true)->OthsTo (oths m) (cn:Nat) (j+1)):=fun h1 h2=>oths_step (by rw[oths_length];exact hjl) HR.out (by rw[oths_get m j hjl];exact h1) (fun i hi hij=>by rw[oths_length]at hi;rw[oths_get m i hi,oths_get m j hjl];exact h2 i hi hij)
     have HPR:Hid (∀ j' (_:j=j' + 1),∃ nm':ByteArray,wr.cell? ⟨b',off+j' * 5,none⟩=some (.string nm')/\(ltN nm' m[j].1.name=false->P=false)/\(ltN nm' m[j].1.name=true->∀ i (hi:i<m.length),i+1=j->ltN m[i].1.name m[j].1.name=true)):=fun j' e=>by
      subst e
      refine⟨(m[j']'(by omega)).1.name,((hc j' (by omega)).below C3.out.low hb).1,fun h=>HNO2.out j' hjl h,fun h i hi hij=>?_⟩
      obtain rfl:i=j':=by omega
      exact h
     have HHA:=hideK (fun W (hW:Below w.heap.size w W)=>other_spec m[j] (cn:Nat) W ((HA.out.below hW).mono hW.size) HSX.out.1 HSX.out.2 (by omega) (by have:=HCL.out;omega))
     obtain⟨ax,cx,hxv,_,_,_⟩:=HA.out
     unfold othV at HHA
     obtain⟨d0,d1,d2,d3,d4⟩:=F1.out
     rw[hxv]at d1 HHA
     generalize othB m[j].1 (cn:Nat)=Q at HB1 HST HHA
     generalize m[j].1.name=nm at d0 HPR HHA HST
     generalize m[j].1.has.length=k at d1 HHA
     generalize m[j].1.asked=q at d2 HHA
     generalize m[j].1.age=g at d3 HHA
     generalize m[j].1.strikes=t at d4 HHA
     clear hc hxv HA HSX F1
     have hj5:j*5=j*5:=rfl
     clear hj5
     have r5:=fun d os=>cell_regrown p5 d os
     have e0:=fun d os=>cell_regrown d0 d os
     have e1:=fun d os=>cell_regrown d1 d os
     have e2:=fun d os=>cell_regrown d2 d os
     have e3:=fun d os=>cell_regrown d3 d os
     have e4:=fun d os=>cell_regrown d4 d os
     cases Q with
     |false =>
      have HE:=hideK (HB1.out rfl)
      go_wp2_with fail
      refine wp_region_quiet_below (by assumption) (by kernel_rfl) ?_
      repeat (go_big_quiet_step ((go_at_call 60;exact Calls.regrown_of (HHA.out _ (lowL C3.out.low (below_regrown _ _ _))))))
      refine wpQuiet_nil ?_
      intro _ hw'
      obtain⟨⟨dq,osq⟩,hw''⟩:=hw'
      subst hw''
      have K1:=hideK (C3.out.call (below_regrown wr dq osq))
      generalize Go.Sort.grow (redrawn wr dq) osq=w8 at K1 ⊢
      clear r5 e0 e1 e2 e3 e4 d0 d1 d2 d3 d4 p0 p1 p2 p3 p4 p5
      go_wp2_with fail
      go_ret
      exact⟨ret_boolP HE.out.symm,K1.out.low⟩
     |true =>
      rcases Nat.eq_zero_or_pos j with h0|h0
      ·subst h0
       simp only[Nat.zero_mul,Nat.add_zero]at d0 d1 d2 d3 d4 e0 e1 e2 e3 e4
       have HNX:=hideK (HST.out rfl (fun i hi e=>by omega))
       have hd:decide ((0:Int)<((0:Nat):Int))=false:=by simp
       go_wp2_with fail
       refine wp_region_quiet_below (by assumption) (by kernel_rfl) ?_
       repeat (go_big_quiet_step ((go_at_call 60;exact Calls.regrown_of (HHA.out _ (lowL C3.out.low (below_regrown _ _ _))))))
       refine wpQuiet_nil ?_
       intro _ hw'
       obtain⟨⟨dq,osq⟩,hw''⟩:=hw'
       subst hw''
       have K1:=hideK (C3.out.call (below_regrown wr dq osq))
       generalize Go.Sort.grow (redrawn wr dq) osq=w8 at K1 ⊢
       clear r5 e0 e1 e2 e3 e4 d0 d1 d2 d3 d4 p0 p1 p2 p3 p4 p5
       go_wp2_with fail
       go_roundw
       case rel=>exact⟨1,by go_num,by omega,HNX.out,K1.out⟩
       case measure=>simp[intOf];omega
      ·obtain⟨j',rfl⟩:∃ j',j=j' + 1:=⟨j-1,by omega⟩
       obtain⟨nm',hcn,hbad,hgood⟩:=HPR.out j' rfl
       have r6:=fun d os=>cell_regrown hcn d os
       have hd:decide ((0:Int)<((j' + 1:Nat):Int))=true:=decide_eq_true (by omega)
       have hj3:(j':Int)<(n:Int):=by omega
       unfold ltN at hbad hgood
       cases hL:Op.bytesLess nm'.toList nm.toList with
       |false =>
        have HE:=hideK (hbad hL)
        clear hbad hgood HB1
        go_wp2_with fail
        refine wp_region_quiet_below (by assumption) (by kernel_rfl) ?_
        repeat (go_big_quiet_step ((go_at_call 60;exact Calls.regrown_of (HHA.out _ (lowL C3.out.low (below_regrown _ _ _))))))
        refine wpQuiet_nil ?_
        intro _ hw'
        obtain⟨⟨dq,osq⟩,hw''⟩:=hw'
        subst hw''
        have K1:=hideK (C3.out.call (below_regrown wr dq osq))
        generalize Go.Sort.grow (redrawn wr dq) osq=w8 at K1 ⊢
        clear r5 r6 e0 e1 e2 e3 e4 d0 d1 d2 d3 d4 p0 p1 p2 p3 p4 p5 hcn
        go_wp2_with fail
        go_ret
        exact⟨ret_boolP HE.out.symm,K1.out.low⟩
       |true =>
        have HNX:=hideK (HST.out rfl (hgood hL))
        clear hbad hgood HB1
        go_wp2_with fail
        refine wp_region_quiet_below (by assumption) (by kernel_rfl) ?_
        repeat (go_big_quiet_step ((go_at_call 60;exact Calls.regrown_of (HHA.out _ (lowL C3.out.low (below_regrown _ _ _))))))
        refine wpQuiet_nil ?_
        intro _ hw'
        obtain⟨⟨dq,osq⟩,hw''⟩:=hw'
        subst hw''
        have K1:=hideK (C3.out.call (below_regrown wr dq osq))
        generalize Go.Sort.grow (redrawn wr dq) osq=w8 at K1 ⊢
        clear r5 r6 e0 e1 e2 e3 e4 d0 d1 d2 d3 d4 p0 p1 p2 p3 p4 p5 hcn
        go_wp2_with fail
        go_roundw
        case rel=>exact⟨j' + 1+1,by go_num,by omega,HNX.out,K1.out⟩
        case measure=>simp[intOf];omega
    ·have HE:=hideK (HYE.out (by have:=HR.out;rwa[show j=n by omega]at this))
     have hltD:decide ((j:Int)<(n:Int))=false:=by simp;omega
     have hlt2:¬((j:Int)<(n:Int)):=by omega
     go_wp2_with fail
     go_ret
     exact⟨ret_boolP HE.out.symm,C3.out.low⟩
end Go.Proofs.YtpddanmnlkcdpaaGreatDoor.Pe


/- Have of the specification. -/
namespace Go.Proofs.YtpddanmnlkcdpaaGreatDoor.Kp
open Go.RowKit
open Ls (lV rightB lowL blkL)
open In (OwnI one_newI one_cellI app_one Ints)
open In.Tryz (infoI2)
open Kh (sortZ insZ)
open Tr (wpList_append_opt)
theorem ownI_lit (W:World):OwnI (W.alloc (.cells #[] 2)) W.heap.size (.slice (some ⟨W.heap.size,0,none⟩) 0 0) [] :=
 ⟨rfl,.inr ⟨W.heap.size,0,#[],rfl,Nat.le_refl _,heap_alloc_new W _,Nat.le_refl _,by decide,rfl,rfl⟩⟩
theorem news_take {W:World} {g k:Nat} {l:List Int} (hc:∀ j (hj:j<l.length),W.cell? ⟨g,j,none⟩=some (.int .i64 l[j])):∀ j u,((l.take k).map (Value.int .i64))[j]? = some u->W.cell? ((⟨g,0,none⟩:Addr).add j)=some u:=by
 intro j u hu
 have hj:j<(l.take k).length:=by
  have:=(List.getElem?_eq_some_iff.1 hu).1
  rwa[List.length_map]at this
 have hj':j<l.length:=Nat.lt_of_lt_of_le hj (List.length_take_le' k l)
 rw[List.getElem?_map,List.getElem?_eq_getElem hj,List.getElem_take]at hu
 rw[Addr.add_lit,Nat.zero_add,hc j hj']
 exact hu
theorem news_drop {W:World} {g k:Nat} {l:List Int} (hc:∀ j (hj:j<l.length),W.cell? ⟨g,j,none⟩=some (.int .i64 l[j])):∀ j u,((l.drop k).map (Value.int .i64))[j]? = some u->W.cell? ((⟨g,k,none⟩:Addr).add j)=some u:=by
 intro j u hu
 have hj:j<(l.drop k).length:=by
  have:=(List.getElem?_eq_some_iff.1 hu).1
  rwa[List.length_map]at this
 rw[List.getElem?_map,List.getElem?_eq_getElem hj,List.getElem_drop]at hu
 rw[List.length_drop]at hj
 rw[Addr.add_lit,hc (k+j) (by omega)]
 exact hu
theorem ints_one (l:List Int):∀ u∈l.map (Value.int .i64),u.oneCell'=true:=by
 intro u hu
 obtain⟨x,_,rfl⟩:=List.mem_map.1 hu
 rfl
theorem below_drewK {B:Nat} {w w':World} (h:Below B w w') (n:Nat):Below B w (w'.drewN n):=⟨h.os,h.tape,h.output,h.size,h.block⟩
end Go.Proofs.YtpddanmnlkcdpaaGreatDoor.Kp


namespace Go.Proofs.YtpddanmnlkcdpaaGreatDoor.Pl
open Go.RowKit
open Kp
open Pe
open In (Ints OwnI)
open In.Tryz (infoI2)
open Tr (wpList_append_opt)
open Ap (KeepE keepE_own)
open Ls (lowL blk_alloc lV)
open Sh (step_append_own)
def gmB (z b:Int) (r s:ByteArray) (y:Int) (vo va:Value):Obj:=.cells #[.int .i64 z,.int .i64 b,.string r,.string s,.int .i64 y,vo,va] 69
theorem gm_set5 {W:World} {g:Nat} {z b:Int} {r s:ByteArray} {y:Int} {vo va:Value} (h:W.heap[g]? = some (gmB z b r s y vo va)) (v:Value):(W.setCell ⟨g,5,none⟩ v).heap[g]? = some (gmB z b r s y v va):=by
 unfold gmB at h ⊢
 rw[heap_setCell_same W g 5 _ _ v h]
 rfl
theorem gm_set6 {W:World} {g:Nat} {z b:Int} {r s:ByteArray} {y:Int} {vo va:Value} (h:W.heap[g]? = some (gmB z b r s y vo va)) (v:Value):(W.setCell ⟨g,6,none⟩ v).heap[g]? = some (gmB z b r s y vo v):=by
 unfold gmB at h ⊢
 rw[heap_setCell_same W g 6 _ _ v h]
 rfl
structure Game (w W:World) (gg:Nat) (z b:Int) (r s:ByteArray) (y:Int) (ao:Option Addr) (no co:Nat) (va:Value) (mo:List MO) (mr:List MR):Prop where
 low:Below w.heap.size w W
 gg0:w.heap.size<=gg
 blk:W.heap[gg]? = some (gmB z b r s y (.slice ao no co) va)
 orow:OwnO W w.heap.size (.slice ao no co) mo
 has:Hass W w.heap.size mo
 ap:Apart mo
 rrow:RowQ W w.heap.size va mr
 ps:Paths W mr
theorem Game.call {w W W':World} {gg:Nat} {z b:Int} {r s:ByteArray} {y:Int} {ao:Option Addr} {no co:Nat} {va:Value} {mo:List MO} {mr:List MR} (h:Game w W gg z b r s y ao no co va mo mr) (hb:Below W.heap.size W W'):Game w W' gg z b r s y ao no co va mo mr :=
 ⟨lowL h.low hb,h.gg0,(hb.block gg (lt_rowK h.blk)).trans h.blk,h.orow.below hb,h.has.below hb,h.ap,h.rrow.below hb,h.ps.keeps (KeepsS.below hb)⟩
theorem _root_.Go.Proofs.YtpddanmnlkcdpaaGreatDoor.Pe.Cop.set {w W:World} {m m':List MO} {j gg i:Nat} {u x:Value} {cs:Array Value} {T:TypeId} (h:Cop w W m j u m') (hg:W.heap[gg]? = some (.cells cs T (0,0))) (h1:T≠86) (h2:T≠2) (hl:w.heap.size<=gg):Cop w (W.setCell ⟨gg,i,none⟩ x) m j u m' :=
 have k6:=fun k o (hk:W.heap[k]? = some o) (hne:k≠gg)=>(heap_setCell_other W ⟨gg,i,none⟩ k x (by exact hne)).trans hk
 ⟨h.os,own_others h.row hg h1 k6,fun y hy=>own_others (h.has y hy) hg h2 k6,h.ap,h.low.setCell (p:=⟨gg,i,none⟩) hl x⟩
theorem rowQ_mono {W:World} {base base':Nat} {v:Value} {m:List MR} (h:RowQ W base v m) (hb:base'<=base):RowQ W base' v m:=by
 rcases h with h|⟨hl,h⟩
 ·exact .inl h
 ·refine .inr ⟨hl,?_⟩
  rcases h with h|⟨g,cap,cur,hv,hg,rest⟩
  ·exact .inl h
  ·exact .inr ⟨g,cap,cur,hv,Nat.le_trans hb hg,rest⟩
theorem rowQ_others {W W':World} {base g:Nat} {v:Value} {m:List MR} {cs:Array Value} {T:TypeId} (h:RowQ W base v m) (hg:W.heap[g]? = some (.cells cs T (0,0))) (hT:T≠139) (hk:∀ k o,W.heap[k]? = some o->k≠g->W'.heap[k]? = some o):RowQ W' base v m:=by
 rcases h with h|h
 ·exact .inl h
 ·exact .inr (own_others h hg hT hk)
theorem open_more {w wr w1 w3:World} {m m':List MO} {j gg gp:Nat} {u v1 v3:Value} {x:Oth} {l0:Value} {z b:Int} {r s:ByteArray} {y:Int} {P:Obj} (h:Cop w wr m j u m') (hx:oths (m.take (j+1))=oths (m.take j)++[x])
  (hgg:wr.heap[gg]? = some (gmB z b r s y u (.slice none 0 0))) (hgp:wr.heap[gp]? = some P) (hP:u.ownBlock≠some gp) (hpg:gp≠gg) (hl:w.heap.size<=gg)
  (ho1:OwnI w1 (wr.heap.size+1) v1 x.has) (hb1:Below (wr.heap.size+1) (wr.alloc (.cells #[.string x.name,l0,.int .i64 x.asked,.int .i64 x.age,.int .i64 x.strikes] 86)) w1)
  (ho3:w3.ownsRow w.heap.size 86 5 v3 (m'.length+1) (cellsO m'++[.string x.name,v1,.int .i64 x.asked,.int .i64 x.age,.int .i64 x.strikes]))
  (hg3:((w1.setCell ⟨wr.heap.size,1,none⟩ v1).drew.alloc (.cells #[.string x.name,v1,.int .i64 x.asked,.int .i64 x.age,.int .i64 x.strikes] 86)).grownBy w3 u.ownBlock) :
  w3.heap[gg]? = some (gmB z b r s y u (.slice none 0 0))/\Cop w (w3.setCell ⟨gg,5,none⟩ v3) m (j+1) v3 (m'++[(x,v1)])/\(w3.setCell ⟨gg,5,none⟩ v3).heap[gg]? = some (gmB z b r s y v3 (.slice none 0 0))/\(w3.setCell ⟨gg,5,none⟩ v3).heap[gp]? = some P:=by
 have hc:=h.more hx h.low.size ho1 hb1 ho3 ⟨hg3.os,hg3.tape,hg3.output,hg3.size,hg3.block⟩
 have up:∀ k o,wr.heap[k]? = some o->u.ownBlock≠some k->w3.heap[k]? = some o:=fun k o hk hu=>by
  have hkl:=lt_rowK hk
  have h1:w1.heap[k]? = some o:=(hb1.block k (by omega)).trans ((heap_alloc_old wr _ hkl).trans hk)
  have h2:(w1.setCell ⟨wr.heap.size,1,none⟩ v1).heap[k]? = some o:=(heap_setCell_other w1 ⟨wr.heap.size,1,none⟩ k v1 (by show k≠wr.heap.size;omega)).trans h1
  exact grown_blk hg3 (blk_alloc (W:=(w1.setCell ⟨wr.heap.size,1,none⟩ v1).drew) h2 _) hu
 have hT:u.ownBlock≠some gg:=by unfold gmB at hgg;exact own_ne_ty h.row hgg (by decide)
 have h3:=up gg _ hgg hT
 refine⟨h3,?_,gm_set5 h3 v3,(heap_setCell_other w3 ⟨gg,5,none⟩ gp v3 (by exact hpg)).trans (up gp _ hgp hP)⟩
 unfold gmB at h3
 exact hc.set h3 (by decide) (by decide) hl
theorem open_spec (fit:Rec->Bool) (z b:Int) (r s:ByteArray) (y:Int) (a:Option Addr) (n cap:Nat) (m:List MO) (w:World) (hs:s.size<=1048576) (hf:FitS fit z b r w) (h:Oths w w.heap.size a m) (hm:m.length=n) (hn:n<=1048576) (hsm:Small m) :
  Calls Tryz.prog 28 #[peerV z b r s y (.slice a n cap)] w fun e w'=>∃ gg ao co va mo mr,e=.returned (.pointer (some ⟨gg,0,none⟩))/\Game w w' gg z b r s y ao n co va mo mr/\oths mo=oths m/\recs mr=(allR fit s).1:=by
 obtain⟨i0,hi0,hz0,hz1,hz2⟩:=info_parts infoI2
 obtain⟨j0,hj0,ho0,ho1,ho2⟩:=info_parts Tryz.infoOther
 have hmx:=mixedK
 have C0:=hideK (((Cx.nil w).new (peerO z b r s y (.slice a n cap))).new (gmB z b r s y (.slice none 0 0) (.slice none 0 0)))
 simp only[World.size_alloc]at C0
 have HS:=hideK h
 have HM:=hideK hm
 have HSM:=hideK hsm
 have HAL:=hideK (fun W (hW:Below w.heap.size w W)=>l08All_any fit z b r s W hs (hf.later hW))
 clear h hm hsm hf
 unfold peerV
 unfold peerO gmB at C0
 unfold lV at HAL
 go_enter Tryz.func28,Tryz.ntmps28
 go_wp2_with fail
 generalize hgk:w.heap.size=gk at C0 ⊢
 have HGK:=hideK hgk
 clear hgk
 generalize (w.alloc _).alloc _=W0 at C0 ⊢
 go_loopw [4] (fun jv wr=>∃ (j:Nat) (u:Value) (m':List MO),jv=.int .i64 j/\j<=n/\Cop w wr m j u m'/\wr.heap[gk+1]? = some (gmB z b r s y u (.slice none 0 0))/\wr.heap[gk]? = some (peerO z b r s y (.slice a n cap))) (fun jv _=>n-(intOf jv).toNat)
 case atStart=>exact⟨0,.slice none 0 0,[],rfl,Nat.zero_le _,⟨rfl,OwnO.nil _ _,fun x hx=>absurd hx List.not_mem_nil,List.Pairwise.nil,C0.out.low⟩,C0.out.get 0 rfl,C0.out.get 1 rfl⟩
 case round =>
  obtain⟨j,u,m',rfl,hj,hcop,hgg,hgp⟩:=hrel
  have CP:=hideK hcop
  have HLN:=hideK (hcop.len (by rw[HM.out];exact hj))
  have hzr:=hcop.low.size
  have GG:=hideK hgg
  have GP:=hideK hgp
  obtain⟨au,cu,hu,_,_⟩:=hcop.row.one
  rw[HLN.out]at hu
  subst hu
  clear hcop hgg hgp
  have hgl:=lt_rowK GG.out
  obtain⟨p0,p1,p2,p3,p4,p5⟩:=cellsP6 (by have:=GP.out;unfold peerO at this;exact this)
  by_cases hlt:j<n
  ·have hlt':(j:Int)<(n:Int):=by omega
   have hjl:j<m.length:=by rw[HM.out];exact hlt
   obtain⟨bb,off,rfl,hb,hc⟩:=HS.out.some (by omega)
   obtain⟨d0,d1,d2,d3,d4⟩:=(hc j hjl).below CP.out.low hb
   obtain⟨ax,cx,hxv,hcx,hnx,hix⟩:=HS.out.2 m[j] (List.getElem_mem hjl)
   have HIX:=hideK (hix.below CP.out.low)
   have HSX:=hideK (HSM.out m[j] (List.getElem_mem hjl))
   have HT:=hideK (oths_take hjl)
   rw[hxv]at d1
   have hkx:=HSX.out.1
   have HNX:Hid (ax=none->m[j].1.has.length=0/\cx=0):=fun h=>by have:=hnx h;omega
   generalize m[j].1=x at d0 d1 d2 d3 d4 HIX HT hkx hcx HNX
   obtain⟨nm,l,q,g,t⟩:=x
   dsimp only at d0 d1 d2 d3 d4 HIX hkx hcx HNX
   clear hc hxv HSX hjl hnx hix
   have XN:Hid ((wr.alloc (.cells #[.string nm,.slice ax l.length cx,.int .i64 q,.int .i64 g,.int .i64 t] 86)).heap[wr.heap.size]? = some (.cells #[.string nm,.slice ax l.length cx,.int .i64 q,.int .i64 g,.int .i64 t] 86 (0,0))):=heap_alloc_new wr _
   have BN:Hid (Below w.heap.size wr (wr.alloc (.cells #[.string nm,.slice ax l.length cx,.int .i64 q,.int .i64 g,.int .i64 t] 86))):=(Below.refl _ _).alloc hzr _
   have HMO:Hid (∀ (w1 w3:World) (v1 v3:Value),OwnI w1 (wr.heap.size+1) v1 l->Below (wr.heap.size+1) (wr.alloc (.cells #[.string nm,.slice ax l.length cx,.int .i64 q,.int .i64 g,.int .i64 t] 86)) w1->w3.ownsRow w.heap.size 86 5 v3 (j+1) (cellsO m'++[.string nm,v1,.int .i64 q,.int .i64 g,.int .i64 t])->((w1.setCell ⟨wr.heap.size,1,none⟩ v1).drew.alloc (.cells #[.string nm,v1,.int .i64 q,.int .i64 g,.int .i64 t] 86)).grownBy w3 (Value.slice au j cu).ownBlock->w3.heap[gk+1]? = some (gmB z b r s y (.slice au j cu) (.slice none 0 0))/\Cop w (w3.setCell ⟨gk+1,5,none⟩ v3) m (j+1) v3 (m'++[(⟨nm,l,q,g,t⟩,v1)])/\(w3.setCell ⟨gk+1,5,none⟩ v3).heap[gk+1]? = some (gmB z b r s y v3 (.slice none 0 0))/\(w3.setCell ⟨gk+1,5,none⟩ v3).heap[gk]? = some (peerO z b r s y (.slice (some ⟨bb,off,none⟩) n cap))):=fun w1 w3 v1 v3 h1 h2 h3 h4=>open_more (x:=⟨nm,l,q,g,t⟩) CP.out HT.out GG.out GP.out (by have:=GP.out;unfold peerO at this;exact own_ne_ty CP.out.row this (by decide)) (by omega) (by have:=HGK.out;omega) h1 h2 (by rw[HLN.out];exact h3) h4
   have HRW:Hid (∀ (w1:World) (v1:Value),Below (wr.heap.size+1) (wr.alloc (.cells #[.string nm,.slice ax l.length cx,.int .i64 q,.int .i64 g,.int .i64 t] 86)) w1->((w1.setCell ⟨wr.heap.size,1,none⟩ v1).alloc (.cells #[.string nm,v1,.int .i64 q,.int .i64 g,.int .i64 t] 86)).drew.ownsRow w.heap.size 86 5 (.slice au j cu) j (cellsO m')/\(w1.setCell ⟨wr.heap.size,1,none⟩ v1).heap[gk+1]? = some (gmB z b r s y (.slice au j cu) (.slice none 0 0))):=fun w1 v1 h2=>by
    have:=(((CP.out.row.below (((Below.refl _ wr).alloc (Nat.le_refl _) _).trans (h2.mono (Nat.le_succ _)))).set_other (CP.out.row.block_lt (Nat.le_refl _)) 1 v1).alloc (.cells #[.string nm,v1,.int .i64 q,.int .i64 g,.int .i64 t] 86))
    unfold OwnO at this
    rw[HLN.out]at this
    exact⟨this,(heap_setCell_other w1 ⟨wr.heap.size,1,none⟩ (gk+1) v1 (by show gk+1≠wr.heap.size;omega)).trans ((h2.block (gk+1) (by omega)).trans ((heap_alloc_old wr _ hgl).trans GG.out))⟩
   go_upto_region 6 with fail
   have hsz1:(wr.alloc (.cells #[.string nm,.slice ax l.length cx,.int .i64 q,.int .i64 g,.int .i64 t] 86)).heap.size=wr.heap.size+1:=by simp
   have HSZ1:=hideK hsz1
   clear hsz1
   generalize wr.alloc (.cells #[.string nm,.slice ax l.length cx,.int .i64 q,.int .i64 g,.int .i64 t] 86)=W1 at XN BN HMO HRW HSZ1 ⊢
   generalize wr.heap.size=gx at XN HMO HRW HSZ1 hzr hgl ⊢
   obtain⟨e0,e1,e2,e3,e4⟩:=cells5 XN.out
   clear d0 d1 d2 d3 d4 p0 p1 p2 p3 p4 p5
   generalize hkl:l.length=k at e1 hkx hcx HNX XN ⊢
   have HKL:=hideK hkl
   clear hkl
   have c1':(W1.alloc (.cells #[] 2)).cell? ⟨gx,1,none⟩=some (.slice ax k cx):=cell_of_row _ gx 1 _ _ _ (blk_alloc XN.out _)
   have HIY:=hideK ((HIX.out.below BN.out).below ((Below.refl w.heap.size W1).alloc (by have:=HSZ1.out;omega) (.cells #[] 2)))
   go_wp2_with (at_builtin;refine wpList_append_opt _ rfl (.tmp 25) (.tmp 27) 84 rfl W1.heap.size 2 i0 (.int .i64 0) 1 8 Tryz.underlying84 hi0 hz0 hz1 hz2 rfl (by decide) (.slice (some ⟨W1.heap.size,0,none⟩) 0 0) 0 [] rfl (ownI_lit W1) ax k cx HNX.out (l.map (Value.int .i64)) rfl (by rw[List.length_map,HKL.out,Nat.mul_one]) (ints_news HIY.out) (ints_oneP _) (by unfold maxLen;omega) (by omega) (by simp) ?_)
   intro v1 w1 hown1 hgrow1 _
   have O1:Hid (OwnI w1 (gx+1) v1 l):=by
    unfold Hid OwnI
    rw[HKL.out,<-HSZ1.out]
    simpa using hown1
   have B1:Hid (Below (gx+1) W1 w1):=((Below.refl _ _).alloc (by rw[HSZ1.out];exact Nat.le_refl _) (.cells #[] 2)).grown hgrow1 (by simp;rw[HSZ1.out];omega) (fun k hk=>by simp[Value.ownBlock]at hk;rw[<-hk,HSZ1.out];exact Nat.le_refl _)
   obtain⟨a1,c1,hv1,_,_⟩:=O1.out.ints
   rw[HKL.out]at hv1
   subst hv1
   have X1:Hid (w1.heap[gx]? = some (.cells #[.string nm,.slice ax k cx,.int .i64 q,.int .i64 g,.int .i64 t] 86 (0,0))):=(B1.out.block _ (Nat.lt_succ_self _)).trans XN.out
   obtain⟨f0,f1,f2,f3,f4⟩:=cells5 X1.out
   have ff:=frozen_of_row w1 gx 1 _ _ X1.out
   have X2:Hid ((w1.setCell ⟨gx,1,none⟩ (.slice a1 k c1)).heap[gx]? = some (.cells #[.string nm,.slice a1 k c1,.int .i64 q,.int .i64 g,.int .i64 t] 86 (0,0))):=by
    unfold Hid
    rw[heap_setCell_same w1 gx 1 _ _ _ X1.out]
    rfl
   have RW:=hideK (HRW.out w1 (.slice a1 k c1) B1.out)
   have MO1:=hideK (fun w3 v3=>HMO.out w1 w3 (.slice a1 k c1) v3 O1.out B1.out)
   have hz4:w.heap.size<=(w1.setCell ⟨gx,1,none⟩ (.slice a1 k c1)).heap.size:=by
    have:=B1.out.size
    simp
    have:=HSZ1.out
    omega
   clear hown1 hgrow1 e0 e1 e2 e3 e4 c1'
   go_upto_region 7 with fail
   generalize w1.setCell ⟨gx,1,none⟩ (.slice a1 k c1)=W2 at X2 RW MO1 hz4 ⊢
   clear f0 f1 f2 f3 f4 ff
   obtain⟨e0,e1,e2,e3,e4⟩:=cells5 X2.out
   have G2:=RW.out.2
   have k5:W2.cell? ⟨gk+1,5,none⟩=some (.slice au j cu):=cell_of_row W2 (gk+1) 5 _ _ _ (by unfold gmB at G2;exact G2)
   have cA:(W2.alloc (.cells #[.string nm,.slice a1 k c1,.int .i64 q,.int .i64 g,.int .i64 t] 86)).cell? ⟨gk+1,5,none⟩=some (.slice au j cu):=cell_of_row (W2.alloc (.cells #[.string nm,.slice a1 k c1,.int .i64 q,.int .i64 g,.int .i64 t] 86)) (gk+1) 5 _ _ _ (by unfold gmB at G2;exact blk_alloc G2 _)
   have HC5:Hid (∀ W:World,W.heap[gk+1]? = some (gmB z b r s y (.slice au j cu) (.slice none 0 0))->W.cell? ⟨gk+1,5,none⟩=some (.slice au j cu)/\∀ o,W.frozen? ⟨gk+1,o,none⟩=false):=fun W h=>by
    unfold gmB at h
    exact⟨cell_of_row W (gk+1) 5 _ _ _ h,fun o=>frozen_of_row W (gk+1) o _ _ h⟩
   clear G2
   go_region_law (refine step_append_own rfl (.tmp 35) (.tmp 37) 33 rfl w.heap.size 86 j0 _ 5 64 Tryz.underlying33 hj0 ho0 ho1 ho2 rfl (by decide) (.slice au j cu) j (cellsO m') rfl RW.out.1 ⟨W2.heap.size,0,none⟩ 1 1 [.string nm,.slice a1 k c1,.int .i64 q,.int .i64 g,.int .i64 t] rfl rfl (five_new W2.drew _ _ _ _ _ _) (five_one rfl rfl rfl rfl rfl) (by unfold maxLen;omega) (by omega) (by simp;omega) ?_;intro v8 w8 ho8 hg8;obtain⟨a8,c8,hv8⟩:=own_one ho8;subst hv8;obtain⟨G8,E8a,E8b,E8c⟩:=MO1.out w8 _ ho8 hg8;have F1:=hideK E8a;have F2:=hideK E8b;have F3:=hideK E8c;obtain⟨d5,hf8⟩:=HC5.out w8 G8;clear ho8 hg8 E8a E8b E8c G8)
   all_goals (try go_wp2_with fail)
   all_goals
    go_roundw
    case rel=>exact⟨j+1,_,_,by go_num,by omega,F1.out,F2.out,F3.out⟩
    case measure=>simp[intOf];omega
  ·have hlt2:¬(j:Int)<(n:Int):=by omega
   have hltD:decide ((j:Int)<(n:Int))=false:=by simp;omega
   obtain rfl:j=n:=by omega
   have HAL1:=hideK (HAL.out wr CP.out.low)
   have HOS:Hid (oths m'=oths m):=by unfold Hid;rw[CP.out.os,List.take_of_length_le (by rw[HM.out];exact Nat.le_refl _)]
   clear HAL
   go_wp2_with fail
   refine HAL1.out.mono ?_
   rintro e w9 ⟨⟨va,mr,rfl,hrs,hrow,hps⟩,hb⟩
   have GG9:Hid (w9.heap[gk+1]? = some (gmB z b r s y (.slice au j cu) (.slice none 0 0))):=(hb.block (gk+1) hgl).trans GG.out
   obtain⟨ar,cr,hva,_⟩:=hrow.one
   subst hva
   have LW:=hideK (lowL CP.out.low hb)
   have GM:Hid (Game w (w9.setCell ⟨gk+1,6,none⟩ (.slice ar mr.length cr)) (gk+1) z b r s y au j cu (.slice ar mr.length cr) m' mr):=by
    have h9:=GG9.out
    have k6:=fun k o (hk:w9.heap[k]? = some o) (hne:k≠gk+1)=>(heap_setCell_other w9 ⟨gk+1,6,none⟩ k (.slice ar mr.length cr) (by exact hne)).trans hk
    have hg6:=gm_set6 h9 (.slice ar mr.length cr)
    unfold gmB at h9
    exact⟨LW.out.setCell (p:=⟨gk+1,6,none⟩) (by have:=HGK.out;show w.heap.size<=gk+1;omega) _,by have:=HGK.out;omega,hg6,own_others (CP.out.row.below hb) h9 (by decide) k6,fun x hx=>own_others ((CP.out.has.below hb) x hx) h9 (by decide) k6,CP.out.ap,rowQ_others (rowQ_mono hrow CP.out.low.size) h9 (by decide) k6,hps.keeps (KeepsS.others h9 (by decide) k6)⟩
   have RS:=hideK hrs
   have c6:w9.cell? ⟨gk+1,6,none⟩=some (.slice none 0 0):=cell_of_row w9 (gk+1) 6 _ _ _ (by have:=GG9.out;unfold gmB at this;exact this)
   have f6:w9.frozen? ⟨gk+1,6,none⟩=false:=frozen_of_row w9 (gk+1) 6 _ _ (by have:=GG9.out;unfold gmB at this;exact this)
   clear hb hrs hrow hps HAL1 CP GG GG9 p0 p1 p2 p3 p4 p5
   go_wp2_with fail
   go_ret
   exact⟨gk+1,au,cu,_,m',mr,rfl,GM.out,HOS.out,RS.out⟩
end Go.Proofs.YtpddanmnlkcdpaaGreatDoor.Pl


/- The specification: another one is met. -/
namespace Go.Proofs.YtpddanmnlkcdpaaGreatDoor.Pl
open Go.RowKit
open Kp
open Pe
open Pm
open In (Ints OwnI)
open Go.Proofs.YtpddanmnlkcdpaaGreatDoor.Nm (nameB)
open Tr (wpList_append_opt)
open Ap (KeepE keepE_own)
open Ls (lowL blk_alloc)
theorem ownL_lit (W:World):OwnL (W.alloc (.cells #[] 114)) W.heap.size (.slice (some ⟨W.heap.size,0,none⟩) 0 0) [] :=
 ⟨rfl,.inr ⟨W.heap.size,0,#[],rfl,Nat.le_refl _,heap_alloc_new W _,Nat.le_refl _,by decide,rfl,rfl⟩⟩
end Go.Proofs.YtpddanmnlkcdpaaGreatDoor.Pl


namespace Go.Proofs.YtpddanmnlkcdpaaGreatDoor.Pl
open Go.RowKit
open Kp
open Pe
open Pm
open In (Ints OwnI)
open Go.Proofs.YtpddanmnlkcdpaaGreatDoor.Nm (nameB)
open Ls (lowL blk_alloc rightB)
theorem ill_spec (c:Int) (w:World):Calls Tryz.prog 25 #[.int .i64 c] w fun e w'=>e=.returned (poV 0 0 ⟨#[]⟩ ⟨#[]⟩ 0 (.slice none 0 0) (.slice none 0 0) c)/\Below w.heap.size w w':=by
 have C0:=hideK ((Cx.nil w).new (poO 0 0 ⟨#[]⟩ ⟨#[]⟩ 0 (.slice none 0 0) (.slice none 0 0) 0))
 unfold poO at C0
 unfold poV
 go_enter Tryz.func25,Tryz.ntmps25
 go_upto_region 1 with fail
 generalize hgk:w.heap.size=gk at C0 ⊢
 generalize w.alloc _=W0 at C0 ⊢
 obtain⟨q0,q1,q2,q3,q4,q5,q6,q7⟩:=cellsP8 (C0.out.get 0 rfl)
 have ff:=fun o=>frozen_of_row W0 gk o _ _ (C0.out.get 0 rfl)
 have s8:=cellsP8 (setP8 (W:=W0) (C0.out.get 0 rfl) (.int .i64 0) (.int .i64 0) (.string ⟨#[]⟩) (.string ⟨#[]⟩) (.int .i64 0) (.slice none 0 0) (.slice none 0 0) (.int .i64 c))
 have E8:=hideK (setP8_low (W:=W0) C0.out.low (g:=gk) (by omega) (.int .i64 0) (.int .i64 0) (.string ⟨#[]⟩) (.string ⟨#[]⟩) (.int .i64 0) (.slice none 0 0) (.slice none 0 0) (.int .i64 c))
 go_wp2_with fail
 exact bodyPost_ret (v:=.agg #[.int .i64 0,.int .i64 0,.string ⟨#[]⟩,.string ⟨#[]⟩,.int .i64 0,.slice none 0 0,.slice none 0 0,.int .i64 c]) (by simp[results,Tryz.results25,go_sem,s8.1,s8.2.1,s8.2.2.1,s8.2.2.2.1,s8.2.2.2.2.1,s8.2.2.2.2.2.1,s8.2.2.2.2.2.2.1,s8.2.2.2.2.2.2.2]) rfl ⟨rfl,E8.out⟩
theorem cellsP7 {W:World} {g:Nat} {a0 a1 a2 a3 a4 a5 a6:Value} {T:TypeId} {fr:Nat × Nat} (h:W.heap[g]? = some (.cells #[a0,a1,a2,a3,a4,a5,a6] T fr)):W.cell? ⟨g,0,none⟩=some a0/\W.cell? ⟨g,1,none⟩=some a1/\W.cell? ⟨g,2,none⟩=some a2/\W.cell? ⟨g,3,none⟩=some a3/\W.cell? ⟨g,4,none⟩=some a4/\W.cell? ⟨g,5,none⟩=some a5/\W.cell? ⟨g,6,none⟩=some a6 :=
 ⟨cell_of_row W g 0 _ _ _ h,cell_of_row W g 1 _ _ _ h,cell_of_row W g 2 _ _ _ h,cell_of_row W g 3 _ _ _ h,cell_of_row W g 4 _ _ _ h,cell_of_row W g 5 _ _ _ h,cell_of_row W g 6 _ _ _ h⟩
theorem peerB_right {fit:Rec->Bool} {z b:Int} {r s:ByteArray} {y:Int} {l:List Oth} (h:peerB fit z b r s y l=true):rightB z b r=true:=by
 unfold peerB keepB atB mayB at h
 simp only[Bool.and_eq_true]at h
 exact h.1.1.1.1
theorem Game.poIn {w W:World} {gg:Nat} {z b:Int} {r s:ByteArray} {y:Int} {ao as':Option Addr} {no co ns cs:Nat} {va:Value} {mo:List MO} {mr:List MR} {ms:List ML} (h:Game w W gg z b r s y ao no co va mo mr) (hs:OwnL W w.heap.size (.slice as' ns cs) ms) (hn:∀ x∈ms,x.2=.slice none 0 0/\x.1.path=[]):PoIn W w.heap.size (.slice ao no co) (.slice as' ns cs) mo ms :=
 ⟨h.orow,h.has,h.ap,hs,fun x hx=>by rw[(hn x hx).1,(hn x hx).2];exact St.OwnS.nil _ _,pairwise_all ms fun a ha' _ _ g hg=>by rw[(hn a ha').1]at hg;simp[Value.ownBlock]at hg⟩
end Go.Proofs.YtpddanmnlkcdpaaGreatDoor.Pl


/- The specification: how many have an index that one is to be asked for. -/
namespace Go.Proofs.YtpddanmnlkcdpaaGreatDoor.Tk
open Go.RowKit
open Kp
open Pe
open Pl
open In (Ints OwnI)
open Ls (lowL blk_alloc)
theorem rises_fresh {l:List Int} {c:Int} (h:RisesTo l c l.length):∀ (j i:Nat) (hj:j<l.length) (hi:i<j),l[i]'(Nat.lt_trans hi hj)<l[j]
 |0,_,_,hi=>absurd hi (Nat.not_lt_zero _)
 |j+1,i,hj,hi=>by
  have h1:=(h (j+1) hj hj).2.2 (by omega)
  rw[List.getD_eq_getElem?_getD,Nat.add_sub_cancel,List.getElem?_eq_getElem (by omega)]at h1
  dsimp only[Option.getD]at h1
  by_cases e:i=j
  ·subst e
   exact h1
  ·have:=rises_fresh h j i (by omega) (by omega)
   omega
def oneN (p:Prop) [Decidable p]:Nat:=if p then 1 else 0
def mineB (l:List Oth) (k:Nat) (x:Int) (i:Nat):Bool:=decide (k<i) && (match l[k]? with|none=>false|some o=>decide (x∈o.has))
def manyZ (l:List Oth) (k:Nat) (rs:List Int) (x:Int):Int:=if askB l x=true then -1 else if (mineB l k x l.length && !decide (x∈rs))=true then (ownN l x:Nat) else -1
end Go.Proofs.YtpddanmnlkcdpaaGreatDoor.Tk


namespace Go.Proofs.YtpddanmnlkcdpaaGreatDoor.Kp
open Go.RowKit
open Ls (HH hh_keep lV lowL blkL cells3 lm_alloc lm_drew)
open St (Strs)
open Pk (cat join_any)
theorem set6 {W:World} {g:Nat} {x0 x1 x2 x3 x4 x5:Value} {T:TypeId} (h:W.heap[g]? = some (.cells #[x0,x1,x2,x3,x4,x5] T (0,0))) (a0 a1 a2 a3 a4 a5:Value) :
  ((((((W.setCell ⟨g,0,none⟩ a0).setCell ⟨g,1,none⟩ a1).setCell ⟨g,2,none⟩ a2).setCell ⟨g,3,none⟩ a3).setCell ⟨g,4,none⟩ a4).setCell ⟨g,5,none⟩ a5).heap[g]? = some (.cells #[a0,a1,a2,a3,a4,a5] T (0,0)):=by
 have h0:(W.setCell ⟨g,0,none⟩ a0).heap[g]? = some (.cells #[a0,x1,x2,x3,x4,x5] T (0,0)):=by rw[heap_setCell_same W g 0 _ T a0 h];rfl
 have h1:=heap_setCell_same _ g 1 _ T a1 h0
 have h2:=heap_setCell_same _ g 2 _ T a2 h1
 have h3:=heap_setCell_same _ g 3 _ T a3 h2
 have h4:=heap_setCell_same _ g 4 _ T a4 h3
 have h5:=heap_setCell_same _ g 5 _ T a5 h4
 exact h5
theorem cells6 {W:World} {g:Nat} {x0 x1 x2 x3 x4 x5:Value} {T:TypeId} (h:W.heap[g]? = some (.cells #[x0,x1,x2,x3,x4,x5] T (0,0))):W.cell? ⟨g,0,none⟩=some x0/\W.cell? ⟨g,1,none⟩=some x1/\W.cell? ⟨g,2,none⟩=some x2/\W.cell? ⟨g,3,none⟩=some x3/\W.cell? ⟨g,4,none⟩=some x4/\W.cell? ⟨g,5,none⟩=some x5 :=
 ⟨cell_of_row W g 0 _ _ _ h,cell_of_row W g 1 _ _ _ h,cell_of_row W g 2 _ _ _ h,cell_of_row W g 3 _ _ _ h,cell_of_row W g 4 _ _ _ h,cell_of_row W g 5 _ _ _ h⟩
theorem ans6 {w W:World} {g:Nat} {x0 x1 x2 x3 x4 x5:Value} (h:W.heap[g]? = some (.cells #[x0,x1,x2,x3,x4,x5] 171 (0,0))) (hl:Below w.heap.size w W) (hg:w.heap.size<=g) (a0 a1 a2 a3 a4 a5:Value) :
  Below w.heap.size w ((((((W.setCell ⟨g,0,none⟩ a0).setCell ⟨g,1,none⟩ a1).setCell ⟨g,2,none⟩ a2).setCell ⟨g,3,none⟩ a3).setCell ⟨g,4,none⟩ a4).setCell ⟨g,5,none⟩ a5)/\((((((W.setCell ⟨g,0,none⟩ a0).setCell ⟨g,1,none⟩ a1).setCell ⟨g,2,none⟩ a2).setCell ⟨g,3,none⟩ a3).setCell ⟨g,4,none⟩ a4).setCell ⟨g,5,none⟩ a5).heap[g]? = some (.cells #[a0,a1,a2,a3,a4,a5] 171 (0,0)) :=
 ⟨(((((hl.setCell (p:=⟨g,0,none⟩) hg a0).setCell (p:=⟨g,1,none⟩) hg a1).setCell (p:=⟨g,2,none⟩) hg a2).setCell (p:=⟨g,3,none⟩) hg a3).setCell (p:=⟨g,4,none⟩) hg a4).setCell (p:=⟨g,5,none⟩) hg a5,set6 h _ _ _ _ _ _⟩
def koV (z b:Int) (r s:ByteArray) (y c:Int):Value:=.agg #[.int .i64 z,.int .i64 b,.string r,.string s,.int .i64 y,.int .i64 c]
def koZ:Obj:=.cells #[.int .i64 0,.int .i64 0,.string ⟨#[]⟩,.string ⟨#[]⟩,.int .i64 0,.int .i64 0] 171
def addV (fit:Rec->Bool) (z b:Int) (r s:ByteArray) (y:Int) (x:Rec):Value :=
 if 8000<x.2.1.size∨400<x.2.2.length then koV 0 0 ⟨#[]⟩ ⟨#[]⟩ 0 2
 else if keepB fit z b r s y=false then koV 0 0 ⟨#[]⟩ ⟨#[]⟩ 0 1
 else if fit x=false then koV 0 0 ⟨#[]⟩ ⟨#[]⟩ 0 5
 else if hasR (allR fit s).1 x.1=true then koV 0 0 ⟨#[]⟩ ⟨#[]⟩ 0 7
 else if 8000<(s++recT x).size then koV 0 0 ⟨#[]⟩ ⟨#[]⟩ 0 9
 else koV z b r (s++recT x) y 0
def FitF (fit:Rec->Bool):Prop:=∀ x,fit x=true->-9223372036854775808<=x.1/\x.1<=9223372036854775807/\x.2.1.size<=8000/\x.2.2.length<=20/\∀ q∈x.2.2,q.size<=8000
theorem cat_two (a b:ByteArray):(⟨(cat [a,b]).toArray⟩:ByteArray)=a++b:=by
 apply ba_ext
 rw[ba_data]
 unfold cat
 simp
theorem keepAdd_impl (fit:Rec->Bool) (z b:Int) (r s:ByteArray) (y:Int) (x:MR) (w:World) (hs:s.size<=1048576) (ht:x.1.2.1.size<=1048576) (hpl:x.1.2.2.length<=1048576) (hp:∃ a cap,x.2=.slice a x.1.2.2.length cap/\x.1.2.2.length<=cap/\Strs w w.heap.size a x.1.2.2) (hh:HH w) (hf:FitC fit z b r w) (hff:FitF fit) :
  Calls Tryz.prog 189 #[kV z b r s y,.int .i64 x.1.1,.string x.1.2.1,x.2] w fun e w'=>e=.returned (addV fit z b r s y x.1)/\Below w.heap.size w w':=by
 obtain⟨⟨i,t,p⟩,v⟩:=x
 obtain⟨a,cap,hv,hc,hst⟩:=hp
 dsimp only at ht hpl hv hc hst ⊢
 subst hv
 obtain⟨n,hn⟩:∃ n,n=p.length:=⟨_,rfl⟩
 have C0:=hideK (((Cx.nil w).new (kB z b r s y)).new koZ)
 simp only[World.size_alloc]at C0
 have HA:Hid (addV fit z b r s y (i,t,p)=if 8000<t.size∨400<n then koV 0 0 ⟨#[]⟩ ⟨#[]⟩ 0 2 else if keepB fit z b r s y=false then koV 0 0 ⟨#[]⟩ ⟨#[]⟩ 0 1 else if fit (i,t,p)=false then koV 0 0 ⟨#[]⟩ ⟨#[]⟩ 0 5 else if hasR (allR fit s).1 i=true then koV 0 0 ⟨#[]⟩ ⟨#[]⟩ 0 7 else if 8000<(s++recT (i,t,p)).size then koV 0 0 ⟨#[]⟩ ⟨#[]⟩ 0 9 else koV z b r (s++recT (i,t,p)) y 0):=by unfold Hid addV;rw[hn]
 generalize addV fit z b r s y (i,t,p)=A at HA ⊢
 have HO:=hideK (fun W (h:Below w.heap.size w W)=>openKeep_any fit z b r s y W hs (hh_keep hh h) (hf.later h))
 have HR:=hideK (fun g v W h=>right_any g v (allR fit s).2 z b r s y W h)
 change Hid (∀ g v W h,Calls _ _ _ W fun e w'=>e=.returned (.bool (keepB fit z b r s y))/\_) at HR
 have HFT:=hideK (fun W (h:Below w.heap.size w W) (h8:t.size<=8000) (h4:p.length<=400)=>hf W ((i,t,p),.slice a p.length cap) h h8 h4 ⟨a,cap,rfl,hc,(hst.below h).mono h.size⟩)
 have HTX:=hideK (fun W (h:Below w.heap.size w W) (hk:fit (i,t,p)=true)=>text_impl ((i,t,p),.slice a p.length cap) W (hff _ hk).1 (hff _ hk).2.1 (hff _ hk).2.2.1 (hff _ hk).2.2.2.1 (hff _ hk).2.2.2.2 ⟨a,cap,rfl,hc,(hst.below h).mono h.size⟩)
 have HJN0:Hid (s.size<=8000->∀ W g,W.heap[g]? = some (.cells #[.string s,.string (recT (i,t,p))] 9 (0,0))->Calls Tryz.prog 204 #[.slice (some ⟨g,0,none⟩) 2 2] W fun e w'=>e=.returned (.string (s++recT (i,t,p)))/\Below W.heap.size W w'):=fun hs8 W g hg=>by
  have h1:=recT_size (i,t,p)
  have:=join_any [s,recT (i,t,p)] (some ⟨g,0,none⟩) 2 2 W (.inr ⟨g,0,rfl,lt_rowK hg,fun j hj=>by
   have hj2:j<2:=hj
   rcases j with _|_|j
   ·exact cell_of_row W g 0 _ _ _ hg
   ·exact cell_of_row W g 1 _ _ _ hg
   ·omega⟩) rfl (by omega) (by
   unfold cat
   simp
   have h2:s.data.size=s.size:=rfl
   have h3:(recT (i,t,p)).data.size=(recT (i,t,p)).size:=rfl
   omega)
  rw[cat_two]at this
  exact this
 dsimp only at HFT HTX
 rw[<-hn]at hpl hc HFT HTX ⊢
 generalize recT (i,t,p)=T at HA HTX HJN0
 have HLS:Hid ((s++T).size=(s++T).size):=rfl
 generalize s++T=L at HA HJN0
 unfold OpenOut at HO
 unfold kV at HO ⊢
 unfold lV at HFT
 unfold kB koZ at C0
 unfold koV at HA
 clear hst hh hf hff hn HLS
 go_enter Tryz.func189,Tryz.ntmps189
 go_upto_region 1 with fail
 generalize (w.alloc _).alloc _=W0 at C0 ⊢
 generalize hgk:w.heap.size=gk at C0 ⊢
 have HGK:=hideK hgk
 clear hgk
 by_cases h8:t.size<=8000
 ·have h8':¬((8000:Int)<t.size):=by omega
  have h8D:decide ((8000:Int)<t.size)=false:=by simp;omega
  by_cases h4:n<=400
  ·have h4':¬((400:Int)<n):=by omega
   have h4D:decide ((400:Int)<(n:Int))=false:=by simp;omega
   rw[if_neg (by omega)]at HA
   obtain⟨k0,k1,k2,k3,k4⟩:=k_cells (C0.out.get 1 rfl)
   go_wp2_with fail
   refine(HO.out _ C0.out.low).mono ?_
   rintro e w1 ⟨⟨v,m,rfl,h1,h2,h3⟩,hb⟩
   obtain⟨a0,cap0,hv⟩:=h2.one
   subst hv
   have C1:=hideK ((C0.out.call hb).new (wkB (.slice a0 m.length cap0) (allR fit s).2 z b r s y))
   have OW:=hideK (h2.alloc (wkB (.slice a0 m.length cap0) (allR fit s).2 z b r s y))
   have PS:=hideK h3.slices
   rw[<-h1]at HA
   have hml:m.length<=1048576:=by
    have h5:=allR_many fit s
    have h6:=allR_le fit s
    rw[<-h1,recs_length]at h5
    omega
   clear hb h1 h2 h3 HO C0 k0 k1 k2 k3 k4
   unfold wkB at C1 OW
   go_wp2_with fail
   generalize w1.alloc _=W1 at C1 OW ⊢
   generalize w1.heap.size=gw at C1 ⊢
   refine(HR.out gw _ W1 (C1.out.get 0 rfl)).mono ?_
   rintro e w2 ⟨rfl,hb⟩
   have C2:=hideK (C1.out.call hb)
   have OW2:=hideK (OW.out.below hb)
   clear hb C1 OW HR
   cases hk:keepB fit z b r s y with
   |false =>
    rw[hk,if_pos rfl]at HA
    have HE:=HA
    clear hk HFT HTX HJN0
    obtain⟨q0,q1,q2,q3,q4,q5⟩:=cells6 (C2.out.get 1 rfl)
    have ff:=fun o=>frozen_of_row w2 (gk+1) o _ _ (C2.out.get 1 rfl)
    have HF:=hideK (ans6 (C2.out.get 1 rfl) C2.out.low (by have:=HGK.out;omega) (.int .i64 0) (.int .i64 0) (.string ⟨#[]⟩) (.string ⟨#[]⟩) (.int .i64 0) (.int .i64 1))
    have s6:=cells6 HF.out.2
    go_wp2_with fail
    exact bodyPost_ret (v:=.agg #[.int .i64 0,.int .i64 0,.string ⟨#[]⟩,.string ⟨#[]⟩,.int .i64 0,.int .i64 1]) (by simp[results,Tryz.results189,go_sem,s6.1,s6.2.1,s6.2.2.1,s6.2.2.2.1,s6.2.2.2.2.1,s6.2.2.2.2.2]) rfl ⟨by rw[HE.out],HF.out.1⟩
   |true =>
    have HJN:=hideK (HJN0.out (by have:=(keepB_yes hk).1;unfold mayB at this;simp only[Bool.and_eq_true,decide_eq_true_eq]at this;exact this.2))
    clear HJN0
    rw[hk,if_neg (by decide)]at HA
    have C3:=hideK (C2.out.new (.cells #[.int .i64 i,.string t,.slice a n cap] 129))
    have OW3:=hideK (OW2.out.alloc (.cells #[.int .i64 i,.string t,.slice a n cap] 129))
    clear hk C2 OW2
    go_upto_region 7 with fail
    generalize w2.alloc _=W3 at C3 OW3 ⊢
    generalize w2.heap.size=gr at C3 ⊢
    obtain⟨x0,x1,x2⟩:=cells3 (C3.out.get 0 rfl)
    obtain⟨k0,k1,k2,k3,k4⟩:=k_cells (C3.out.get 3 rfl)
    have HFT1:=hideK (HFT.out W3 C3.out.low h8 h4)
    cases hfit:fit (i,t,p) with
    |false =>
     rw[hfit]at HFT1
     rw[hfit,if_pos rfl]at HA
     have HE:=HA
     clear hfit HFT HTX HJN
     go_wp2_with fail
     refine HFT1.out.mono ?_
     rintro e w4 ⟨rfl,hb⟩
     have C4:=hideK (C3.out.call hb)
     clear hb C3 OW3 x0 x1 x2 k0 k1 k2 k3 k4
     obtain⟨q0,q1,q2,q3,q4,q5⟩:=cells6 (C4.out.get 2 rfl)
     have ff:=fun o=>frozen_of_row w4 (gk+1) o _ _ (C4.out.get 2 rfl)
     have HF:=hideK (ans6 (C4.out.get 2 rfl) C4.out.low (by have:=HGK.out;omega) (.int .i64 0) (.int .i64 0) (.string ⟨#[]⟩) (.string ⟨#[]⟩) (.int .i64 0) (.int .i64 5))
     have s6:=cells6 HF.out.2
     go_wp2_with fail
     exact bodyPost_ret (v:=.agg #[.int .i64 0,.int .i64 0,.string ⟨#[]⟩,.string ⟨#[]⟩,.int .i64 0,.int .i64 5]) (by simp[results,Tryz.results189,go_sem,s6.1,s6.2.1,s6.2.2.1,s6.2.2.2.1,s6.2.2.2.2.1,s6.2.2.2.2.2]) rfl ⟨by rw[HE.out],HF.out.1⟩
    |true =>
     rw[hfit]at HFT1
     rw[hfit,if_neg (by decide)]at HA
     have HTX1:=hideK (fun W hW=>HTX.out W hW hfit)
     clear hfit HFT HTX
     go_wp2_with fail
     refine HFT1.out.mono ?_
     rintro e w4 ⟨rfl,hb⟩
     have C4:=hideK (C3.out.call hb)
     have OW4:=hideK (OW3.out.below hb)
     clear hb C3 OW3 x0 x1 x2 k0 k1 k2 k3 k4 HFT1
     have HHS:=hideK (has_any gw _ m.length i _ m w4 (wk_cells (C4.out.get 1 rfl)).1 (lt_rowK (C4.out.get 1 rfl)) OW4.out PS.out rfl hml)
     go_wp2_with fail
     refine HHS.out.mono ?_
     rintro e w5 ⟨rfl,hb⟩
     have C5:=hideK (C4.out.call hb)
     clear hb C4 OW4 HHS
     cases hhas:hasR (recs m) i with
     |true =>
      rw[hhas,if_pos rfl]at HA
      have HE:=HA
      clear hhas HTX1 HJN
      obtain⟨q0,q1,q2,q3,q4,q5⟩:=cells6 (C5.out.get 2 rfl)
      have ff:=fun o=>frozen_of_row w5 (gk+1) o _ _ (C5.out.get 2 rfl)
      have HF:=hideK (ans6 (C5.out.get 2 rfl) C5.out.low (by have:=HGK.out;omega) (.int .i64 0) (.int .i64 0) (.string ⟨#[]⟩) (.string ⟨#[]⟩) (.int .i64 0) (.int .i64 7))
      have s6:=cells6 HF.out.2
      go_wp2_with fail
      exact bodyPost_ret (v:=.agg #[.int .i64 0,.int .i64 0,.string ⟨#[]⟩,.string ⟨#[]⟩,.int .i64 0,.int .i64 7]) (by simp[results,Tryz.results189,go_sem,s6.1,s6.2.1,s6.2.2.1,s6.2.2.2.1,s6.2.2.2.2.1,s6.2.2.2.2.2]) rfl ⟨by rw[HE.out],HF.out.1⟩
     |false =>
      rw[hhas,if_neg (by decide)]at HA
      clear hhas
      have CX:Hid (∀ W,Below w5.heap.size w5 W->W.cell? ⟨gk,3,none⟩=some (.string s)/\W.cell? ⟨gr,0,none⟩=some (.int .i64 i)/\W.cell? ⟨gr,1,none⟩=some (.string t)/\W.cell? ⟨gr,2,none⟩=some (.slice a n cap)):=fun W h=>⟨(k_cells (blkL (C5.out.get 3 rfl) h)).2.2.2.1,cells3 (blkL (C5.out.get 0 rfl) h)⟩
      go_upto_region 11 with fail
      go_cut [11] from 40 to 45 (fun s11 wx=>s11=.string L/\Below w5.heap.size w5 wx)
      case first =>
       have hS0:=CX.out _ (lm_drew (Below.refl w5.heap.size w5))
       have HTX2:=hideK (fun W (h:Below w5.heap.size w5 W)=>HTX1.out W (lowL C5.out.low h))
       go_region_held3 (fun W=>W.cell? ⟨gk,3,none⟩=some (.string s)/\W.cell? ⟨gr,0,none⟩=some (.int .i64 i)/\W.cell? ⟨gr,1,none⟩=some (.string t)/\W.cell? ⟨gr,2,none⟩=some (.slice a n cap))
        (first|assumption|exact CX.out _ (by repeat (first|exact L1.out|exact L2.out|exact Below.refl _ _|refine lm_alloc ?_ _|refine lm_drew ?_)))
        (first
         |(go_at_call 205;(with_reducible refine(HTX2.out _ ?_).mono ?_);(· repeat (first|exact Below.refl _ _|refine lm_alloc ?_ _|refine lm_drew ?_));rintro e v1 ⟨rfl,hb⟩;have L1:=hideK (lowL (w0:=w5) (by repeat (first|exact Below.refl _ _|refine lm_alloc ?_ _|refine lm_drew ?_)) hb);clear hb)
         |(go_at_call 204;(with_reducible refine(HJN.out _ _ ?_).mono ?_);(· exact heap_alloc_new _ _);rintro e v2 ⟨rfl,hb⟩;have L2:=hideK (lowL (w0:=w5) (by repeat (first|exact L1.out|exact Below.refl _ _|refine lm_alloc ?_ _|refine lm_drew ?_)) hb);clear hb))
       all_goals (try go_wp2_with fail)
       all_goals (go_meet;exact⟨rfl,L2.out⟩)
      case rest =>
       obtain⟨rfl,hbc⟩:=hcut
       have C6:=hideK (C5.out.call hbc)
       clear hbc C5 CX HTX1 HJN
       obtain⟨k0,k1,k2,k3,k4⟩:=k_cells (C6.out.get 3 rfl)
       by_cases h9:8000<L.size
       ·rw[if_pos h9]at HA
        have HE:=HA
        have h9':(8000:Int)<L.size:=by omega
        obtain⟨q0,q1,q2,q3,q4,q5⟩:=cells6 (C6.out.get 2 rfl)
        have ff:=fun o=>frozen_of_row wc (gk+1) o _ _ (C6.out.get 2 rfl)
        have HF:=hideK (ans6 (C6.out.get 2 rfl) C6.out.low (by have:=HGK.out;omega) (.int .i64 0) (.int .i64 0) (.string ⟨#[]⟩) (.string ⟨#[]⟩) (.int .i64 0) (.int .i64 9))
        have s6:=cells6 HF.out.2
        go_wp2_with fail
        exact bodyPost_ret (v:=.agg #[.int .i64 0,.int .i64 0,.string ⟨#[]⟩,.string ⟨#[]⟩,.int .i64 0,.int .i64 9]) (by simp[results,Tryz.results189,go_sem,s6.1,s6.2.1,s6.2.2.1,s6.2.2.2.1,s6.2.2.2.2.1,s6.2.2.2.2.2]) rfl ⟨by rw[HE.out],HF.out.1⟩
       ·rw[if_neg h9]at HA
        have HE:=HA
        have h9':¬((8000:Int)<L.size):=by omega
        have h9D:decide ((8000:Int)<L.size)=false:=by simp;omega
        obtain⟨q0,q1,q2,q3,q4,q5⟩:=cells6 (C6.out.get 2 rfl)
        have ff:=fun o=>frozen_of_row wc (gk+1) o _ _ (C6.out.get 2 rfl)
        have HF:=hideK (ans6 (C6.out.get 2 rfl) C6.out.low (by have:=HGK.out;omega) (.int .i64 z) (.int .i64 b) (.string r) (.string L) (.int .i64 y) (.int .i64 0))
        have s6:=cells6 HF.out.2
        go_wp2_with fail
        exact bodyPost_ret (v:=.agg #[.int .i64 z,.int .i64 b,.string r,.string L,.int .i64 y,.int .i64 0]) (by simp[results,Tryz.results189,go_sem,s6.1,s6.2.1,s6.2.2.1,s6.2.2.2.1,s6.2.2.2.2.1,s6.2.2.2.2.2]) rfl ⟨by rw[HE.out],HF.out.1⟩
  ·have h4':(400:Int)<n:=by omega
   rw[if_pos (.inr (by omega))]at HA
   have HE:=HA
   clear HO HR HFT HTX HJN0
   obtain⟨q0,q1,q2,q3,q4,q5⟩:=cells6 (C0.out.get 0 rfl)
   have ff:=fun o=>frozen_of_row W0 (gk+1) o _ _ (C0.out.get 0 rfl)
   have HF:=hideK (ans6 (C0.out.get 0 rfl) C0.out.low (by have:=HGK.out;omega) (.int .i64 0) (.int .i64 0) (.string ⟨#[]⟩) (.string ⟨#[]⟩) (.int .i64 0) (.int .i64 2))
   have s6:=cells6 HF.out.2
   go_wp2_with fail
   exact bodyPost_ret (v:=.agg #[.int .i64 0,.int .i64 0,.string ⟨#[]⟩,.string ⟨#[]⟩,.int .i64 0,.int .i64 2]) (by simp[results,Tryz.results189,go_sem,s6.1,s6.2.1,s6.2.2.1,s6.2.2.2.1,s6.2.2.2.2.1,s6.2.2.2.2.2]) rfl ⟨by rw[HE.out],HF.out.1⟩
 ·have h8':(8000:Int)<t.size:=by omega
  rw[if_pos (.inl (by omega))]at HA
  have HE:=HA
  clear HO HR HFT HTX HJN0
  obtain⟨q0,q1,q2,q3,q4,q5⟩:=cells6 (C0.out.get 0 rfl)
  have ff:=fun o=>frozen_of_row W0 (gk+1) o _ _ (C0.out.get 0 rfl)
  have HF:=hideK (ans6 (C0.out.get 0 rfl) C0.out.low (by have:=HGK.out;omega) (.int .i64 0) (.int .i64 0) (.string ⟨#[]⟩) (.string ⟨#[]⟩) (.int .i64 0) (.int .i64 2))
  have s6:=cells6 HF.out.2
  go_wp2_with fail
  exact bodyPost_ret (v:=.agg #[.int .i64 0,.int .i64 0,.string ⟨#[]⟩,.string ⟨#[]⟩,.int .i64 0,.int .i64 2]) (by simp[results,Tryz.results189,go_sem,s6.1,s6.2.1,s6.2.2.1,s6.2.2.2.1,s6.2.2.2.2.1,s6.2.2.2.2.2]) rfl ⟨by rw[HE.out],HF.out.1⟩
end Go.Proofs.YtpddanmnlkcdpaaGreatDoor.Kp

