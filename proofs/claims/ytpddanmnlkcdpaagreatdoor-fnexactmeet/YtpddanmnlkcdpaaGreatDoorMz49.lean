/- Texts put together: PmMeetI. -/
import Derived.Test.YtpddanmnlkcdpaaGreatDoorMz47
import Derived.Test.YtpddanmnlkcdpaaGreatDoorMz45
set_option maxRecDepth 100000
set_option maxHeartbeats 8000000
namespace Go.Proofs.YtpddanmnlkcdpaaGreatDoor.Pl
open Go.RowKit
open Kp
open Pe
open Pm
open In (Ints OwnI)
open Go.Proofs.YtpddanmnlkcdpaaGreatDoor.Nm (nameB)
open Ap (KeepE keepE_own)
open Ls (blk_alloc lowL HH hh_keep)
theorem rec_len (fit:Rec->Bool) (s:ByteArray) (hs:s.size<=1048576):(allR fit s).1.length<=1048576:=by
 have h1:=allR_many fit s
 have h2:=allR_le fit s
 omega
theorem _root_.Go.Proofs.YtpddanmnlkcdpaaGreatDoor.Pe.OpenP.lower {fit:Rec->Bool} {s:ByteArray} {m:List MO} {base base':Nat} {W:World} {v vo:Value} {mr:List MR} {mo:List MO} (h:OpenP fit s m base W v vo mr mo) (hb:base'<=base):OpenP fit s m base' W v vo mr mo :=
 ⟨h.rs,h.row.mono hb,h.ps,h.os,h.orow.mono hb,fun x hx=>(h.has x hx).mono hb,h.ap⟩
theorem poIn_others {W W':World} {base g:Nat} {vo vs:Value} {mo:List MO} {ms:List ML} {cs:Array Value} (h:PoIn W base vo vs mo ms) (hg:W.heap[g]? = some (.cells cs 38 (0,0))) (hk:∀ k o,W.heap[k]? = some o->k≠g->W'.heap[k]? = some o):PoIn W' base vo vs mo ms :=
 ⟨own_others h.orow hg (by decide) hk,fun x hx=>own_others (h.has x hx) hg (by decide) hk,h.ap,own_others h.srow hg (by decide) hk,fun x hx=>own_others (h.pth x hx) hg (by decide) hk,h.apl⟩
theorem meet_impl (fit:Rec->Bool) (z b:Int) (r s:ByteArray) (y:Int) (a:Option Addr) (n cap:Nat) (m:List MO) (nm:ByteArray) (w:World) (hs:s.size<=1048576) (hh:HH w) (hf:FitC fit z b r w) (h:Oths w w.heap.size a m) (hm:m.length=n) (hn:n<=1048576) (hsm:Small m) (hnm:nm.size<=maxLen) :
  Calls Tryz.prog 9 #[peerV z b r s y (.slice a n cap),.string nm] w fun e w'=>OwnPN w' w.heap.size e (meetP fit z b r s y (oths m) nm)/\Below w.heap.size w w':=by
 have C0:=hideK (((Cx.nil w).new (peerO z b r s y (.slice a n cap))).new (poO 0 0 ⟨#[]⟩ ⟨#[]⟩ 0 (.slice none 0 0) (.slice none 0 0) 0))
 simp only[World.size_alloc]at C0
 have HO:=hideK (fun W (hW:Below w.heap.size w W)=>openPeer_impl fit z b r s y a n cap m W hs (hh_keep hh hW) (hf.later hW) ((h.below hW).mono hW.size) hm hn hsm)
 have HNR:=hideK (fun W=>Nm.impl_any nm W hnm)
 have HP:Hid (∀ p,meetP fit z b r s y (oths m) nm=p->∀ W e,OwnPN W w.heap.size e p->OwnPN W w.heap.size e (meetP fit z b r s y (oths m) nm)):=fun p hp W e h=>by rw[hp];exact h
 have HB2:Hid (8000<nm.size->meetP fit z b r s y (oths m) nm=ill 2):=fun h=>by unfold meetP;rw[if_pos h]
 have HB1:Hid (¬8000<nm.size->peerB fit z b r s y (oths m)=false∨nameB nm=false->meetP fit z b r s y (oths m) nm=ill 1):=fun h h1=>by
  unfold meetP
  rw[if_neg h,if_pos]
  rcases h1 with h1|h1
  ·rw[h1];rfl
  ·rw[h1,Bool.and_false]
 have HB7:Hid (¬8000<nm.size->peerB fit z b r s y (oths m)=true->nameB nm=true->hasN (oths m) nm=true->meetP fit z b r s y (oths m) nm=ill 7):=fun h h1 h2 h3=>by
  unfold meetP
  rw[if_neg h,if_neg (by rw[h1,h2];decide),if_pos h3]
 have HB9:Hid (¬8000<nm.size->peerB fit z b r s y (oths m)=true->nameB nm=true->hasN (oths m) nm=false->n=4->meetP fit z b r s y (oths m) nm=ill 9):=fun h h1 h2 h3 h4=>by
  unfold meetP
  rw[if_neg h,if_neg (by rw[h1,h2];decide),if_neg (by rw[h3];decide),if_pos (by rw[oths_length,hm];exact h4)]
 have HB0:Hid (¬8000<nm.size->peerB fit z b r s y (oths m)=true->nameB nm=true->hasN (oths m) nm=false->¬n=4->meetP fit z b r s y (oths m) nm=⟨z,b,r,s,y,meetO (oths m) nm,meetS fit s nm,0⟩):=fun h h1 h2 h3 h4=>by
  unfold meetP
  rw[if_neg h,if_neg (by rw[h1,h2];decide),if_neg (by rw[h3];decide),if_neg (by rw[oths_length,hm];exact h4)]
 have HRIS:Hid (peerB fit z b r s y (oths m)=true->∃ c,othsB (oths m) c=true):=fun h=>by
  unfold peerB at h
  simp only[Bool.and_eq_true]at h
  exact⟨_,h.2⟩
 have HRL:Hid ((allR fit s).1.length<=1048576):=rec_len fit s hs
 have HMN:=hideK hm
 clear hh hf h hsm hm
 unfold peerV at HO ⊢
 unfold peerO poO at C0
 by_cases hbig:8000<nm.size
 ·have hbI:(8000:Int)<(nm.size:Int):=by omega
  have hbD:decide ((8000:Int)<(nm.size:Int))=true:=by simp;omega
  have HR:=hideK (HP.out _ (HB2.out hbig))
  clear HP HB2 HO HNR HB1 HB7 HB9 HB0 HRIS HRL HMN
  go_enter Tryz.func9,Tryz.ntmps9
  go_upto_region 1 with fail
  generalize hgk:w.heap.size=gk at C0 ⊢
  have HGK:=hideK hgk
  clear hgk
  generalize (w.alloc _).alloc _=W0 at C0 ⊢
  obtain⟨q0,q1,q2,q3,q4,q5,q6,q7⟩:=cellsP8 (C0.out.get 0 rfl)
  have ff:=fun o=>frozen_of_row W0 (gk+1) o _ _ (C0.out.get 0 rfl)
  have s8:=cellsP8 (setP8 (C0.out.get 0 rfl) (.int .i64 0) (.int .i64 0) (.string ⟨#[]⟩) (.string ⟨#[]⟩) (.int .i64 0) (.slice none 0 0) (.slice none 0 0) (.int .i64 2))
  have E8:=hideK (setP8_low C0.out.low (g:=gk+1) (by have:=HGK.out;omega) (.int .i64 0) (.int .i64 0) (.string ⟨#[]⟩) (.string ⟨#[]⟩) (.int .i64 0) (.slice none 0 0) (.slice none 0 0) (.int .i64 2))
  go_wp2_with fail
  exact bodyPost_ret (v:=.agg #[.int .i64 0,.int .i64 0,.string ⟨#[]⟩,.string ⟨#[]⟩,.int .i64 0,.slice none 0 0,.slice none 0 0,.int .i64 2]) (by simp[results,Tryz.results9,go_sem,s8.1,s8.2.1,s8.2.2.1,s8.2.2.2.1,s8.2.2.2.2.1,s8.2.2.2.2.2.1,s8.2.2.2.2.2.2.1,s8.2.2.2.2.2.2.2]) rfl ⟨HR.out _ _ (own_illN _ _ 2),E8.out⟩
 ·have hbI:¬(8000:Int)<(nm.size:Int):=by omega
  have hbD:decide ((8000:Int)<(nm.size:Int))=false:=by simp;omega
  have HPE:=hideK (HP.out)
  go_enter Tryz.func9,Tryz.ntmps9
  go_wp2_with fail
  generalize hgk:w.heap.size=gk at C0 ⊢
  have HGK:=hideK hgk
  clear hgk
  generalize (w.alloc _).alloc _=W0 at C0 ⊢
  refine(HO.out _ C0.out.low).mono ?_
  rintro e w1 ⟨⟨hP,v,vo,mr,mo,rfl,hop⟩|⟨hP,rfl⟩,hb⟩
  ·obtain⟨a0,cap0,hv⟩:=hop.row.one
   subst hv
   obtain⟨ao,co,hvo,_,_⟩:=hop.orow.one
   have HMO:Hid (mo.length=n):=by unfold Hid;rw[<-oths_length,hop.os,oths_length,HMN.out]
   rw[HMO.out]at hvo
   subst hvo
   have C1:=hideK ((C0.out.call hb).new (wpB (.slice a0 mr.length cap0) ((allR fit s).2:Nat) z b r s y (.slice ao n co) (.slice none 0 0)))
   have OP:=hideK (((hop.lower C0.out.low.size).call ((Below.refl _ _).alloc (Nat.le_refl _) (wpB (.slice a0 mr.length cap0) ((allR fit s).2:Nat) z b r s y (.slice ao n co) (.slice none 0 0)))))
   have hz0:=C0.out.low.size
   have hz1:=hb.size
   clear hb hop C0 HO
   unfold wpB at C1 OP
   go_upto_region 4 with fail
   have hzA:w1.heap.size<(w1.alloc (.cells #[.slice a0 mr.length cap0,.int .i64 ((allR fit s).2:Nat),.int .i64 z,.int .i64 b,.string r,.string s,.int .i64 y,.slice ao n co,.slice none 0 0] 78)).heap.size:=by rw[World.size_alloc];omega
   generalize w1.alloc _=W1 at C1 OP hzA ⊢
   generalize hgw:w1.heap.size=gw at C1 hzA ⊢
   have HGW:Hid (w.heap.size<=gw):=by unfold Hid;omega
   clear hgw hzA hz0 hz1
   cases hnb:nameB nm with
   |false =>
    have HR:=hideK (HPE.out _ (HB1.out hbig (.inr hnb)))
    rw[hnb]at HNR
    clear HP HB2 HB1 HB7 HB9 HB0 HRIS HRL HMN hnb HMO OP HPE hP
    go_wp2_with fail
    refine(HNR.out _).mono ?_
    rintro e w2 ⟨rfl,hw⟩
    subst w2
    obtain⟨q0,q1,q2,q3,q4,q5,q6,q7⟩:=cellsP8 (C1.out.get 1 rfl)
    have ff:=fun o=>frozen_of_row W1 (gk+1) o _ _ (C1.out.get 1 rfl)
    have s8:=cellsP8 (setP8 (C1.out.get 1 rfl) (.int .i64 0) (.int .i64 0) (.string ⟨#[]⟩) (.string ⟨#[]⟩) (.int .i64 0) (.slice none 0 0) (.slice none 0 0) (.int .i64 1))
    have E8:=hideK (setP8_low C1.out.low (g:=gk+1) (by have:=HGK.out;omega) (.int .i64 0) (.int .i64 0) (.string ⟨#[]⟩) (.string ⟨#[]⟩) (.int .i64 0) (.slice none 0 0) (.slice none 0 0) (.int .i64 1))
    go_wp2_with fail
    exact bodyPost_ret (v:=.agg #[.int .i64 0,.int .i64 0,.string ⟨#[]⟩,.string ⟨#[]⟩,.int .i64 0,.slice none 0 0,.slice none 0 0,.int .i64 1]) (by simp[results,Tryz.results9,go_sem,s8.1,s8.2.1,s8.2.2.1,s8.2.2.2.1,s8.2.2.2.2.1,s8.2.2.2.2.2.1,s8.2.2.2.2.2.2.1,s8.2.2.2.2.2.2.2]) rfl ⟨HR.out _ _ (own_illN _ _ 1),E8.out⟩
   |true =>
    rw[hnb]at HNR
    obtain⟨cq,hcq⟩:=HRIS.out hP
    have hri:Ris mo:=ris_of (c:=cq) (by rw[OP.out.os];exact hcq)
    have hle:n<=4:=by have:=(oths_of hcq).1;rw[oths_length,HMN.out]at this;exact this
    have HPL:=hideK (fun (W:World) (hW:W.heap[gw]? = some (.cells #[.slice a0 mr.length cap0,.int .i64 ((allR fit s).2:Nat),.int .i64 z,.int .i64 b,.string r,.string s,.int .i64 y,.slice ao n co,.slice none 0 0] 78 (0,0))) (hq:Oths W W.heap.size ao mo)=>place_any gw _ _ _ _ _ _ _ _ ao n co mo nm W hW hq HMO.out hn hri)
    rw[OP.out.os]at HPL
    clear hri hcq
    go_wp2_with fail
    refine(HNR.out _).mono ?_
    rintro e w2 ⟨rfl,hw⟩
    subst w2
    have HPL1:=hideK (HPL.out W1 (C1.out.get 0 rfl) (MadeO.oths (n:=n) (m:=mo) ⟨rfl,OP.out.orow,OP.out.has,OP.out.ap⟩).1)
    clear HPL HNR
    go_wp2_with fail
    refine HPL1.out.mono ?_
    rintro e w3 ⟨rfl,hb⟩
    have C3:=hideK (C1.out.call hb)
    have OP3:=hideK (OP.out.call hb)
    clear hb C1 OP HPL1
    cases hhas:hasN (oths m) nm with
    |true =>
     have HR:=hideK (HPE.out _ (HB7.out hbig hP hnb hhas))
     clear HP HB2 HB1 HB7 HB9 HB0 HRIS HRL HMN hnb HMO OP3 HPE hP hhas
     obtain⟨q0,q1,q2,q3,q4,q5,q6,q7⟩:=cellsP8 (C3.out.get 1 rfl)
     have ff:=fun o=>frozen_of_row w3 (gk+1) o _ _ (C3.out.get 1 rfl)
     have s8:=cellsP8 (setP8 (C3.out.get 1 rfl) (.int .i64 0) (.int .i64 0) (.string ⟨#[]⟩) (.string ⟨#[]⟩) (.int .i64 0) (.slice none 0 0) (.slice none 0 0) (.int .i64 7))
     have E8:=hideK (setP8_low C3.out.low (g:=gk+1) (by have:=HGK.out;omega) (.int .i64 0) (.int .i64 0) (.string ⟨#[]⟩) (.string ⟨#[]⟩) (.int .i64 0) (.slice none 0 0) (.slice none 0 0) (.int .i64 7))
     go_wp2_with fail
     exact bodyPost_ret (v:=.agg #[.int .i64 0,.int .i64 0,.string ⟨#[]⟩,.string ⟨#[]⟩,.int .i64 0,.slice none 0 0,.slice none 0 0,.int .i64 7]) (by simp[results,Tryz.results9,go_sem,s8.1,s8.2.1,s8.2.2.1,s8.2.2.2.1,s8.2.2.2.2.1,s8.2.2.2.2.2.1,s8.2.2.2.2.2.2.1,s8.2.2.2.2.2.2.2]) rfl ⟨HR.out _ _ (own_illN _ _ 7),E8.out⟩
    |false =>
     have c7:=cell_of_row w3 gw 7 _ _ _ (C3.out.get 0 rfl)
     by_cases h4:n=4
     ·have HR:=hideK (HPE.out _ (HB9.out hbig hP hnb hhas h4))
      have h4I:(n:Int)=4:=by omega
      have h4B:((n:Int)==4)=true:=by simp;omega
      clear HP HB2 HB1 HB7 HB9 HB0 HRIS HRL HMN hnb HMO OP3 HPE hP hhas
      rw[h4]at c7
      obtain⟨q0,q1,q2,q3,q4,q5,q6,q7⟩:=cellsP8 (C3.out.get 1 rfl)
      have ff:=fun o=>frozen_of_row w3 (gk+1) o _ _ (C3.out.get 1 rfl)
      have s8:=cellsP8 (setP8 (C3.out.get 1 rfl) (.int .i64 0) (.int .i64 0) (.string ⟨#[]⟩) (.string ⟨#[]⟩) (.int .i64 0) (.slice none 0 0) (.slice none 0 0) (.int .i64 9))
      have E8:=hideK (setP8_low C3.out.low (g:=gk+1) (by have:=HGK.out;omega) (.int .i64 0) (.int .i64 0) (.string ⟨#[]⟩) (.string ⟨#[]⟩) (.int .i64 0) (.slice none 0 0) (.slice none 0 0) (.int .i64 9))
      go_wp2_with fail
      exact bodyPost_ret (v:=.agg #[.int .i64 0,.int .i64 0,.string ⟨#[]⟩,.string ⟨#[]⟩,.int .i64 0,.slice none 0 0,.slice none 0 0,.int .i64 9]) (by simp[results,Tryz.results9,go_sem,s8.1,s8.2.1,s8.2.2.1,s8.2.2.2.1,s8.2.2.2.2.1,s8.2.2.2.2.2.1,s8.2.2.2.2.2.2.1,s8.2.2.2.2.2.2.2]) rfl ⟨HR.out _ _ (own_illN _ _ 9),E8.out⟩
     ·have HR:=hideK (HPE.out _ (HB0.out hbig hP hnb hhas h4))
      have h4I:¬(n:Int)=4:=by omega
      have h4B:((n:Int)==4)=false:=by simp;omega
      clear HP HB2 HB1 HB7 HB9 HB0 HRIS hnb HPE hP hhas
      have hml:mo.length=n:=HMO.out
      have hpl:posN (oths m) nm<=n:=by have:=posN_le (oths m) nm;rw[oths_length,HMN.out]at this;exact this
      have HEQ:Hid (oths (mo.take (posN (oths m) nm)++[(newO nm,Value.slice none 0 0)]++mo.drop (posN (oths m) nm))=meetO (oths m) nm):=by
       unfold Hid meetO
       rw[oths_ins,OP3.out.os]
      have HB3:=hideK ((Below.refl w3.heap.size w3).alloc (Nat.le_refl _) (.cells (five (newO nm,Value.slice none 0 0)).toArray 86))
      have C4:=hideK (C3.out.call HB3.out)
      have OP4:=hideK (OP3.out.call HB3.out)
      have hzz:w3.heap.size<(w3.alloc (.cells (five (newO nm,Value.slice none 0 0)).toArray 86)).heap.size:=by rw[World.size_alloc];omega
      have hlow3:=C3.out.low.size
      have HIN:=hideK (insO_any w.heap.size n (posN (oths m) nm) w3.heap.size (.slice ao n co) (cellsO mo) (five (newO nm,Value.slice none 0 0)) (w3.alloc (.cells (five (newO nm,Value.slice none 0 0)).toArray 86)) (by have:=OP4.out.orow;unfold OwnO at this;rw[hml]at this;exact this) hpl hn (by omega) (heap_alloc_new w3 _) rfl (fun e=>by
       have h:=World.ownsRow.lt OP3.out.orow w3.heap.size e
       omega) (cellsO_one mo fun x hx=>ownI_oneC (OP4.out.has x hx)) (five_one rfl rfl rfl rfl rfl))
      have HFI:Hid (∀ v W,W.ownsRow w.heap.size 86 5 v (n+1) ((cellsO mo).take (posN (oths m) nm*5)++five (newO nm,Value.slice none 0 0)++(cellsO mo).drop (posN (oths m) nm*5))->OwnO W w.heap.size v (mo.take (posN (oths m) nm)++[(newO nm,Value.slice none 0 0)]++mo.drop (posN (oths m) nm))):=fun v W h=>own_ins (by rw[hml];exact hpl) (by rw[hml];exact h)
      have HAP:=hideK (apart_ins (x:=(newO nm,Value.slice none 0 0)) (posN (oths m) nm) OP3.out.ap rfl)
      have HHA:Hid (∀ W,Hass W w.heap.size mo->Hass W w.heap.size (mo.take (posN (oths m) nm)++[(newO nm,Value.slice none 0 0)]++mo.drop (posN (oths m) nm))):=fun W hW x hx=>by
       rcases List.mem_append.1 hx with hx|hx
       ·rcases List.mem_append.1 hx with hx|hx
        ·exact hW x (List.mem_of_mem_take hx)
        ·rw[List.mem_singleton.1 hx]
         exact OwnI.nil _ _
       ·exact hW x (List.mem_of_mem_drop hx)
      have HLN:Hid ((mo.take (posN (oths m) nm)++[(newO nm,Value.slice none 0 0)]++mo.drop (posN (oths m) nm)).length=n+1):=by
       unfold Hid
       rw[List.length_append,List.length_append,List.length_take,List.length_drop,hml]
       simp
       omega
      have HIL:Hid (Kh.sortZ (idxs mr)=Kh.sortZ ((allR fit s).1.map (·.1))):=by unfold Hid;rw[idxs_recs,OP3.out.rs]
      have HIM:Hid (mr.length<=1048576):=by unfold Hid;rw[<-recs_length,OP3.out.rs];exact HRL.out
      generalize mo.take (posN (oths m) nm)++[(newO nm,Value.slice none 0 0)]++mo.drop (posN (oths m) nm)=mo' at HEQ HFI HAP HHA HLN
      clear C3 OP3 HRL hpl hml hzz
      unfold five newO at HIN HB3 C4 OP4
      generalize posN (oths m) nm=ip at HIN HFI ⊢
      go_wp2_with fail
      generalize w3.alloc _=W3 at HIN C4 OP4 ⊢
      generalize w3.heap.size=gb at HIN ⊢
      refine HIN.out.mono ?_
      rintro e w5 ⟨v5,rfl,ho5,hg5⟩
      have OR5:=OP4.out.orow
      have C5:=hideK (C4.out.grown hg5 (fun k hk=>(World.ownsRow.lt OR5 k hk).1) (fun x hx=>by
       rcases List.mem_cons.1 hx with rfl|hx
       ·exact own_ne_ty OR5 (C4.out.get 0 rfl) (by decide)
       ·rcases List.mem_cons.1 hx with rfl|hx
        ·exact own_ne_ty OR5 (C4.out.get 1 rfl) (by decide)
        ·rw[List.mem_singleton.1 hx]
         exact own_ne_ty OR5 (C4.out.get 2 rfl) (by decide)))
      have KE:=hideK (keepE_own hg5 OR5)
      have RW5:=hideK (own_keepE OP4.out.row KE.out (by decide))
      have HA5:=hideK (HHA.out _ (OP4.out.has.keep KE.out (by decide)))
      have OO5:=hideK (HFI.out _ _ ho5)
      have HPS:=hideK (OP4.out.ps)
      clear ho5 hg5 OR5 HIN HFI HHA C4
      obtain⟨a5,c5,hv5,_,_⟩:=OO5.out.one
      rw[HLN.out]at hv5
      subst hv5
      obtain⟨d0,d1,d2,d3,d4,d5,d6,d7,d8⟩:=cellsP9 (C5.out.get 0 rfl)
      have df:=fun o=>frozen_of_row w5 gw o _ _ (C5.out.get 0 rfl)
      have MS6:Hid (∀ (W:World) (ui:Value),Below (w5.setCell ⟨gw,7,none⟩ (.slice a5 (n+1) c5)).heap.size (w5.setCell ⟨gw,7,none⟩ (.slice a5 (n+1) c5)) W->OwnI W (w5.setCell ⟨gw,7,none⟩ (.slice a5 (n+1) c5)).heap.size ui (Kh.sortZ (idxs mr))->MS w gw (gk+1) (.slice a0 mr.length cap0) ((allR fit s).2:Nat) z b r s y (.slice a5 (n+1) c5) mo' ui (Kh.sortZ (idxs mr)) nm 0 (.slice none 0 0) [] W):=fun W ui hW hu=>by
       have k6:=fun k o (hk:w5.heap[k]? = some o) (hne:k≠gw)=>(heap_setCell_other w5 ⟨gw,7,none⟩ k (.slice a5 (n+1) c5) (by exact hne)).trans hk
       have hl6:=C5.out.low.setCell (p:=⟨gw,7,none⟩) HGW.out (.slice a5 (n+1) c5)
       have b7:=wp_set7 (W:=w5) (g:=gw) (u:=.slice a0 mr.length cap0) (e:=((allR fit s).2:Nat)) (z:=z) (b:=b) (r:=r) (s:=s) (y:=y) (vo:=.slice ao n co) (vs:=.slice none 0 0) (C5.out.get 0 rfl) (.slice a5 (n+1) c5)
       have bk:=k6 (gk+1) _ (C5.out.get 1 rfl) (fun e=>ty_ne (C5.out.get 1 rfl) (C5.out.get 0 rfl) (by decide) e)
       refine⟨lowL hl6 hW,(hW.block gw (lt_rowK b7)).trans b7,?_,(OO5.out.others (C5.out.get 0 rfl) (by decide) k6).below hW,(HA5.out.others (C5.out.get 0 rfl) (by decide) k6).below hW,OwnL.nil _ _,rfl,fun _ hx=>absurd hx List.not_mem_nil,hu.mono hl6.size⟩
       unfold poO
       exact(hW.block (gk+1) (lt_rowK bk)).trans bk
      have HIX:=hideK (indexes_any gw w.heap.size mr.length (.slice a0 mr.length cap0) mr (w5.setCell ⟨gw,7,none⟩ (.slice a5 (n+1) c5)) (by rw[World.cell?_setCell_other _ _ _ _ (by simp)];exact d0) (own_others RW5.out (C5.out.get 0 rfl) (by decide) (fun k o hk hne=>(heap_setCell_other w5 ⟨gw,7,none⟩ k (.slice a5 (n+1) c5) (by exact hne)).trans hk)) (fun x hx=>by obtain⟨a,c,hv,_⟩:=(HPS.out x hx).strs;exact⟨a,_,c,hv⟩) rfl HIM.out)
      clear HPS RW5 HA5 OO5 KE OP4
      go_upto_region 12 with fail
      generalize w5.setCell ⟨gw,7,none⟩ (.slice a5 (n+1) c5)=W6 at HIX MS6 ⊢
      clear d0 d1 d2 d3 d4 d5 d6 d7 d8 df C5
      go_wp2_with fail
      refine HIX.out.mono ?_
      rintro e w7 ⟨ui,rfl,hoi,hb⟩
      have M7:=hideK (MS6.out w7 ui hb hoi)
      clear hb hoi HIX MS6
      rw[HIL.out]at M7
      have HLS:Hid ((Kh.sortZ ((allR fit s).1.map (·.1))).length<=1048576):=by unfold Hid;rw[<-HIL.out,Kh.sortZ_length];unfold idxs;rw[List.length_map];exact HIM.out
      have HSS:Hid (meetS fit s nm=(Kh.sortZ ((allR fit s).1.map (·.1))).map (letterH nm)):=rfl
      generalize Kh.sortZ ((allR fit s).1.map (·.1))=il at M7 HLS HSS
      generalize ((allR fit s).2:Int)=ee at M7 ⊢
      obtain⟨ai,ci,hui,_,_⟩:=M7.out.irow.ints
      generalize hil:il.length=L at hui
      subst hui
      have HLL:=hideK hil
      have hLb:L<=1048576:=by have:=HLS.out;rw[hil]at this;exact this
      clear hil HIL HIM
      go_wp2_with fail
      go_loopw [52] (fun jv wr=>∃ (j:Nat) (vs:Value) (ms:List ML),jv=.int .i64 j/\j<=L/\MS w gw (gk+1) (.slice a0 mr.length cap0) ee z b r s y (.slice a5 (n+1) c5) mo' (.slice ai L ci) il nm j vs ms wr) (fun jv _=>L-(intOf jv).toNat)
      case atStart=>exact⟨0,_,_,rfl,Nat.zero_le _,M7.out⟩
      case round =>
       obtain⟨j,vs,ms,rfl,hj,hms⟩:=hrel
       have MJ:=hideK hms
       have HJN:Hid (ms.length=j):=by
        have:=congrArg List.length hms.sm
        rw[snts_length,List.length_map,List.length_take,HLL.out]at this
        unfold Hid
        omega
       clear hms
       by_cases hlt:j<L
       ·have hlt':(j:Int)<(L:Int):=by omega
        have hjl:j<il.length:=by rw[HLL.out];exact hlt
        obtain⟨bi,hai,hbl,hci⟩:=own_cellsI MJ.out.irow (by omega)
        subst hai
        have c0:=hci j hjl
        have HSD:=hideK (send_any gw w.heap.size j (letterH nm il[j],.slice none 0 0) (.slice a0 mr.length cap0) ee z b r s y (.slice a5 (n+1) c5) vs ms wr MJ.out.gwb MJ.out.srow MJ.out.low.size HJN.out (by have:=HLS.out;rw[HLL.out]at this;omega) ⟨_,_,_,rfl⟩)
        have HNX:=hideK (fun W'=>MJ.out.send (W':=W') hjl HGW.out)
        generalize il[j]=xi at c0 HSD HNX
        unfold letterH at HSD
        dsimp only at HSD
        clear hci
        go_wp2_with fail
        refine HSD.out.mono ?_
        rintro e w8 ⟨rfl,hsp⟩
        obtain⟨v9,hms9⟩:=HNX.out w8 hsp
        have M9:=hideK hms9
        clear hsp hms9 HNX HSD c0 MJ
        go_wp2_with fail
        go_roundw
        case rel=>exact⟨j+1,_,_,by go_num,by omega,M9.out⟩
        case measure=>simp[intOf];omega
       ·have hlt2:¬(j:Int)<(L:Int):=by omega
        have hltD:decide ((j:Int)<(L:Int))=false:=by simp;omega
        obtain rfl:j=L:=by omega
        obtain⟨as9,cs9,hvs,_,_⟩:=MJ.out.srow.one
        have HSM:Hid (snts ms=meetS fit s nm):=by
         unfold Hid
         rw[HSS.out,MJ.out.sm,List.take_of_length_le (by rw[HLL.out];exact Nat.le_refl _)]
        rw[HJN.out]at hvs
        subst hvs
        have HOT:=hideK (out_any gw (.slice a0 mr.length cap0) ee z b r s y a5 as9 (n+1) c5 j cs9 wr MJ.out.gwb)
        unfold poV at HOT
        go_wp2_with fail
        refine HOT.out.mono ?_
        rintro e w9 ⟨rfl,hb⟩
        have PI:=hideK ((MJ.out.poIn HAP.out).call hb)
        have GA:Hid (w9.heap[gk+1]? = some (poO 0 0 ⟨#[]⟩ ⟨#[]⟩ 0 (.slice none 0 0) (.slice none 0 0) 0)):=(hb.block (gk+1) (lt_rowK MJ.out.gab)).trans MJ.out.gab
        have LW:=hideK (lowL MJ.out.low hb)
        unfold poO at GA
        have NLX:=hideK MJ.out.nl
        clear hb HOT MJ
        obtain⟨q0,q1,q2,q3,q4,q5,q6,q7⟩:=cellsP8 GA.out
        have ff:=fun o=>frozen_of_row w9 (gk+1) o _ _ GA.out
        have s8:=cellsP8 (setP8 GA.out (.int .i64 z) (.int .i64 b) (.string r) (.string s) (.int .i64 y) (.slice a5 (n+1) c5) (.slice as9 j cs9) (.int .i64 0))
        have E8:=hideK (setP8_low LW.out (g:=gk+1) (by have:=HGK.out;omega) (.int .i64 z) (.int .i64 b) (.string r) (.string s) (.int .i64 y) (.slice a5 (n+1) c5) (.slice as9 j cs9) (.int .i64 0))
        have P8:=hideK (poIn_others PI.out GA.out (fun k o hk hne=>setP8_keep (g:=gk+1) hk hne (.int .i64 z) (.int .i64 b) (.string r) (.string s) (.int .i64 y) (.slice a5 (n+1) c5) (.slice as9 j cs9) (.int .i64 0)))
        go_wp2_with fail
        exact bodyPost_ret (v:=.agg #[.int .i64 z,.int .i64 b,.string r,.string s,.int .i64 y,.slice a5 (n+1) c5,.slice as9 j cs9,.int .i64 0]) (by simp[results,Tryz.results9,go_sem,s8.1,s8.2.1,s8.2.2.1,s8.2.2.2.1,s8.2.2.2.2.1,s8.2.2.2.2.2.1,s8.2.2.2.2.2.2.1,s8.2.2.2.2.2.2.2]) rfl ⟨HR.out _ _ ⟨_,_,mo',ms,rfl,HEQ.out,HSM.out,P8.out,NLX.out⟩,E8.out⟩
  ·have HR:=hideK (HPE.out _ (HB1.out hbig (.inl hP)))
   have C1:=hideK ((C0.out.call hb).new (.cells #[.slice none 0 0,.int .i64 0,.int .i64 0,.int .i64 0,.string ⟨#[]⟩,.string ⟨#[]⟩,.int .i64 0,.slice none 0 0,.slice none 0 0] 78))
   clear hb C0 HO HP HB2 HB1 HB7 HB9 HB0 HRIS HRL HMN HPE hP
   go_upto_region 4 with fail
   generalize w1.alloc _=W1 at C1 ⊢
   generalize w1.heap.size=gw at C1 ⊢
   obtain⟨q0,q1,q2,q3,q4,q5,q6,q7⟩:=cellsP8 (C1.out.get 1 rfl)
   have ff:=fun o=>frozen_of_row W1 (gk+1) o _ _ (C1.out.get 1 rfl)
   have s8:=cellsP8 (setP8 (C1.out.get 1 rfl) (.int .i64 0) (.int .i64 0) (.string ⟨#[]⟩) (.string ⟨#[]⟩) (.int .i64 0) (.slice none 0 0) (.slice none 0 0) (.int .i64 1))
   have E8:=hideK (setP8_low C1.out.low (g:=gk+1) (by have:=HGK.out;omega) (.int .i64 0) (.int .i64 0) (.string ⟨#[]⟩) (.string ⟨#[]⟩) (.int .i64 0) (.slice none 0 0) (.slice none 0 0) (.int .i64 1))
   go_wp2_with fail
   exact bodyPost_ret (v:=.agg #[.int .i64 0,.int .i64 0,.string ⟨#[]⟩,.string ⟨#[]⟩,.int .i64 0,.slice none 0 0,.slice none 0 0,.int .i64 1]) (by simp[results,Tryz.results9,go_sem,s8.1,s8.2.1,s8.2.2.1,s8.2.2.2.1,s8.2.2.2.2.1,s8.2.2.2.2.2.1,s8.2.2.2.2.2.2.1,s8.2.2.2.2.2.2.2]) rfl ⟨HR.out _ _ (own_illN _ _ 1),E8.out⟩
end Go.Proofs.YtpddanmnlkcdpaaGreatDoor.Pl

