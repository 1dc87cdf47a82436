/- Texts put together: TkTop, TkGood, TkTickS. -/
import Derived.Test.YtpddanmnlkcdpaaGreatDoorTz49
import Derived.Test.YtpddanmnlkcdpaaGreatDoorTz46
import Derived.Test.YtpddanmnlkcdpaaGreatDoorTz39
import Derived.Test.YtpddanmnlkcdpaaGreatDoorTz22
import Derived.Test.YtpddanmnlkcdpaaGreatDoorTz40
import Derived.BigQuiet
import Derived.Lib.QuietBelow
set_option maxRecDepth 100000
set_option maxHeartbeats 8000000
namespace Go.Proofs.YtpddanmnlkcdpaaGreatDoor.Tk
open Go.RowKit
open Kp
open Pe
open Pl
open In (Ints OwnI)
open Ls (blk_alloc lowL HH hh_keep countN countN_le)
noncomputable def tickP (fit:Rec->Bool) (z b:Int) (r s:ByteArray) (y:Int) (l:List Oth) (d:Int):PO :=
 if (peerB fit z b r s y l && decide (0<=d/\d<=1000000))=false then ill 1 else ⟨z,b,r,s,y,(tickS ((allR fit s).1.map (·.1)) d (countN z b r) l []).1,(tickS ((allR fit s).1.map (·.1)) d (countN z b r) l []).2,0⟩
structure OthR (c:Int) (o:Oth):Prop where
 a0:0<=o.asked
 a1:o.asked<=c
 g0:0<=o.age
 g1:o.age<=3
 ga:0<o.asked∨o.age=0
 s0:0<=o.strikes
 s1:o.strikes<=3
 rs:RisesTo o.has c o.has.length
theorem othR_of {l:List Oth} {c:Int} (h:othsB l c=true):l.length<=4/\∀ o∈l,OthR c o:=by
 obtain⟨h1,h2⟩:=oths_of h
 refine⟨h1,fun o ho=>?_⟩
 obtain⟨j,hj,rfl⟩:=List.getElem_of_mem ho
 have:=(h2 j hj hj).1
 unfold othB Pe.askB strB at this
 simp only[Bool.and_eq_true,decide_eq_true_eq]at this
 obtain⟨⟨⟨⟨_,h4⟩,h5⟩,h6⟩,_⟩:=this
 exact⟨h5.1,h5.2.1,h5.2.2.1,h5.2.2.2.1,h5.2.2.2.2,h6.1,h6.2,rises_of h4⟩
theorem peer_oths {fit:Rec->Bool} {z b:Int} {r s:ByteArray} {y:Int} {l:List Oth} (h:peerB fit z b r s y l=true):l.length<=4/\∀ o∈l,OthR (countN z b r:Nat) o:=by
 unfold peerB at h
 simp only[Bool.and_eq_true]at h
 exact othR_of h.2
theorem WS.poIn {w W:World} {gw:Nat} {u:Value} {e z b:Int} {r s:ByteArray} {y:Int} {vo vs:Value} {mo:List MO} {ms:List ML} {mr:List MR} (h:WS w W gw u e z b r s y vo vs mo ms mr):PoIn W w.heap.size vo vs mo ms :=
 ⟨h.orow,h.has,h.ap,h.srow,fun x hx=>by rw[(h.nl x hx).1,(h.nl x hx).2];exact St.OwnS.nil _ _,pairwise_all ms fun a ha' _ _ g hg=>by rw[(h.nl a ha').1]at hg;simp[Value.ownBlock]at hg⟩
theorem tick_impl (fit:Rec->Bool) (z b:Int) (r s:ByteArray) (y:Int) (a:Option Addr) (n cap:Nat) (m:List MO) (d:Int) (w:World) (hs:s.size<=1048576) (hh:HH w) (hf:FitC fit z b r w) (h:Oths w w.heap.size a m) (hm:m.length=n) (hn:n<=1048576) (hsm:Small m) :
  Calls Tryz.prog 22 #[peerV z b r s y (.slice a n cap),.int .i64 d] w fun e w'=>OwnPN w' w.heap.size e (tickP fit z b r s y (oths m) d)/\Below w.heap.size w w':=by
 have C0:=hideK (((Cx.nil w).new (peerO z b r s y (.slice a n cap))).new (poO 0 0 ⟨#[]⟩ ⟨#[]⟩ 0 (.slice none 0 0) (.slice none 0 0) 0))
 simp only[World.size_alloc]at C0
 have HO:=hideK (fun W (hW:Below w.heap.size w W)=>openPeer_impl fit z b r s y a n cap m W hs (hh_keep hh hW) (hf.later hW) ((h.below hW).mono hW.size) hm hn hsm)
 have HP:Hid (∀ p,tickP fit z b r s y (oths m) d=p->∀ W e,OwnPN W w.heap.size e p->OwnPN W w.heap.size e (tickP fit z b r s y (oths m) d)):=fun p hp W e h=>by rw[hp];exact h
 have HB1:Hid (peerB fit z b r s y (oths m)=false∨¬(0<=d/\d<=1000000)->tickP fit z b r s y (oths m) d=ill 1):=fun h1=>by
  unfold tickP
  rw[if_pos]
  rcases h1 with h1|h1
  ·rw[h1];rfl
  ·rw[decide_eq_false h1,Bool.and_false]
 have HB0:Hid (peerB fit z b r s y (oths m)=true->0<=d/\d<=1000000->tickP fit z b r s y (oths m) d=⟨z,b,r,s,y,(tickS ((allR fit s).1.map (·.1)) d (countN z b r) (oths m) []).1,(tickS ((allR fit s).1.map (·.1)) d (countN z b r) (oths m) []).2,0⟩):=fun h1 h2=>by
  unfold tickP
  rw[if_neg (by rw[h1,decide_eq_true h2];decide)]
 have HRL:Hid ((allR fit s).1.length<=1048576):=rec_len fit s hs
 have HMN:=hideK hm
 have HSM:=hideK hsm
 clear hh hf h hsm hm
 unfold peerV at HO ⊢
 unfold peerO poO at C0
 go_enter Tryz.func22,Tryz.ntmps22
 go_wp2_with fail
 generalize hgk:w.heap.size=gk at C0 ⊢
 have HGK:=hideK hgk
 clear hgk
 generalize (w.alloc _).alloc _=W0 at C0 ⊢
 refine(HO.out _ C0.out.low).mono ?_
 rintro e w1 ⟨⟨hP,v,vo,mr,mo,rfl,hop⟩|⟨hP,rfl⟩,hb⟩
 ·obtain⟨a0,cap0,hv⟩:=hop.row.one
  subst hv
  obtain⟨ao,co,hvo,_,_⟩:=hop.orow.one
  have HMO:Hid (mo.length=n):=by unfold Hid;rw[<-oths_length,hop.os,oths_length,HMN.out]
  rw[HMO.out]at hvo
  subst hvo
  have C1:=hideK ((C0.out.call hb).new (wpB (.slice a0 mr.length cap0) ((allR fit s).2:Nat) z b r s y (.slice ao n co) (.slice none 0 0)))
  have OP:=hideK (((hop.lower C0.out.low.size).call ((Below.refl _ _).alloc (Nat.le_refl _) (wpB (.slice a0 mr.length cap0) ((allR fit s).2:Nat) z b r s y (.slice ao n co) (.slice none 0 0)))))
  have hz0:=C0.out.low.size
  have hz1:=hb.size
  clear hb hop C0 HO
  unfold wpB at C1 OP
  go_upto_region 2 with fail
  have hzA:w1.heap.size<(w1.alloc (.cells #[.slice a0 mr.length cap0,.int .i64 ((allR fit s).2:Nat),.int .i64 z,.int .i64 b,.string r,.string s,.int .i64 y,.slice ao n co,.slice none 0 0] 78)).heap.size:=by rw[World.size_alloc];omega
  generalize w1.alloc _=W1 at C1 OP hzA ⊢
  generalize hgw:w1.heap.size=gw at C1 hzA ⊢
  have HGW:Hid (w.heap.size<=gw):=by unfold Hid;omega
  clear hgw hzA hz0 hz1
  by_cases hd:0<=d
  ·have hd1:decide (d<(0:Int))=false:=by simp;omega
   by_cases hd2:d<=1000000
   ·have hd3:decide ((1000000:Int)<d)=false:=by simp;omega
    have HR:=hideK (HP.out _ (HB0.out hP ⟨hd,hd2⟩))
    obtain⟨hl4,hothr⟩:=peer_oths hP
    have h4:n<=4:=by rw[oths_length,HMN.out]at hl4;exact hl4
    have HWS:Hid (WS w W1 gw (.slice a0 mr.length cap0) ((allR fit s).2:Nat) z b r s y (.slice ao n co) (.slice none 0 0) mo [] mr):=⟨C1.out.low,HGW.out,by unfold wpB;exact C1.out.get 0 rfl,OP.out.orow,OP.out.has,OP.out.ap,OwnL.nil _ _,fun _ hx=>absurd hx List.not_mem_nil,OP.out.row,fun x hx=>by obtain⟨a,c,hv,_⟩:=(OP.out.ps x hx).strs;exact⟨a,_,c,hv⟩⟩
    have HIM:Hid (mr.length<=1048576):=by unfold Hid;rw[<-recs_length,OP.out.rs];exact HRL.out
    have HID:Hid (idxs mr=(allR fit s).1.map (·.1)):=by unfold Hid;rw[idxs_recs,OP.out.rs]
    have HTK:=hideK (tick_any w W1 gw (.slice a0 mr.length cap0) ((allR fit s).2:Nat) z b r s y ao n co (.slice none 0 0) mo [] mr HWS.out h4 HIM.out (fun x hx=>by
     have h1:x.1∈oths mo:=List.mem_map_of_mem hx
     rw[OP.out.os]at h1
     obtain⟨q,hq,he⟩:=List.mem_map.1 h1
     rw[<-he]
     exact(HSM.out q hq).1) (by have:=countN_le z b r;omega) d hd (by omega) (by simp) (fun o ho=>by
     rw[OP.out.os]at ho
     exact⟨(hothr o ho).g0,(hothr o ho).g1⟩))
    rw[OP.out.os,HID.out]at HTK
    have KGA:Hid (W1.heap[gk+1]? = some (poO 0 0 ⟨#[]⟩ ⟨#[]⟩ 0 (.slice none 0 0) (.slice none 0 0) 0)):=by unfold poO;exact C1.out.get 1 rfl
    have HAP:=hideK OP.out.ap
    clear HP HB1 HB0 HRL HMN HSM hl4 hothr hP C1 OP HWS
    go_wp2_with fail
    refine HTK.out.mono ?_
    rintro e w2 ⟨rfl,vs',mo',ms',hws,hst,hky⟩
    have GA2:Hid (w2.heap[gk+1]? = some (poO 0 0 ⟨#[]⟩ ⟨#[]⟩ 0 (.slice none 0 0) (.slice none 0 0) 0)):=hky.2 _ _ KGA.out (fun cs T e=>by unfold poO at e;cases e;exact⟨by decide,by decide,by decide⟩)
    obtain⟨as9,cs9,hvs,_,_⟩:=hws.srow.one
    generalize hns:ms'.length=ns at hvs
    subst hvs
    have HOT:=hideK (out_any gw (.slice a0 mr.length cap0) ((allR fit s).2:Nat) z b r s y ao as9 n co ns cs9 w2 hws.gwb)
    have WSF:=hideK hws
    have HST:=hideK hst
    unfold poV at HOT
    clear hws hst hky HTK KGA hns
    go_wp2_with fail
    refine HOT.out.mono ?_
    rintro e w9 ⟨rfl,hb⟩
    have PI:=hideK (WSF.out.poIn.call hb)
    have GA:Hid (w9.heap[gk+1]? = some (poO 0 0 ⟨#[]⟩ ⟨#[]⟩ 0 (.slice none 0 0) (.slice none 0 0) 0)):=(hb.block (gk+1) (lt_rowK GA2.out)).trans GA2.out
    have LW:=hideK (lowL WSF.out.low hb)
    have NLX:=hideK WSF.out.nl
    unfold poO at GA
    clear hb HOT WSF GA2
    obtain⟨q0,q1,q2,q3,q4,q5,q6,q7⟩:=cellsP8 GA.out
    have ff:=fun o=>frozen_of_row w9 (gk+1) o _ _ GA.out
    have s8:=cellsP8 (setP8 GA.out (.int .i64 z) (.int .i64 b) (.string r) (.string s) (.int .i64 y) (.slice ao n co) (.slice as9 ns cs9) (.int .i64 0))
    have E8:=hideK (setP8_low LW.out (g:=gk+1) (by have:=HGK.out;omega) (.int .i64 z) (.int .i64 b) (.string r) (.string s) (.int .i64 y) (.slice ao n co) (.slice as9 ns cs9) (.int .i64 0))
    have P8:=hideK (poIn_others PI.out GA.out (fun k o hk hne=>setP8_keep (g:=gk+1) hk hne (.int .i64 z) (.int .i64 b) (.string r) (.string s) (.int .i64 y) (.slice ao n co) (.slice as9 ns cs9) (.int .i64 0)))
    go_wp2_with fail
    exact bodyPost_ret (v:=.agg #[.int .i64 z,.int .i64 b,.string r,.string s,.int .i64 y,.slice ao n co,.slice as9 ns cs9,.int .i64 0]) (by simp[results,Tryz.results22,go_sem,s8.1,s8.2.1,s8.2.2.1,s8.2.2.2.1,s8.2.2.2.2.1,s8.2.2.2.2.2.1,s8.2.2.2.2.2.2.1,s8.2.2.2.2.2.2.2]) rfl ⟨HR.out _ _ ⟨_,_,mo',ms',rfl,(congrArg Prod.fst HST.out),(congrArg Prod.snd HST.out),P8.out,NLX.out⟩,E8.out⟩
   ·have hd3:decide ((1000000:Int)<d)=true:=by simp;omega
    have HR:=hideK (HP.out _ (HB1.out (.inr (fun h=>hd2 h.2))))
    clear HP HB1 HB0 HRL HMN HSM HMO OP hP
    obtain⟨q0,q1,q2,q3,q4,q5,q6,q7⟩:=cellsP8 (C1.out.get 1 rfl)
    have ff:=fun o=>frozen_of_row W1 (gk+1) o _ _ (C1.out.get 1 rfl)
    have s8:=cellsP8 (setP8 (C1.out.get 1 rfl) (.int .i64 0) (.int .i64 0) (.string ⟨#[]⟩) (.string ⟨#[]⟩) (.int .i64 0) (.slice none 0 0) (.slice none 0 0) (.int .i64 1))
    have E8:=hideK (setP8_low C1.out.low (g:=gk+1) (by have:=HGK.out;omega) (.int .i64 0) (.int .i64 0) (.string ⟨#[]⟩) (.string ⟨#[]⟩) (.int .i64 0) (.slice none 0 0) (.slice none 0 0) (.int .i64 1))
    go_wp2_with fail
    exact bodyPost_ret (v:=.agg #[.int .i64 0,.int .i64 0,.string ⟨#[]⟩,.string ⟨#[]⟩,.int .i64 0,.slice none 0 0,.slice none 0 0,.int .i64 1]) (by simp[results,Tryz.results22,go_sem,s8.1,s8.2.1,s8.2.2.1,s8.2.2.2.1,s8.2.2.2.2.1,s8.2.2.2.2.2.1,s8.2.2.2.2.2.2.1,s8.2.2.2.2.2.2.2]) rfl ⟨HR.out _ _ (own_illN _ _ 1),E8.out⟩
  ·have hd1:decide (d<(0:Int))=true:=by simp;omega
   have HR:=hideK (HP.out _ (HB1.out (.inr (fun h=>hd h.1))))
   clear HP HB1 HB0 HRL HMN HSM HMO OP hP
   obtain⟨q0,q1,q2,q3,q4,q5,q6,q7⟩:=cellsP8 (C1.out.get 1 rfl)
   have ff:=fun o=>frozen_of_row W1 (gk+1) o _ _ (C1.out.get 1 rfl)
   have s8:=cellsP8 (setP8 (C1.out.get 1 rfl) (.int .i64 0) (.int .i64 0) (.string ⟨#[]⟩) (.string ⟨#[]⟩) (.int .i64 0) (.slice none 0 0) (.slice none 0 0) (.int .i64 1))
   have E8:=hideK (setP8_low C1.out.low (g:=gk+1) (by have:=HGK.out;omega) (.int .i64 0) (.int .i64 0) (.string ⟨#[]⟩) (.string ⟨#[]⟩) (.int .i64 0) (.slice none 0 0) (.slice none 0 0) (.int .i64 1))
   go_wp2_with fail
   exact bodyPost_ret (v:=.agg #[.int .i64 0,.int .i64 0,.string ⟨#[]⟩,.string ⟨#[]⟩,.int .i64 0,.slice none 0 0,.slice none 0 0,.int .i64 1]) (by simp[results,Tryz.results22,go_sem,s8.1,s8.2.1,s8.2.2.1,s8.2.2.2.1,s8.2.2.2.2.1,s8.2.2.2.2.2.1,s8.2.2.2.2.2.2.1,s8.2.2.2.2.2.2.2]) rfl ⟨HR.out _ _ (own_illN _ _ 1),E8.out⟩
 ·have HR:=hideK (HP.out _ (HB1.out (.inl hP)))
  have C1:=hideK ((C0.out.call hb).new (.cells #[.slice none 0 0,.int .i64 0,.int .i64 0,.int .i64 0,.string ⟨#[]⟩,.string ⟨#[]⟩,.int .i64 0,.slice none 0 0,.slice none 0 0] 78))
  clear hb C0 HO HP HB1 HB0 HRL HMN HSM hP
  go_upto_region 2 with fail
  generalize w1.alloc _=W1 at C1 ⊢
  generalize w1.heap.size=gw at C1 ⊢
  obtain⟨q0,q1,q2,q3,q4,q5,q6,q7⟩:=cellsP8 (C1.out.get 1 rfl)
  have ff:=fun o=>frozen_of_row W1 (gk+1) o _ _ (C1.out.get 1 rfl)
  have s8:=cellsP8 (setP8 (C1.out.get 1 rfl) (.int .i64 0) (.int .i64 0) (.string ⟨#[]⟩) (.string ⟨#[]⟩) (.int .i64 0) (.slice none 0 0) (.slice none 0 0) (.int .i64 1))
  have E8:=hideK (setP8_low C1.out.low (g:=gk+1) (by have:=HGK.out;omega) (.int .i64 0) (.int .i64 0) (.string ⟨#[]⟩) (.string ⟨#[]⟩) (.int .i64 0) (.slice none 0 0) (.slice none 0 0) (.int .i64 1))
  go_wp2_with fail
  exact bodyPost_ret (v:=.agg #[.int .i64 0,.int .i64 0,.string ⟨#[]⟩,.string ⟨#[]⟩,.int .i64 0,.slice none 0 0,.slice none 0 0,.int .i64 1]) (by simp[results,Tryz.results22,go_sem,s8.1,s8.2.1,s8.2.2.1,s8.2.2.2.1,s8.2.2.2.2.1,s8.2.2.2.2.2.1,s8.2.2.2.2.2.2.1,s8.2.2.2.2.2.2.2]) rfl ⟨HR.out _ _ (own_illN _ _ 1),E8.out⟩
end Go.Proofs.YtpddanmnlkcdpaaGreatDoor.Tk


/- The specification: a game whose others turn; what stays right of the others. -/
namespace Go.Proofs.YtpddanmnlkcdpaaGreatDoor.Tk
open Go.RowKit
open Kp
open Pe
open Pl
open In (Ints OwnI)
open Ls (lowL blk_alloc countN count_spec)
structure Good (c:Int) (o:Oth):Prop where
 a0:0<=o.asked
 s1:o.strikes<=3
 ga:o.asked=0->o.age=0
 g0:0<=o.age
 g1:o.age<=3
 rs:RisesTo o.has c o.has.length
 hl:o.has.length<=1048576
theorem good_of {c:Int} {o:Oth} (h:OthR c o) (hl:o.has.length<=1048576):Good c o:=⟨h.a0,h.s1,fun e=>h.ga.elim (fun h'=>by omega) id,h.g0,h.g1,h.rs,hl⟩
theorem good_old {c:Int} {o:Oth} (h:Good c o):Good c (oldO o):=by
 unfold oldO
 split
 ·exact h
 ·split
  ·exact⟨Int.le_refl _,h.s1,fun _=>rfl,Int.le_refl _,show (0:Int)<=3 by decide,h.rs,h.hl⟩
  ·rename_i h1 h2
   exact⟨h.a0,h.s1,fun e=>absurd e h1,by have:=h.g0;show 0<=o.age+1;omega,by show o.age+1<=3;omega,h.rs,h.hl⟩
theorem good_asked {c:Int} {o:Oth} (h:Good c o) {x:Int} (hx:0<=x):Good c (askedO o x):=⟨by show 0<=x+1;omega,h.s1,fun _=>rfl,Int.le_refl _,show (0:Int)<=3 by decide,h.rs,h.hl⟩
theorem good_askS {c:Int} {rs:List Int} {d:Int} {q:Nat} {st:List Oth × List Snt} {j:Nat} (h:∀ o∈st.1,Good c o):∀ o∈(askS rs d q st j).1,Good c o:=by
 obtain⟨l,p⟩:=st
 by_cases hj:j<l.length
 ·by_cases h0:0<l[j].asked∨l[j].strikes=3
  ·rw[askS_no hj h0];exact h
  ·cases hz:rareZ l[j].has l rs d q q with
   |none=>rw[askS_none hj hz];exact h
   |some y =>
    rw[askS_some hj h0 hz]
    intro o ho
    rcases List.mem_or_eq_of_mem_set ho with ho|rfl
    ·exact h o ho
    ·exact good_asked (h _ (List.getElem_mem hj)) (rare_bd hz).1
 ·have:askS rs d q (l,p) j=(l,p):=by
   unfold askS
   dsimp only
   rw[List.getElem?_eq_none (by omega)]
  rw[this]
  exact h
theorem good_allS {c:Int} {rs:List Int} {d:Int} {q:Nat}:∀ (xs:List Int) {st:List Oth × List Snt},(∀ o∈st.1,Good c o)->∀ o∈(allS rs d q xs st).1,Good c o
 |[],_,h=>h
 |_ :: xs,_,h=>good_allS xs (good_askS h)
def put5 (W:World) (g o:Nat) (x:Oth) (v:Value):World:=((((W.setCell ⟨g,o,none⟩ (.string x.name)).setCell ⟨g,o+1,none⟩ v).setCell ⟨g,o+2,none⟩ (.int .i64 x.asked)).setCell ⟨g,o+3,none⟩ (.int .i64 x.age)).setCell ⟨g,o+4,none⟩ (.int .i64 x.strikes)
theorem put5_grown (W:World) (g o:Nat) (x:Oth) (v:Value):W.grownBy (put5 W g o x v) (some g):=grown_more (grown_more (grown_more (grown_more (grown_set _) _) _) _) _
theorem game_others {w W W':World} {gg g:Nat} {z b:Int} {r s:ByteArray} {y:Int} {ao:Option Addr} {no co:Nat} {va:Value} {mo:List MO} {mr:List MR} {cs:Array Value} {T:TypeId} (h:Game w W gg z b r s y ao no co va mo mr) (hl:Below w.heap.size w W') (hg:W.heap[g]? = some (.cells cs T (0,0))) (h1:T≠69) (h2:T≠86) (h3:T≠2) (h4:T≠139) (h5:T≠9) (hk:∀ k o,W.heap[k]? = some o->k≠g->W'.heap[k]? = some o):Game w W' gg z b r s y ao no co va mo mr :=
 ⟨hl,h.gg0,hk gg _ h.blk (fun e=>by subst e;have:=h.blk;unfold gmB at this;rw[hg]at this;cases this;exact h1 rfl),own_others h.orow hg h2 hk,fun x hx=>own_others (h.has x hx) hg h3 hk,h.ap,rowQ_others h.rrow hg h4 hk,h.ps.keeps (KeepsS.others hg h5 hk)⟩
theorem game_put {w W:World} {gg go j:Nat} {z b:Int} {r s:ByteArray} {y:Int} {no co:Nat} {va:Value} {mo:List MO} {mr:List MR} (h:Game w W gg z b r s y (some ⟨go,0,none⟩) no co va mo mr) (hm:mo.length=no) (hj:j<mo.length) (x:Oth) (hx:x.has=mo[j].1.has):Game w (put5 W go (j*5) x mo[j].2) gg z b r s y (some ⟨go,0,none⟩) no co va (mo.set j (x,mo[j].2)) mr:=by
 have R0:W.ownsRow w.heap.size 86 5 (.slice (some ⟨go,0,none⟩) no co) no (cellsO mo):=by have:=h.orow;unfold OwnO at this;rwa[hm]at this
 obtain⟨cur,hb⟩:=own_blk R0
 have hgr:=put5_grown W go (j*5) x mo[j].2
 have hk:∀ k o,W.heap[k]? = some o->k≠go->(put5 W go (j*5) x mo[j].2).heap[k]? = some o:=fun k o hk hne=>(hgr.block k (lt_rowK hk) (fun e=>hne (Option.some.inj e))).trans hk
 have hgo:w.heap.size<=go:=(World.ownsRow.lt R0 go rfl).1
 refine⟨h.low.grown hgr h.low.size (fun q hq=>by cases hq;exact hgo),h.gg0,hk gg _ h.blk (fun e=>by subst e;have:=h.blk;unfold gmB at this;rw[hb]at this;cases this),?_,fun y hy=>?_,apart_snd (snd_set hj x) h.ap,rowQ_others h.rrow hb (by decide) hk,h.ps.keeps (KeepsS.others hb (by decide) hk)⟩
 ·exact OwnO.set h.orow hm hj (x,mo[j].2)
 ·rcases List.mem_or_eq_of_mem_set hy with hy|rfl
  ·exact own_others (h.has y hy) hb (by decide) hk
  ·dsimp only
   rw[hx]
   exact own_others (h.has mo[j] (List.getElem_mem hj)) hb (by decide) hk
theorem Lets.others {W W':World} {base g:Nat} {v:Value} {ms:List ML} {cs:Array Value} {T:TypeId} (h:Lets W base v ms) (hg:W.heap[g]? = some (.cells cs T (0,0))) (hT:T≠114) (hk:∀ k o,W.heap[k]? = some o->k≠g->W'.heap[k]? = some o):Lets W' base v ms:=⟨own_others h.row hg hT hk,h.nl⟩
theorem game_append {w W W':World} {gg:Nat} {z b:Int} {r s:ByteArray} {y:Int} {ao:Option Addr} {no co:Nat} {va v:Value} {mo:List MO} {mr:List MR} {ms:List ML} (h:Game w W gg z b r s y ao no co va mo mr) (hl:Lets W w.heap.size v ms) (hg:W.grownBy W' v.ownBlock):Game w W' gg z b r s y ao no co va mo mr:=by
 have hlow:Below w.heap.size w W':=h.low.grown hg h.low.size (fun q hq=>(World.ownsRow.lt hl.row q hq).1)
 cases hb:v.ownBlock with
 |none =>
  rw[hb]at hg
  exact h.call ((Below.refl _ _).grown hg (Nat.le_refl _) (fun q hq=>by cases hq))
 |some g =>
  obtain⟨cs,hc⟩:=hl.row.blk hb
  rw[hb]at hg
  exact game_others h hlow hc (by decide) (by decide) (by decide) (by decide) (by decide) (fun k o hk hne=>(hg.block k (lt_rowK hk) (fun e=>hne (Option.some.inj e))).trans hk)
theorem newsL {W:World} {base n cap:Nat} {a:Option Addr} {m:List ML} (h:OwnL W base (.slice a n cap) m):∀ d,a=some d->∀ j u,(cellsL m)[j]? = some u->W.cell? (d.add j)=some u:=fun d hd j u hu=>by
 have hh:=h
 subst hd
 obtain⟨hl,h'⟩:=h
 rcases h' with⟨h',_⟩|⟨g,cap',cur,hv,_,hb,_⟩
 ·cases h'
 ·obtain rfl:d=⟨g,0,none⟩:=by simp at hv;exact hv.1
  exact World.ownsRow.cells hh (g:=g) rfl j u hu
theorem cellsL_one:∀ (m:List ML),(∀ x∈m,x.2.oneCell'=true)->∀ u∈cellsL m,u.oneCell'=true
 |[],_,u,hu=>absurd hu List.not_mem_nil
 |x :: m,h,u,hu=>by
  rw[cellsL]at hu
  simp only[List.mem_cons]at hu
  rcases hu with rfl|rfl|rfl|rfl|rfl|hu
  ·rfl
  ·rfl
  ·rfl
  ·rfl
  ·exact h x (List.mem_cons_self ..)
  ·exact cellsL_one m (fun y hy=>h y (List.mem_cons_of_mem _ hy)) u hu
theorem lets_app {W':World} {base:Nat} {v':Value} {ms ms':List ML} {n m:Nat} (h:∀ x∈ms,x.2=.slice none 0 0/\x.1.path=[]) (h':∀ x∈ms',x.2=.slice none 0 0/\x.1.path=[]) (hn:ms.length=n) (hm:ms'.length=m) (ho:W'.ownsRow base 114 5 v' (n+m) (cellsL ms++cellsL ms')):Lets W' base v' (ms++ms') :=
 ⟨by unfold OwnL;rw[List.length_append,cellsL_append,hn,hm];exact ho,fun q hq=>(List.mem_append.1 hq).elim (h q) (h' q)⟩
theorem hasOut_fix (m:List MR) (i:Int):∃ v:Int,(∀ e,HasOut m i e->e=.returned (.int .i64 v))/\(decide (0<=v)=decide (i∈idxs m)):=by
 by_cases h:i∈idxs m
 ·rw[decide_eq_true h]
  have key:∀ (n j:Nat),j<=n->(hj:j<m.length)->m[j].1.1=i->∃ (j0:Nat) (hj0:j0<m.length),m[j0].1.1=i/\∀ k (hk:k<j0),¬(m[k]'(Nat.lt_trans hk hj0)).1.1=i:=fun n=>by
   induction n with
   |zero =>
    intro j hjn hj e
    obtain rfl:j=0:=by omega
    exact⟨0,hj,e,fun k hk=>absurd hk (Nat.not_lt_zero _)⟩
   |succ n ih =>
    intro j hjn hj e
    by_cases hx:∃ (k:Nat) (hk:k<j),(m[k]'(Nat.lt_trans hk hj)).1.1=i
    ·obtain⟨k,hk,he⟩:=hx
     exact ih k (by omega) (Nat.lt_trans hk hj) he
    ·exact⟨j,hj,e,fun k hk he=>hx ⟨k,hk,he⟩⟩
  obtain⟨q,hq,he⟩:=List.mem_map.1 h
  obtain⟨j,hj,rfl⟩:=List.getElem_of_mem hq
  obtain⟨j0,hj0,h1,h2⟩:=key j j (Nat.le_refl _) hj he
  refine⟨(j0:Int),fun e ho=>?_,decide_eq_true (by omega)⟩
  rcases ho with⟨j',hj',h1',h2',rfl⟩|⟨hno,_⟩
  ·have:j'=j0:=by
    rcases Nat.lt_trichotomy j' j0 with h|h|h
    ·exact absurd h1' (h2 j' h)
    ·exact h
    ·exact absurd h1 (h2' j0 h)
   rw[this]
  ·exact absurd h1 (hno j0 hj0)
 ·rw[decide_eq_false h]
  refine⟨-1,fun e ho=>?_,rfl⟩
  rcases ho with⟨j',hj',h1',_,_⟩|⟨_,rfl⟩
  ·exact absurd (List.mem_map.2 ⟨m[j'],List.getElem_mem hj',h1'⟩) h
  ·rfl
end Go.Proofs.YtpddanmnlkcdpaaGreatDoor.Tk


namespace Go.Proofs.YtpddanmnlkcdpaaGreatDoor.Tk
open Go.RowKit
open Kp
open Pe
open Pl
open In (Ints OwnI)
open Tr (wpList_append_opt)
open Ls (lowL blk_alloc countN count_spec)
def OldsG (w:World) (gg:Nat) (z b:Int) (r s:ByteArray) (y:Int) (ao:Option Addr) (n co:Nat) (va:Value) (mo:List MO) (mr:List MR) (j:Nat) (V:World):Prop:=∃ mj,Game w V gg z b r s y ao n co va mj mr/\Pe.oths mj=oldL (Pe.oths mo) j/\∀ x∈mj,∃ a c,x.2=.slice a x.1.has.length c
def AskedG (w:World) (gg:Nat) (z b:Int) (r s:ByteArray) (y:Int) (ao:Option Addr) (n co:Nat) (va:Value) (mo:List MO) (mr:List MR) (d:Int) (c:Nat) (j:Nat) (sv:Value) (V:World):Prop:=∃ mj ms,Game w V gg z b r s y ao n co va mj mr/\Lets V w.heap.size sv ms/\(Pe.oths mj,snts ms)=allS (idxs mr) d c (turnL d n j) ((Pe.oths mo).map oldO,[])
theorem tickG_spec (w W:World) (gg:Nat) (z b:Int) (r s:ByteArray) (y:Int) (ao:Option Addr) (n co:Nat) (va:Value) (mo:List MO) (mr:List MR) (hg:Game w W gg z b r s y ao n co va mo mr) (hm:mo.length=n) (hn:n<=4) (hr:mr.length<=1048576) (hcn:countN z b r<=1048576) (q:Int) (hgd:∀ o∈Pe.oths mo,Good q o) (d:Int) (hd:0<=d) (hd2:d<=1048576) :
  Calls Tryz.prog 54 #[.pointer (some ⟨gg,0,none⟩),.int .i64 d] W fun e w'=>∃ vs ms mo',e=.returned vs/\Game w w' gg z b r s y ao n co va mo' mr/\Lets w' w.heap.size vs ms/\(Pe.oths mo',snts ms)=tickS (idxs mr) d (countN z b r) (Pe.oths mo) []:=by
 obtain⟨i0,hi0,hz0,hz1,hz2⟩:=info_parts Tryz.infoSent
 have hmx:=mixedK
 have GM:=hideK hg
 have HM:=hideK hm
 have HGD:=hideK hgd
 have HLM:Hid ((Pe.oths mo).length=n):=by unfold Hid;rw[oths_length];exact hm
 clear hg hm hgd
 go_enter Tryz.func54,Tryz.ntmps54
 go_wp2_with fail
 go_loopw [5,6] (fun iv _ wr=>∃ i:Nat,iv=.int .i64 i/\i<=n/\OldsG w gg z b r s y ao n co va mo mr i wr) (fun iv _ _=>n-(intOf iv).toNat)
 case atStart=>exact⟨0,rfl,Nat.zero_le _,mo,GM.out,(oldL_zero _).symm,fun x hx=>by obtain⟨a,c,hv,_⟩:=(GM.out.has x hx).ints;exact⟨a,c,hv⟩⟩
 case round =>
  obtain⟨i,rfl,hi,mj,hgj,hos,hsl⟩:=hrel
  have GJ:=hideK hgj
  have OS:=hideK hos
  have SL:=hideK hsl
  have HLJ:Hid (mj.length=n):=by unfold Hid;rw[<-oths_length,hos,oldL_length _ _ (by rw[HLM.out];exact hi),HLM.out]
  have e5:wr.cell? ⟨gg,5,none⟩=some (.slice ao n co):=cell_of_row wr gg 5 _ _ _ (by have:=hgj.blk;unfold gmB at this;exact this)
  clear hgj hos hsl
  by_cases hlt:i<n
  ·have hlt':(i:Int)<(n:Int):=by omega
   have hil:i<mj.length:=by rw[HLJ.out];exact hlt
   have hio:i<(Pe.oths mo).length:=by rw[HLM.out];exact hlt
   have HX:Hid (mj[i].1=(Pe.oths mo)[i]):=by
    unfold Hid
    rw[<-oths_get mj i hil,<-oldL_at (Pe.oths mo) i hio]
    simp only[OS.out]
   obtain⟨go,cp,hv,_,hgz,_,hcc⟩:=GJ.out.orow.cells (by omega)
   obtain⟨rfl,rfl⟩:ao=some ⟨go,0,none⟩/\co=cp:=by simp at hv;exact⟨hv.1,hv.2.2⟩
   obtain⟨d0,d1,d2,d3,d4⟩:=hcc i hil
   obtain⟨ax,cx,hxv⟩:=SL.out mj[i] (List.getElem_mem hil)
   have hag:=HGD.out _ (List.getElem_mem hio)
   rw[<-HX.out]at hag
   have ha3:=hag.g1
   have ha0:=hag.g0
   have HSAME:Hid (∀ V,Below wr.heap.size wr V->mj[i].1.asked=0->OldsG w gg z b r s y (some ⟨go,0,none⟩) n co va mo mr (i+1) V):=fun V hV hq=>⟨mj,GJ.out.call hV,by rw[OS.out];exact(oldL_same _ i hio (by rw[<-HX.out];unfold oldO;rw[if_pos hq])).symm,SL.out⟩
   have HPUT:Hid (∀ V,Below wr.heap.size wr V->∀ x:Oth,x=oldO mj[i].1->x.has=mj[i].1.has->OldsG w gg z b r s y (some ⟨go,0,none⟩) n co va mo mr (i+1) (put5 V go (i*5) x mj[i].2).drew):=fun V hV x hx hh=>⟨_,(game_put (GJ.out.call hV) HLJ.out hil x hh).call ((Below.refl _ _).drew),by rw[oths_set,OS.out,<-oldL_next _ i hio,hx,HX.out],fun p hp=>by
    rcases List.mem_or_eq_of_mem_set hp with hp|rfl
    ·exact SL.out p hp
    ·dsimp only
     rw[hh]
     exact SL.out mj[i] (List.getElem_mem hil)⟩
   have HOL:Hid (¬mj[i].1.asked=0->oldO mj[i].1=if 3<mj[i].1.age+1 then ⟨mj[i].1.name,mj[i].1.has,0,0,mj[i].1.strikes⟩ else ⟨mj[i].1.name,mj[i].1.has,mj[i].1.asked,mj[i].1.age+1,mj[i].1.strikes⟩):=fun h=>by unfold oldO;rw[if_neg h]
   have HFF:Hid (∀ V,Below wr.heap.size wr V->∀ t,V.frozen? ⟨go,t,none⟩=false):=fun V hV t=>by
    have:=(GJ.out.call hV).orow.frozen
    exact this t
   have HC5:Hid (∀ V,Below wr.heap.size wr V->V.cell? ⟨gg,5,none⟩=some (.slice (some ⟨go,0,none⟩) n co)/\V.cell? ⟨go,i*5,none⟩=some (.string mj[i].1.name)/\V.cell? ⟨go,i*5+1,none⟩=some mj[i].2/\V.cell? ⟨go,i*5+2,none⟩=some (.int .i64 mj[i].1.asked)/\V.cell? ⟨go,i*5+3,none⟩=some (.int .i64 mj[i].1.age)/\V.cell? ⟨go,i*5+4,none⟩=some (.int .i64 mj[i].1.strikes)):=fun V hV=>by
    exact⟨(hV.cell (p:=⟨gg,5,none⟩) (lt_rowK GJ.out.blk)).trans e5,(hV.cell (p:=⟨go,i*5,none⟩) hgz).trans d0,(hV.cell (p:=⟨go,i*5+1,none⟩) hgz).trans d1,(hV.cell (p:=⟨go,i*5+2,none⟩) hgz).trans d2,(hV.cell (p:=⟨go,i*5+3,none⟩) hgz).trans d3,(hV.cell (p:=⟨go,i*5+4,none⟩) hgz).trans d4⟩
   rw[hxv]at d1
   rw[hxv]at HPUT HC5
   clear hcc hv hxv hag HX
   generalize mj[i].1.name=nm at *
   generalize mj[i].1.asked=qa at *
   generalize mj[i].1.age=ga at *
   generalize mj[i].1.strikes=st at *
   generalize hhl:mj[i].1.has=hl at *
   generalize hl.length=hln at *
   have XB:=hideK (heap_alloc_new wr (.cells #[.string nm,.slice ax hln cx,.int .i64 qa,.int .i64 ga,.int .i64 st] 86))
   have D1:=hideK ((Below.refl wr.heap.size wr).alloc (Nat.le_refl _) (.cells #[.string nm,.slice ax hln cx,.int .i64 qa,.int .i64 ga,.int .i64 st] 86))
   go_upto_region 5 with fail
   generalize wr.alloc (.cells #[.string nm,.slice ax hln cx,.int .i64 qa,.int .i64 ga,.int .i64 st] 86)=W2 at XB D1 ⊢
   generalize hg2:wr.heap.size=g2 at XB ⊢
   have HG2:=hideK hg2
   clear hg2
   obtain⟨f0,f1,f2,f3,f4⟩:=cells5 XB.out
   have ff:=fun o=>frozen_of_row W2 g2 o _ _ XB.out
   clear d0 d1 d2 d3 d4 e5
   by_cases hq:qa=0
   ·have hqb:(qa==0)=true:=beq_iff_eq.2 hq
    have NX:=hideK (HSAME.out W2 D1.out hq)
    clear HSAME HPUT HOL HFF HC5 hq
    go_wp2_with fail
    go_roundw
    case rel=>exact⟨i+1,by go_num,by omega,NX.out⟩
    case measure=>simp[intOf];omega
   ·have hqb:(qa==0)=false:=by simp[hq]
    have X3:=hideK (setC (cs':=#[.string nm,.slice ax hln cx,.int .i64 qa,.int .i64 (ga+1),.int .i64 st]) XB.out 3 (.int .i64 (ga+1)) rfl)
    have D3:Hid (Below wr.heap.size wr (W2.setCell ⟨g2,3,none⟩ (.int .i64 (ga+1)))):=D1.out.setCell (p:=⟨g2,3,none⟩) (Nat.le_of_eq HG2.out) _
    go_upto_region 7 with fail
    generalize W2.setCell ⟨g2,3,none⟩ (.int .i64 (ga+1))=W3 at X3 D3 ⊢
    clear f0 f1 f2 f3 f4 ff XB D1
    obtain⟨f0,f1,f2,f3,f4⟩:=cells5 X3.out
    have ff:=fun o=>frozen_of_row W3 g2 o _ _ X3.out
    by_cases ha:3<ga+1
    ·have haD:decide ((4:Int)<=ga+1)=true:=by simp;omega
     have haI:(4:Int)<=ga+1:=by omega
     have HE:Hid (oldO mj[i].1=⟨nm,hl,0,0,st⟩):=by unfold Hid;rw[HOL.out hq,if_pos ha]
     have X4:=setC (cs':=#[.string nm,.slice ax hln cx,.int .i64 0,.int .i64 (ga+1),.int .i64 st]) X3.out 2 (.int .i64 0) rfl
     have X5:=hideK (setC (cs':=#[.string nm,.slice ax hln cx,.int .i64 0,.int .i64 0,.int .i64 st]) X4 3 (.int .i64 0) rfl)
     have D5:Hid (Below wr.heap.size wr ((W3.setCell ⟨g2,2,none⟩ (.int .i64 0)).setCell ⟨g2,3,none⟩ (.int .i64 0))):=(D3.out.setCell (p:=⟨g2,2,none⟩) (Nat.le_of_eq HG2.out) _).setCell (p:=⟨g2,3,none⟩) (Nat.le_of_eq HG2.out) _
     have f3':=(cells5 X4).2.2.2.1
     have ff':=fun o=>frozen_of_row _ g2 o _ _ X4
     go_upto_region 10 with fail
     generalize (W3.setCell ⟨g2,2,none⟩ (.int .i64 0)).setCell ⟨g2,3,none⟩ (.int .i64 0)=W5 at X5 D5 ⊢
     clear f0 f1 f2 f3 f4 ff X3 D3 X4 f3' ff' ha haD haI
     have NX:=hideK (HPUT.out W5 D5.out ⟨nm,hl,0,0,st⟩ HE.out.symm rfl)
     unfold put5 at NX
     dsimp only at NX
     obtain⟨k5,k0,k1,k2,k3,k4⟩:=HC5.out W5 D5.out
     have fz:=HFF.out W5 D5.out
     obtain⟨p0,p1,p2,p3,p4⟩:=cells5 X5.out
     clear HSAME HPUT HOL HFF HC5 HE hq hqb
     refine Sh.still_tail 8 hmx (by kernel_rfl) ?_
     simp only[List.take_succ_cons,List.take_zero,List.drop_succ_cons,List.drop_zero]
     repeat still_step
     refine wpStill_nil ?_
     go_wp2_with fail
     go_roundw
     case rel=>exact⟨i+1,by go_num,by omega,NX.out⟩
     case measure=>simp[intOf];omega
    ·have haD:decide ((4:Int)<=ga+1)=false:=by simp;omega
     have haI:¬(4:Int)<=ga+1:=by omega
     have HE:Hid (oldO mj[i].1=⟨nm,hl,qa,ga+1,st⟩):=by unfold Hid;rw[HOL.out hq,if_neg ha]
     go_upto_region 10 with fail
     clear f0 f1 f2 f3 f4 ff ha haD haI
     have NX:=hideK (HPUT.out W3 D3.out ⟨nm,hl,qa,ga+1,st⟩ HE.out.symm rfl)
     unfold put5 at NX
     dsimp only at NX
     obtain⟨k5,k0,k1,k2,k3,k4⟩:=HC5.out W3 D3.out
     have fz:=HFF.out W3 D3.out
     obtain⟨p0,p1,p2,p3,p4⟩:=cells5 X3.out
     clear HSAME HPUT HOL HFF HC5 HE hq hqb
     refine Sh.still_tail 8 hmx (by kernel_rfl) ?_
     simp only[List.take_succ_cons,List.take_zero,List.drop_succ_cons,List.drop_zero]
     repeat still_step
     refine wpStill_nil ?_
     go_wp2_with fail
     go_roundw
     case rel=>exact⟨i+1,by go_num,by omega,NX.out⟩
     case measure=>simp[intOf];omega
  ·obtain rfl:i=n:=by omega
   have hltD:decide ((i:Int)<(i:Int))=false:=by simp
   have HOA:Hid (Pe.oths mj=(Pe.oths mo).map oldO):=by
    unfold Hid
    rw[OS.out,<-oldL_all,HLM.out]
   have A0:Hid (AskedG w gg z b r s y ao i co va mo mr d (countN z b r) 0 (.slice (some ⟨wr.heap.size,0,none⟩) 0 0) (wr.alloc (.cells #[] 114))):=⟨mj,[],GJ.out.call ((Below.refl _ _).alloc (Nat.le_refl _) _),⟨(ownL_lit wr).mono GJ.out.low.size,fun _ hx=>absurd hx List.not_mem_nil⟩,by rw[HOA.out];rfl⟩
   have e5':(wr.alloc (.cells #[] 114)).cell? ⟨gg,5,none⟩=some (.slice ao i co):=(((Below.refl wr.heap.size wr).alloc (Nat.le_refl _) _).cell (p:=⟨gg,5,none⟩) (lt_rowK GJ.out.blk)).trans e5
   have HGA:Hid (∀ l j,∀ o∈(allS (idxs mr) d (countN z b r) l ((Pe.oths mo).map oldO,j)).1,Good q o):=fun l j=>good_allS l (fun o ho=>by
    obtain⟨o',ho',rfl⟩:=List.mem_map.1 ho
    exact good_old (HGD.out o' ho'))
   clear GJ OS SL HLJ HGD GM
   go_wp2_with fail
   go_loopw [7,9,10,11,12] (fun sv jv _ _ _ wr=>∃ j:Nat,jv=.int .i64 j/\j<=i/\AskedG w gg z b r s y ao i co va mo mr d (countN z b r) j sv wr) (fun _ jv _ _ _ _=>i-(intOf jv).toNat)
   case atStart=>exact⟨0,rfl,Nat.zero_le _,A0.out⟩
   case round =>
    obtain⟨j,rfl,hj,mk,ms,hgk,hlk,hst⟩:=hrel
    have GK:=hideK hgk
    have LK:=hideK hlk
    have ST:=hideK hst
    have HGK:Hid (∀ o∈Pe.oths mk,Good q o):=by
     have:=HGA.out (turnL d i j) []
     rw[<-hst]at this
     exact this
    have HMK:Hid (mk.length=i):=by
     have h1:=(allS_len (idxs mr) d (countN z b r) (turnL d i j) ((Pe.oths mo).map oldO,[])).1
     rw[<-hst]at h1
     dsimp only at h1
     rw[List.length_map,HLM.out,oths_length]at h1
     exact h1
    have HML:Hid (ms.length<=j):=by
     have h1:=(allS_len (idxs mr) d (countN z b r) (turnL d i j) ((Pe.oths mo).map oldO,[])).2
     rw[<-hst]at h1
     dsimp only at h1
     rw[snts_length,turnL_len]at h1
     unfold Hid
     simpa using h1
    have e5k:wr.cell? ⟨gg,5,none⟩=some (.slice ao i co):=cell_of_row wr gg 5 _ _ _ (by have:=hgk.blk;unfold gmB at this;exact this)
    obtain⟨asl,csl,hsv,_,_⟩:=hlk.row.one
    generalize hml:ms.length=L at hsv HML
    have HLE:=hideK hml
    have hLj:L<=j:=HML.out
    have hzw:=hgk.low.size
    subst hsv
    clear hgk hlk hst hml HML e5 e5' A0
    by_cases hlt:j<i
    ·have hlt':(j:Int)<(i:Int):=by omega
     have hc0:¬(i:Int)=0:=by omega
     have hc0':¬i=0:=by omega
     have hc0b:((i:Int)==0)=false:=by simp;omega
     have htm:(d+(j:Int)).tmod (i:Int)=(d+(j:Int))%(i:Int):=Int.tmod_eq_emod_of_nonneg (by omega)
     have hx0:0<=(d+(j:Int))%(i:Int):=Int.emod_nonneg _ hc0
     have hx1:(d+(j:Int))%(i:Int)<(i:Int):=Int.emod_lt_of_pos _ (by omega)
     have HSN:Hid (allS (idxs mr) d (countN z b r) (turnL d i (j+1)) ((Pe.oths mo).map oldO,[])=askS (idxs mr) d (countN z b r) (Pe.oths mk,snts ms) ((d+(j:Int))%(i:Int)).toNat):=by
      unfold Hid
      rw[turnL_snoc,allS_snoc,<-ST.out]
     obtain⟨kk,hkk⟩:=Int.eq_ofNat_of_zero_le hx0
     rw[hkk]at htm HSN
     have hki:kk<i:=by rw[hkk]at hx1;exact Int.ofNat_lt.1 hx1
     rw[Int.toNat_natCast]at HSN
     clear hkk hx0 hx1
     have hkl:kk<mk.length:=by rw[HMK.out];exact hki
     have hko:kk<(Pe.oths mk).length:=by rw[oths_length];exact hkl
     have hkI:(kk:Int)<(i:Int):=by omega
     obtain⟨go,cp,hv,_,hgz,_,hcc⟩:=GK.out.orow.cells (by omega)
     obtain⟨rfl,rfl⟩:ao=some ⟨go,0,none⟩/\co=cp:=by simp at hv;exact⟨hv.1,hv.2.2⟩
     obtain⟨d0,d1,d2,d3,d4⟩:=hcc kk hkl
     obtain⟨ax,cx,hxv,_⟩:=(GK.out.has mk[kk] (List.getElem_mem hkl)).ints
     have hgo:=HGK.out mk[kk].1 (List.mem_map_of_mem (List.getElem_mem hkl))
     have hs3:=hgo.s1
     have ha0:=hgo.a0
     have hga:=hgo.ga
     have HGT:Hid ((Pe.oths mk)[kk]=mk[kk].1):=oths_get mk kk hkl
     have HSAME:Hid (∀ V,Below wr.heap.size wr V->askS (idxs mr) d (countN z b r) (Pe.oths mk,snts ms) kk=(Pe.oths mk,snts ms)->AskedG w gg z b r s y (some ⟨go,0,none⟩) i co va mo mr d (countN z b r) (j+1) (.slice asl L csl) V):=fun V hV he=>⟨mk,ms,GK.out.call hV,LK.out.call hV,by rw[HSN.out,he]⟩
     have HNO:Hid (0<mk[kk].1.asked∨mk[kk].1.strikes=3->askS (idxs mr) d (countN z b r) (Pe.oths mk,snts ms) kk=(Pe.oths mk,snts ms)):=fun h=>askS_no hko (by rw[HGT.out];exact h)
     have HNN:Hid (rareZ mk[kk].1.has (Pe.oths mk) (idxs mr) d (countN z b r) (countN z b r)=none->askS (idxs mr) d (countN z b r) (Pe.oths mk,snts ms) kk=(Pe.oths mk,snts ms)):=fun h=>askS_none hko (by rw[HGT.out];exact h)
     have HYE:Hid (∀ p,¬(0<mk[kk].1.asked∨mk[kk].1.strikes=3)->rareZ mk[kk].1.has (Pe.oths mk) (idxs mr) d (countN z b r) (countN z b r)=some p->askS (idxs mr) d (countN z b r) (Pe.oths mk,snts ms) kk=((Pe.oths mk).set kk (askedO mk[kk].1 p.1),snts ms++[letterA mk[kk].1.name p.1])):=fun p h0 h=>by
      have:=askS_some (q:=snts ms) (p:=p) hko (by rw[HGT.out];exact h0) (by rw[HGT.out];exact h)
      rw[this,HGT.out]
     have HRA:=hideK (fun V (hV:Below wr.heap.size wr V)=>rarest_spec w V gg z b r s y (some ⟨go,0,none⟩) i co va mk mr (GK.out.call hV) HMK.out hn hr hcn q (fun o ho=>(HGK.out o ho).rs) (fun y hy=>(HGK.out y.1 (List.mem_map_of_mem hy)).hl) kk hkl d hd hd2)
     have HBD:Hid (∀ p,rareZ mk[kk].1.has (Pe.oths mk) (idxs mr) d (countN z b r) (countN z b r)=some p->0<=p.1/\p.1<=1048576):=fun p hp=>by
      have:=rare_bd hp
      omega
     have HPUT:Hid (∀ V,Below wr.heap.size wr V->∀ x:Int,Game w (put5 V go (kk*5) (askedO mk[kk].1 x) mk[kk].2).drew gg z b r s y (some ⟨go,0,none⟩) i co va (mk.set kk (askedO mk[kk].1 x,mk[kk].2)) mr/\Lets (put5 V go (kk*5) (askedO mk[kk].1 x) mk[kk].2).drew w.heap.size (.slice asl L csl) ms):=fun V hV x=>by
      have hgv:=GK.out.call hV
      have R0:V.ownsRow w.heap.size 86 5 (.slice (some ⟨go,0,none⟩) i co) i (cellsO mk):=by have:=hgv.orow;unfold OwnO at this;rwa[HMK.out]at this
      obtain⟨cur,hb⟩:=own_blk R0
      have hgr:=put5_grown V go (kk*5) (askedO mk[kk].1 x) mk[kk].2
      exact⟨(game_put hgv HMK.out hkl (askedO mk[kk].1 x) rfl).call ((Below.refl _ _).drew),((LK.out.call hV).others hb (by decide) (fun k o hk hne=>(hgr.block k (lt_rowK hk) (fun e=>hne (Option.some.inj e))).trans hk)).call ((Below.refl _ _).drew)⟩
     have HOS:Hid (∀ x:Int,Pe.oths (mk.set kk (askedO mk[kk].1 x,mk[kk].2))=(Pe.oths mk).set kk (askedO mk[kk].1 x)):=fun x=>oths_set mk kk _
     have HFF:Hid (∀ V,Below wr.heap.size wr V->∀ t,V.frozen? ⟨go,t,none⟩=false):=fun V hV t=>by
      have:=(GK.out.call hV).orow.frozen
      exact this t
     have HC5:Hid (∀ V,Below wr.heap.size wr V->V.cell? ⟨gg,5,none⟩=some (.slice (some ⟨go,0,none⟩) i co)/\V.cell? ⟨go,kk*5,none⟩=some (.string mk[kk].1.name)/\V.cell? ⟨go,kk*5+1,none⟩=some mk[kk].2/\V.cell? ⟨go,kk*5+2,none⟩=some (.int .i64 mk[kk].1.asked)/\V.cell? ⟨go,kk*5+3,none⟩=some (.int .i64 mk[kk].1.age)/\V.cell? ⟨go,kk*5+4,none⟩=some (.int .i64 mk[kk].1.strikes)):=fun V hV=>by
      exact⟨(hV.cell (p:=⟨gg,5,none⟩) (lt_rowK GK.out.blk)).trans e5k,(hV.cell (p:=⟨go,kk*5,none⟩) hgz).trans d0,(hV.cell (p:=⟨go,kk*5+1,none⟩) hgz).trans d1,(hV.cell (p:=⟨go,kk*5+2,none⟩) hgz).trans d2,(hV.cell (p:=⟨go,kk*5+3,none⟩) hgz).trans d3,(hV.cell (p:=⟨go,kk*5+4,none⟩) hgz).trans d4⟩
     rw[hxv]at d1
     have HXV:=hideK hxv
     clear hcc hv hxv hgo
     have HNM:Hid (∃ o:Oth,o=mk[kk].1):=⟨_,rfl⟩
     have HFL:Hid (∀ x,askedO mk[kk].1 x=⟨mk[kk].1.name,mk[kk].1.has,x+1,0,mk[kk].1.strikes⟩):=fun x=>rfl
     generalize mk[kk].1.name=nm at *
     generalize mk[kk].1.asked=qa at *
     generalize mk[kk].1.age=ga at *
     generalize mk[kk].1.strikes=st at *
     generalize hln':mk[kk].1.has.length=hln at *
     have XB:=hideK (heap_alloc_new wr (.cells #[.string nm,.slice ax hln cx,.int .i64 qa,.int .i64 ga,.int .i64 st] 86))
     have D1:=hideK ((Below.refl wr.heap.size wr).alloc (Nat.le_refl _) (.cells #[.string nm,.slice ax hln cx,.int .i64 qa,.int .i64 ga,.int .i64 st] 86))
     go_upto_region 18 with fail
     generalize wr.alloc (.cells #[.string nm,.slice ax hln cx,.int .i64 qa,.int .i64 ga,.int .i64 st] 86)=W2 at XB D1 ⊢
     generalize hg2:wr.heap.size=g2 at XB ⊢
     have HG2:=hideK hg2
     clear hg2
     obtain⟨f0,f1,f2,f3,f4⟩:=cells5 XB.out
     have ff:=fun o=>frozen_of_row W2 g2 o _ _ XB.out
     clear d0 d1 d2 d3 d4 e5k
     by_cases hq:qa=0
     ·have hqb:(qa != 0)=false:=by simp[hq]
      by_cases hs:st=3
      ·have hsD:decide ((3:Int)<=st)=true:=by simp;omega
       have hsI:(3:Int)<=st:=by omega
       have NX:=hideK (HSAME.out W2 D1.out (HNO.out (.inr hs)))
       clear HSAME HNO HNN HYE HRA HBD HPUT HOS HFF HC5 HFL HXV
       go_wp2_with fail
       go_roundw
       case rel=>exact⟨j+1,by go_num,by omega,NX.out⟩
       case measure=>simp[intOf];omega
      ·have hsD:decide ((3:Int)<=st)=false:=by simp;omega
       have hsI:¬(3:Int)<=st:=by omega
       have HN0:Hid (¬(0<qa∨st=3)):=fun h=>h.elim (fun h=>by omega) hs
       have RA:=hideK (HRA.out W2 D1.out)
       subst hq
       obtain rfl:ga=0:=hga rfl
       have hzg:go<g2:=by have:=HG2.out;omega
       cases hz:rareZ mk[kk].1.has (Pe.oths mk) (idxs mr) d (countN z b r) (countN z b r) with
       |none =>
        have HNX:=hideK (HNN.out hz)
        rw[hz]at RA
        simp only[rareV]at RA
        clear HNO HNN HYE HRA HBD HPUT HOS HFF HC5 HFL HXV hz
        go_wp2_with fail
        refine RA.out.mono ?_
        rintro e w2 ⟨rfl,hb⟩
        have NX:=hideK (HSAME.out w2 (D1.out.trans (hb.mono D1.out.size)) HNX.out)
        clear hb RA HSAME
        go_wp2_with fail
        go_roundw
        case rel=>exact⟨j+1,by go_num,by omega,NX.out⟩
        case measure=>simp[intOf];omega
       |some p =>
        obtain⟨x,qn⟩:=p
        have HYX:=hideK (HYE.out _ HN0.out hz)
        obtain⟨hx0,hx1⟩:=HBD.out _ hz
        rw[hz]at RA
        simp only[rareV]at RA
        dsimp only at HYX hx0 hx1
        clear HNO HNN HYE HRA HBD HSAME hz
        go_wp2_with fail
        refine RA.out.mono ?_
        rintro e w2 ⟨rfl,hb⟩
        have XB2:w2.heap[g2]? = some (.cells #[.string nm,.slice ax hln cx,.int .i64 0,.int .i64 0,.int .i64 st] 86 (0,0)):=(hb.block g2 (lt_rowK XB.out)).trans XB.out
        have X3:=hideK (setC (cs':=#[.string nm,.slice ax hln cx,.int .i64 (x+1),.int .i64 0,.int .i64 st]) XB2 2 (.int .i64 (x+1)) rfl)
        have D3:Hid (Below wr.heap.size wr (w2.setCell ⟨g2,2,none⟩ (.int .i64 (x+1)))):=(D1.out.trans (hb.mono D1.out.size)).setCell (p:=⟨g2,2,none⟩) (Nat.le_of_eq HG2.out) _
        clear f0 f1 f2 f3 f4 ff
        obtain⟨f0,f1,f2,f3,f4⟩:=cells5 XB2
        have ff:=fun o=>frozen_of_row w2 g2 o _ _ XB2
        clear hb RA XB D1
        go_upto_region 22 with fail
        generalize w2.setCell ⟨g2,2,none⟩ (.int .i64 (x+1))=W3 at X3 D3 ⊢
        clear f0 f1 f2 f3 f4 ff XB2
        obtain⟨k5,k0,k1,k2,k3,k4⟩:=HC5.out W3 D3.out
        have fz:=HFF.out W3 D3.out
        obtain⟨p0,p1,p2,p3,p4⟩:=cells5 X3.out
        obtain⟨hgp,hlp⟩:=HPUT.out W3 D3.out x
        have HKY:Hid (∀ V:World,V.heap[g2]? = some (.cells #[.string nm,.slice ax hln cx,.int .i64 (x+1),.int .i64 0,.int .i64 st] 86 (0,0))->V.drew.cell? ⟨g2,0,none⟩=some (.string nm)):=fun V h=>(cells5 (W:=V.drew) h).1
        have HN4:Hid ((put5 W3 go (kk*5) ⟨nm,mk[kk].1.has,x+1,0,st⟩ (.slice ax hln cx)).drew.cell? ⟨g2,0,none⟩=some (.string nm)):=by
         have hgr:=put5_grown W3 go (kk*5) ⟨nm,mk[kk].1.has,x+1,0,st⟩ (.slice ax hln cx)
         have hb:(put5 W3 go (kk*5) ⟨nm,mk[kk].1.has,x+1,0,st⟩ (.slice ax hln cx)).heap[g2]? = _:=(hgr.block g2 (lt_rowK X3.out) (fun e=>by have:=Option.some.inj e;omega)).trans X3.out
         exact HKY.out _ hb
        have HOX:=hideK (HOS.out x)
        rw[HXV.out]at hgp hlp HOX k1
        rw[HFL.out]at hgp hlp
        have GP:=hideK hgp
        have LP:=hideK hlp
        unfold put5 at GP LP HN4
        dsimp only at GP LP HN4
        clear hgp hlp HPUT HFF HC5 HOS
        refine Sh.still_tail 8 hmx (by kernel_rfl) ?_
        simp only[List.take_succ_cons,List.take_zero,List.drop_succ_cons,List.drop_zero]
        repeat still_step
        refine wpStill_nil ?_
        go_upto_region 23 with fail
        generalize ((((((W3.setCell ⟨go,kk*5,none⟩ (.string nm)).setCell ⟨go,kk*5+1,none⟩ (.slice ax hln cx)).setCell ⟨go,kk*5+2,none⟩ (.int .i64 (x+1))).setCell ⟨go,kk*5+3,none⟩ (.int .i64 0)).setCell ⟨go,kk*5+4,none⟩ (.int .i64 st))).drew=W4 at GP LP HN4 ⊢
        have n0:=HN4.out
        clear k5 k0 k1 k2 k3 k4 fz p0 p1 p2 p3 p4 X3 D3 HN4
        have hz4:=GP.out.low.size
        have OLa:Hid ((W4.alloc (.cells #[.string nm,.int .i64 2,.int .i64 x,.string ⟨#[]⟩,.slice none 0 0] 114)).ownsRow w.heap.size 114 5 (.slice asl L csl) L (cellsL ms)):=by
         have:=LP.out.row.alloc (.cells #[.string nm,.int .i64 2,.int .i64 x,.string ⟨#[]⟩,.slice none 0 0] 114)
         unfold OwnL at this
         rw[HLE.out]at this
         exact this
        go_wp2_with (at_builtin;refine wpList_append_own _ rfl (.tmp 102) (.tmp 108) 36 rfl w.heap.size 114 i0 _ 5 72 Tryz.underlying36 hi0 hz0 hz1 hz2 rfl (by decide) (.slice asl L csl) L (cellsL ms) rfl OLa.out ⟨W4.heap.size,0,none⟩ 1 1 [.string nm,.int .i64 2,.int .i64 x,.string ⟨#[]⟩,.slice none 0 0] rfl rfl (five_new _ _ _ _ _ _ _) (five_one rfl rfl rfl rfl rfl) (by unfold maxLen;omega) (by omega) (by simp;omega) ?_)
        intro v8 w8 hown8 hgrow8 _
        have L8:=hideK (LP.out.snoc (x:=letterA nm x) rfl HLE.out hown8)
        have G8:=hideK (game_append (GP.out.call ((Below.refl _ _).alloc (Nat.le_refl _) (.cells #[.string nm,.int .i64 2,.int .i64 x,.string ⟨#[]⟩,.slice none 0 0] 114))) (LP.out.call ((Below.refl _ _).alloc (Nat.le_refl _) (.cells #[.string nm,.int .i64 2,.int .i64 x,.string ⟨#[]⟩,.slice none 0 0] 114))) hgrow8)
        have NX:Hid (AskedG w gg z b r s y (some ⟨go,0,none⟩) i co va mo mr d (countN z b r) (j+1) v8 w8):=⟨_,_,G8.out,L8.out,by rw[HSN.out,HYX.out,snts_snoc,<-HOX.out,HFL.out]⟩
        clear hown8 hgrow8 OLa GP LP L8 G8 n0
        go_wp2_with fail
        go_roundw
        case rel=>exact⟨j+1,by go_num,by omega,NX.out⟩
        case measure=>simp[intOf];omega
     ·have hqb:(qa != 0)=true:=by simp[hq]
      have NX:=hideK (HSAME.out W2 D1.out (HNO.out (.inl (by omega))))
      clear HSAME HNO HNN HYE HRA HBD HPUT HOS HFF HC5 HFL HXV
      go_wp2_with fail
      go_roundw
      case rel=>exact⟨j+1,by go_num,by omega,NX.out⟩
      case measure=>simp[intOf];omega
    ·obtain rfl:j=i:=by omega
     have hltD:decide ((j:Int)<(j:Int))=false:=by simp
     have HTA:Hid ((Pe.oths mk,snts ms)=tickA (idxs mr) d (countN z b r) (Pe.oths mo) []):=by
      unfold Hid tickA
      rw[ST.out,HLM.out]
     have HCS:=hideK (fun W=>count_spec z b r W)
     unfold Ls.lV at HCS
     obtain⟨c0,c1,c2,_,_,_,_⟩:=cellsP7 (W:=wr) (g:=gg) (by have:=GK.out.blk;unfold gmB at this;exact this)
     go_wp2_with fail
     refine(HCS.out _).mono ?_
     rintro e w2 ⟨rfl,hb⟩
     have G2:=hideK (GK.out.call hb)
     have L2:=hideK (LK.out.call hb)
     clear hb HCS c0 c1 c2 GK LK e5k
     have HS1:Hid (0<countN z b r/\d%(countN z b r:Int)∈idxs mr->tickS (idxs mr) d (countN z b r) (Pe.oths mo) []=(Pe.oths mk,snts ms++tellL (Pe.oths mk) (d%(countN z b r:Int)))):=fun h=>by
      unfold tickS
      rw[<-HTA.out]
      unfold tickT
      rw[if_pos h]
     have HS0:Hid (¬(0<countN z b r/\d%(countN z b r:Int)∈idxs mr)->tickS (idxs mr) d (countN z b r) (Pe.oths mo) []=(Pe.oths mk,snts ms)):=fun h=>by
      unfold tickS
      rw[<-HTA.out]
      unfold tickT
      rw[if_neg h,List.append_nil]
     have e6:w2.cell? ⟨gg,6,none⟩=some va:=cell_of_row w2 gg 6 _ _ _ (by have:=G2.out.blk;unfold gmB at this;exact this)
     obtain⟨ar,cr,hva,_⟩:=G2.out.rrow.one
     subst hva
     generalize hce:countN z b r=c at hcn
     have HCE:=hideK hce
     clear hce
     by_cases hc0:0<c
     ·have hcI:(0:Int)<(c:Int):=by omega
      have hcD:decide ((0:Int)<(c:Int))=true:=by simp;omega
      have hcz:¬(c:Int)=0:=by omega
      have hcz':¬c=0:=by omega
      have hczb:((c:Int)==0)=false:=by simp;omega
      have htm:d.tmod (c:Int)=d%(c:Int):=Int.tmod_eq_emod_of_nonneg hd
      have hx0:0<=d%(c:Int):=Int.emod_nonneg _ hcz
      have hx1:d%(c:Int)<(c:Int):=Int.emod_lt_of_pos _ hcI
      have HS1':Hid (d%(c:Int)∈idxs mr->tickS (idxs mr) d (countN z b r) (Pe.oths mo) []=(Pe.oths mk,snts ms++tellL (Pe.oths mk) (d%(c:Int)))):=fun h=>by
       have:=HS1.out
       rw[HCE.out]at this ⊢
       exact this ⟨hc0,h⟩
      have HS0':Hid (¬d%(c:Int)∈idxs mr->tickS (idxs mr) d (countN z b r) (Pe.oths mo) []=(Pe.oths mk,snts ms)):=fun h=>by
       have:=HS0.out
       rw[HCE.out]at this ⊢
       exact this (fun h'=>h h'.2)
      obtain⟨vh,hvh,hvd⟩:=hasOut_fix mr (d%(c:Int))
      have HVH:=hideK hvh
      have HHS:=hideK (l08Has_any w.heap.size mr.length (d%(c:Int)) (.slice ar mr.length cr) mr w2.drew (G2.out.call ((Below.refl _ _).drew)).rrow rfl hr)
      clear HS1 HS0 hvh
      generalize d%(c:Int)=x at htm hx0 hx1 HS1' HS0' HVH HHS hvd
      go_upto_region 25 with fail
      refine Sh.still_tail 10 hmx (by kernel_rfl) ?_
      simp only[List.take_succ_cons,List.take_zero,List.drop_succ_cons,List.drop_zero]
      repeat still_step
      refine wpStill_nil ?_
      go_wp2_with fail
      refine HHS.out.mono ?_
      rintro e w3 ⟨hho,hw3⟩
      obtain rfl:=HVH.out e hho
      subst w3
      have G3:=hideK (G2.out.call ((Below.refl _ _).drew))
      have L3:=hideK (L2.out.call ((Below.refl _ _).drew))
      clear hho HHS HVH e6 G2 L2
      by_cases hm:x∈idxs mr
      ·rw[decide_eq_true hm]at hvd
       have hvI:(0:Int)<=vh:=by simpa using hvd
       have HE:=hideK (HS1'.out hm)
       have HTL:=hideK (tell_spec w w2.drew gg z b r s y ao j co (.slice ar mr.length cr) mk mr x G3.out HMK.out (by omega) (fun o ho=>(HGK.out o ho).s1))
       clear HS1' HS0'
       go_wp2_with fail
       refine HTL.out.mono ?_
       rintro e w4 ⟨vt,mt,rfl,hlt4,hst4,hb4⟩
       obtain⟨at4,ct4,hvt,hct,hna⟩:=hlt4.row.one
       generalize hmt:mt.length=M at hvt hct
       subst hvt
       have HMT:=hideK hmt
       have G4:=hideK (G3.out.call hb4)
       have L4:=hideK (L3.out.call hb4)
       have LT:=hideK hlt4
       have ST4:=hideK hst4
       have hz4:=hb4.size
       have hzg:=G3.out.low.size
       have HMB:Hid (M<=j):=by
        have h1:=congrArg List.length hst4
        rw[snts_length,hmt]at h1
        have h2:=tell_len mk j x (by rw[HMK.out];exact Nat.le_refl _)
        rw[List.take_of_length_le (by rw[HMK.out];exact Nat.le_refl _)]at h2
        unfold Hid
        omega
       have hMj:M<=j:=HMB.out
       have OL4:Hid (w4.ownsRow w.heap.size 114 5 (.slice asl L csl) L (cellsL ms)):=by
        have:=L4.out.row
        unfold OwnL at this
        rw[HLE.out]at this
        exact this
       have HNA:Hid (at4=none->M=0/\ct4=0):=fun h=>by have:=hna h;omega
       have HCL:Hid ((cellsL mt).length=M*5):=by unfold Hid;rw[cellsL_length,hmt]
       clear hlt4 hst4 hb4 hmt HTL
       go_wp2_with (at_builtin;refine wpList_append_opt _ rfl (.tmp 130) (.tmp 135) 36 rfl w.heap.size 114 i0 _ 5 72 Tryz.underlying36 hi0 hz0 hz1 hz2 rfl (by decide) (.slice asl L csl) L (cellsL ms) rfl OL4.out at4 M ct4 HNA.out (cellsL mt) rfl HCL.out (newsL LT.out.row) (cellsL_one mt fun q hq=>by rw[(LT.out.nl q hq).1];rfl) (by unfold maxLen;omega) (by omega) (by omega) ?_)
       intro v8 w8 hown8 hgrow8 _
       have L8:=hideK (lets_app L4.out.nl LT.out.nl HLE.out HMT.out hown8)
       have G8:=hideK (game_append G4.out L4.out hgrow8)
       have S8:Hid ((Pe.oths mk,snts (ms++mt))=tickS (idxs mr) d (countN z b r) (Pe.oths mo) []):=by
        unfold Hid
        rw[HE.out]
        unfold snts at ST4 ⊢
        rw[List.map_append,<-ST4.out]
       obtain⟨a8,c8,hv8,_,_⟩:=L8.out.row.one
       clear hown8 hgrow8 G4 L4 LT
       subst hv8
       go_wp2_with fail
       go_ret
       exact⟨_,_,mk,rfl,G8.out,L8.out,S8.out⟩
      ·rw[decide_eq_false hm]at hvd
       have hvI:¬(0:Int)<=vh:=by simpa using hvd
       have HE:=hideK (HS0'.out hm)
       clear HS1' HS0'
       go_wp2_with fail
       go_ret
       exact⟨_,ms,mk,rfl,G3.out,L3.out,HE.out.symm⟩
     ·have hcD:decide ((0:Int)<(c:Int))=false:=by simp;omega
      have hcI:¬(0:Int)<(c:Int):=by omega
      have HE:=hideK (HS0.out (fun h=>hc0 (by rw[<-HCE.out];exact h.1)))
      clear HS1 HS0 HTA ST e6
      go_upto_region 25 with fail
      refine wp_region_quiet_below hmx (by kernel_rfl) ?_
      repeat (go_big_quiet_step (fail))
      refine wpQuiet_nil ?_
      intro _ hw'
      obtain⟨⟨dq,osq⟩,hw''⟩:=hw'
      subst hw''
      have G3:=hideK (G2.out.call (below_regrown w2 dq osq))
      have L3:=hideK (L2.out.call (below_regrown w2 dq osq))
      generalize Go.Sort.grow (redrawn w2 dq) osq=w9 at G3 L3 ⊢
      go_wp2_with fail
      go_ret
      exact⟨_,ms,mk,rfl,G3.out,L3.out,HE.out.symm⟩
end Go.Proofs.YtpddanmnlkcdpaaGreatDoor.Tk

