/- Texts put together: PtTick, TkFine, TickLaw. -/
import Derived.Test.YtpddanmnlkcdpaaGreatDoorTz50
import Derived.Test.YtpddanmnlkcdpaaGreatDoorTz46
import Derived.Test.YtpddanmnlkcdpaaGreatDoorTz45
set_option maxRecDepth 100000
set_option maxHeartbeats 8000000
namespace Go.Proofs.YtpddanmnlkcdpaaGreatDoor.Tk
open Go.RowKit
open Kp
open Pe
open Pl
open In (Ints OwnI)
open Ls (lowL blk_alloc rightB countN countN_le)
theorem tick_spec (fit:Rec->Bool) (z b:Int) (r s:ByteArray) (y:Int) (a:Option Addr) (n cap:Nat) (m:List MO) (d:Int) (w:World) (hs:s.size<=1048576) (hf:rightB z b r=true->FitS fit z b r w) (h:Oths w w.heap.size a m) (hm:m.length=n) (hn:n<=1048576) (hsm:Small m) :
  Calls Tryz.prog 21 #[peerV z b r s y (.slice a n cap),.int .i64 d] w fun e w'=>OwnPO w' w.heap.size e (tickP fit z b r s y (oths m) d)/\Below w.heap.size w w':=by
 have C0:=hideK (((Cx.nil w).new (peerO z b r s y (.slice a n cap))).new (poO 0 0 ⟨#[]⟩ ⟨#[]⟩ 0 (.slice none 0 0) (.slice none 0 0) 0))
 simp only[World.size_alloc]at C0
 have HPR:=hideK (fun W (hW:Below w.heap.size w W)=>peerRight_spec fit z b r s y a n cap m W hs (fun hq=>(hf hq).later hW) ((h.below hW).mono hW.size) hm hn hsm)
 have HO:Hid (peerB fit z b r s y (oths m)=true->∀ W (hW:Below w.heap.size w W),Calls Tryz.prog 28 #[peerV z b r s y (.slice a n cap)] W fun e w'=>∃ gg ao co va mo mr,e=.returned (.pointer (some ⟨gg,0,none⟩))/\Game W w' gg z b r s y ao n co va mo mr/\oths mo=oths m/\recs mr=(allR fit s).1):=fun hP W hW=>open_spec fit z b r s y a n cap m W hs ((hf (peerB_right hP)).later hW) ((h.below hW).mono hW.size) hm hn hsm
 have HP:Hid (∀ p,tickP fit z b r s y (oths m) d=p->∀ W e,OwnPO W w.heap.size e p->OwnPO W w.heap.size e (tickP fit z b r s y (oths m) d)):=fun p hp W e h=>by rw[hp];exact h
 have HB1:Hid (peerB fit z b r s y (oths m)=false∨¬(0<=d/\d<=1000000)->tickP fit z b r s y (oths m) d=ill 1):=fun h1=>by
  unfold tickP
  rw[if_pos]
  rcases h1 with h1|h1
  ·rw[h1];rfl
  ·rw[decide_eq_false h1,Bool.and_false]
 have HB0:Hid (peerB fit z b r s y (oths m)=true->0<=d/\d<=1000000->tickP fit z b r s y (oths m) d=⟨z,b,r,s,y,(tickS ((allR fit s).1.map (·.1)) d (countN z b r) (oths m) []).1,(tickS ((allR fit s).1.map (·.1)) d (countN z b r) (oths m) []).2,0⟩):=fun h1 h2=>by
  unfold tickP
  rw[if_neg (by rw[h1,decide_eq_true h2];decide)]
 have HRL:Hid ((allR fit s).1.length<=1048576):=rec_len fit s hs
 have HMN:=hideK hm
 have HSM:=hideK hsm
 clear hf h hsm hm
 unfold peerV at HO HPR ⊢
 unfold peerO poO at C0
 go_enter Tryz.func21,Tryz.ntmps21
 go_upto_region 1 with fail
 generalize hgk:w.heap.size=gk at C0 ⊢
 have HGK:=hideK hgk
 clear hgk
 generalize (w.alloc _).alloc _=W0 at C0 ⊢
 obtain⟨p0,p1,p2,p3,p4,p5⟩:=cellsP6 (C0.out.get 1 rfl)
 go_wp2_with fail
 refine(HPR.out _ C0.out.low).mono ?_
 rintro e w1 ⟨rfl,hb⟩
 have C1:=hideK (C0.out.call hb)
 clear hb C0 HPR p0 p1 p2 p3 p4 p5
 cases hP:peerB fit z b r s y (oths m) with
 |false =>
  have HR:=hideK (HP.out _ (HB1.out (.inl hP)))
  clear HP HO HB1 HB0 HRL HMN HSM hP
  have HIL:=hideK (fun W=>ill_spec 1 W)
  unfold poV at HIL
  go_wp2_with fail
  refine(HIL.out _).mono ?_
  rintro e wI ⟨rfl,hb⟩
  have CI:=hideK (C1.out.call hb)
  clear hb C1 HIL
  obtain⟨q0,q1,q2,q3,q4,q5,q6,q7⟩:=cellsP8 (CI.out.get 0 rfl)
  have ff:=fun o=>frozen_of_row wI (gk+1) o _ _ (CI.out.get 0 rfl)
  have s8:=cellsP8 (setP8 (CI.out.get 0 rfl) (.int .i64 0) (.int .i64 0) (.string ⟨#[]⟩) (.string ⟨#[]⟩) (.int .i64 0) (.slice none 0 0) (.slice none 0 0) (.int .i64 1))
  have E8:=hideK (setP8_low CI.out.low (g:=gk+1) (by have:=HGK.out;omega) (.int .i64 0) (.int .i64 0) (.string ⟨#[]⟩) (.string ⟨#[]⟩) (.int .i64 0) (.slice none 0 0) (.slice none 0 0) (.int .i64 1))
  go_wp2_with fail
  exact bodyPost_ret (v:=.agg #[.int .i64 0,.int .i64 0,.string ⟨#[]⟩,.string ⟨#[]⟩,.int .i64 0,.slice none 0 0,.slice none 0 0,.int .i64 1]) (by simp[results,Tryz.results21,go_sem,s8.1,s8.2.1,s8.2.2.1,s8.2.2.2.1,s8.2.2.2.2.1,s8.2.2.2.2.2.1,s8.2.2.2.2.2.2.1,s8.2.2.2.2.2.2.2]) rfl ⟨HR.out _ _ (own_ill _ _ 1),E8.out⟩
 |true =>
  by_cases hd:0<=d/\d<=1000000
  ·have HIS:=hideK (fun W=>Bi.is_yes d 0 1000000 W hd.1 hd.2)
   have HR:=hideK (HP.out _ (HB0.out hP hd))
   have HOP:=hideK (HO.out hP)
   obtain⟨hl4,hothr⟩:=peer_oths hP
   have h4:n<=4:=by rw[oths_length,HMN.out]at hl4;exact hl4
   have HOT:=hideK hothr
   have hd1:=hd.1
   have hd2:d<=1048576:=by omega
   clear HP HO HB1 HB0 hP hl4 hothr hd
   go_wp2_with fail
   refine(HIS.out _).mono ?_
   rintro e w2 ⟨rfl,hw⟩
   subst w2
   clear HIS
   obtain⟨p0,p1,p2,p3,p4,p5⟩:=cellsP6 (C1.out.get 1 rfl)
   go_wp2_with fail
   refine(HOP.out _ C1.out.low).mono ?_
   rintro e w2 ⟨gg,ao,co,va,mo,mr,rfl,hgm,hos,hrs⟩
   have CK:=hideK (C1.out)
   have HMO:Hid (mo.length=n):=by unfold Hid;rw[<-oths_length,hos,oths_length,HMN.out]
   have hz1:=C1.out.low.size
   have HIX:Hid (idxs mr=(allR fit s).1.map (·.1)):=by
    unfold Hid
    rw[<-hrs]
    unfold idxs recs
    rw[List.map_map]
    rfl
   have HTK:=hideK (tickG_spec w1 w2 gg z b r s y ao n co va mo mr hgm HMO.out h4 (by have:=congrArg List.length hrs;unfold recs at this;rw[List.length_map]at this;have:=HRL.out;omega) (by have:=countN_le z b r;omega) (countN z b r:Nat) (fun o ho=>by
    rw[hos]at ho
    obtain⟨q,hq,rfl⟩:=List.mem_map.1 ho
    exact good_of (HOT.out _ (List.mem_map_of_mem hq)) (HSM.out q hq).1) d hd1 hd2)
   rw[hos,HIX.out]at HTK
   clear hgm hos hrs C1 HOP HIX HRL HOT p0 p1 p2 p3 p4 p5
   go_wp2_with fail
   refine HTK.out.mono ?_
   rintro e w3 ⟨vs,ms,mo3,rfl,hgm3,hlt,hst⟩
   have C3:=hideK (CK.out.call hgm3.low)
   obtain⟨as3,cs3,hvs,_,_⟩:=hlt.row.one
   generalize hnl3:ms.length=ns3 at hvs
   subst hvs
   have PI:Hid (PoIn w3 w.heap.size (.slice ao n co) (.slice as3 ns3 cs3) mo3 ms):=(hgm3.poIn hlt.row hlt.nl).mono hz1
   have ST3:=hideK hst
   have hb3:=hgm3.blk
   unfold gmB at hb3
   obtain⟨r0,r1,r2,r3,r4,r5,r6⟩:=cellsP7 hb3
   clear hgm3 hlt hst CK HTK hb3 hnl3
   obtain⟨q0,q1,q2,q3,q4,q5,q6,q7⟩:=cellsP8 (C3.out.get 0 rfl)
   have ff:=fun o=>frozen_of_row w3 (gk+1) o _ _ (C3.out.get 0 rfl)
   have s8:=cellsP8 (setP8 (C3.out.get 0 rfl) (.int .i64 z) (.int .i64 b) (.string r) (.string s) (.int .i64 y) (.slice ao n co) (.slice as3 ns3 cs3) (.int .i64 0))
   have E8:=hideK (setP8_low C3.out.low (g:=gk+1) (by have:=HGK.out;omega) (.int .i64 z) (.int .i64 b) (.string r) (.string s) (.int .i64 y) (.slice ao n co) (.slice as3 ns3 cs3) (.int .i64 0))
   have P8:=hideK (poIn_others PI.out (C3.out.get 0 rfl) (fun k o hk hne=>setP8_keep (g:=gk+1) hk hne (.int .i64 z) (.int .i64 b) (.string r) (.string s) (.int .i64 y) (.slice ao n co) (.slice as3 ns3 cs3) (.int .i64 0)))
   go_wp2_with fail
   exact bodyPost_ret (v:=.agg #[.int .i64 z,.int .i64 b,.string r,.string s,.int .i64 y,.slice ao n co,.slice as3 ns3 cs3,.int .i64 0]) (by simp[results,Tryz.results21,go_sem,s8.1,s8.2.1,s8.2.2.1,s8.2.2.2.1,s8.2.2.2.2.1,s8.2.2.2.2.2.1,s8.2.2.2.2.2.2.1,s8.2.2.2.2.2.2.2]) rfl ⟨HR.out _ _ ⟨_,_,mo3,ms,rfl,congrArg Prod.fst ST3.out,congrArg Prod.snd ST3.out,P8.out⟩,E8.out⟩
  ·have HIS:=hideK (fun W=>Bi.is_no d 0 1000000 W (by omega))
   have HR:=hideK (HP.out _ (HB1.out (.inr hd)))
   clear HP HO HB1 HB0 HRL HMN HSM hP hd
   go_wp2_with fail
   refine(HIS.out _).mono ?_
   rintro e w2 ⟨rfl,hw⟩
   subst w2
   clear HIS
   have HIL:=hideK (fun W=>ill_spec 1 W)
   unfold poV at HIL
   go_wp2_with fail
   refine(HIL.out _).mono ?_
   rintro e wI ⟨rfl,hb⟩
   have CI:=hideK (C1.out.call hb)
   clear hb C1 HIL
   obtain⟨q0,q1,q2,q3,q4,q5,q6,q7⟩:=cellsP8 (CI.out.get 0 rfl)
   have ff:=fun o=>frozen_of_row wI (gk+1) o _ _ (CI.out.get 0 rfl)
   have s8:=cellsP8 (setP8 (CI.out.get 0 rfl) (.int .i64 0) (.int .i64 0) (.string ⟨#[]⟩) (.string ⟨#[]⟩) (.int .i64 0) (.slice none 0 0) (.slice none 0 0) (.int .i64 1))
   have E8:=hideK (setP8_low CI.out.low (g:=gk+1) (by have:=HGK.out;omega) (.int .i64 0) (.int .i64 0) (.string ⟨#[]⟩) (.string ⟨#[]⟩) (.int .i64 0) (.slice none 0 0) (.slice none 0 0) (.int .i64 1))
   go_wp2_with fail
   exact bodyPost_ret (v:=.agg #[.int .i64 0,.int .i64 0,.string ⟨#[]⟩,.string ⟨#[]⟩,.int .i64 0,.slice none 0 0,.slice none 0 0,.int .i64 1]) (by simp[results,Tryz.results21,go_sem,s8.1,s8.2.1,s8.2.2.1,s8.2.2.2.1,s8.2.2.2.2.1,s8.2.2.2.2.2.1,s8.2.2.2.2.2.2.1,s8.2.2.2.2.2.2.2]) rfl ⟨HR.out _ _ (own_ill _ _ 1),E8.out⟩
end Go.Proofs.YtpddanmnlkcdpaaGreatDoor.Tk


/- What a tick hands back is small. -/
namespace Go.Proofs.YtpddanmnlkcdpaaGreatDoor.Tk
open Go.RowKit
open Kp
open Pe
open Pl
def Like (l:List Oth) (o:Oth):Prop:=∃ o'∈l,o.has=o'.has/\o.name=o'.name
theorem askS_like {rs:List Int} {d:Int} {c:Nat} {l:List Oth} {st:List Oth × List Snt} {j:Nat} (h:(∀ o∈st.1,Like l o)/\∀ x∈st.2,x.path=[]):(∀ o∈(askS rs d c st j).1,Like l o)/\∀ x∈(askS rs d c st j).2,x.path=[]:=by
 obtain⟨k,p⟩:=st
 by_cases hj:j<k.length
 ·by_cases h0:0<k[j].asked∨k[j].strikes=3
  ·rw[askS_no hj h0];exact h
  ·cases hz:rareZ k[j].has k rs d c c with
   |none=>rw[askS_none hj hz];exact h
   |some y =>
    rw[askS_some hj h0 hz]
    refine⟨fun o ho=>?_,fun x hx=>?_⟩
    ·rcases List.mem_or_eq_of_mem_set ho with ho|rfl
     ·exact h.1 o ho
     ·obtain⟨o',ho',e1,e2⟩:=h.1 k[j] (List.getElem_mem hj)
      exact⟨o',ho',e1,e2⟩
    ·rcases List.mem_append.1 hx with hx|hx
     ·exact h.2 x hx
     ·rw[List.mem_singleton.1 hx]
      rfl
 ·have:askS rs d c (k,p) j=(k,p):=by
   unfold askS
   dsimp only
   rw[List.getElem?_eq_none (by omega)]
  rw[this]
  exact h
theorem allS_like {rs:List Int} {d:Int} {c:Nat} {l:List Oth}:∀ (xs:List Int) {st:List Oth × List Snt},((∀ o∈st.1,Like l o)/\∀ x∈st.2,x.path=[])->(∀ o∈(allS rs d c xs st).1,Like l o)/\∀ x∈(allS rs d c xs st).2,x.path=[]
 |[],_,h=>h
 |_ :: xs,_,h=>allS_like xs (askS_like h)
theorem old_like (o:Oth):(oldO o).has=o.has/\(oldO o).name=o.name:=by
 unfold oldO
 split
 ·exact⟨rfl,rfl⟩
 ·split
  ·exact⟨rfl,rfl⟩
  ·exact⟨rfl,rfl⟩
theorem fineT (fit:Rec->Bool) (z b:Int) (r s:ByteArray) (y:Int) (m:List MO) (d:Int) (hsm:Small m):Fine (tickP fit z b r s y (oths m) d):=by
 unfold tickP
 split
 ·exact⟨by show 0<=1024;omega,fun o ho=>absurd ho List.not_mem_nil,by show 0<=1048576;omega,fun o ho=>absurd ho List.not_mem_nil⟩
 ·rename_i hP
  have hP':peerB fit z b r s y (oths m)=true:=by
   cases h:peerB fit z b r s y (oths m) with
   |true=>rfl
   |false=>rw[h]at hP;exact absurd rfl hP
  have hle:=(peer_oths hP').1
  generalize ((allR fit s).1.map (·.1))=rs
  generalize Ls.countN z b r=c
  have hl:=allS_len rs d c (turnL d (oths m).length (oths m).length) ((oths m).map oldO,[])
  have hk:=allS_like (rs:=rs) (d:=d) (c:=c) (l:=oths m) (turnL d (oths m).length (oths m).length) (st:=((oths m).map oldO,[])) ⟨fun o ho=>by
   obtain⟨o',ho',rfl⟩:=List.mem_map.1 ho
   exact⟨o',ho',(old_like o').1,(old_like o').2⟩,fun x hx=>absurd hx List.not_mem_nil⟩
  rw[turnL_len]at hl
  dsimp only at hl
  rw[List.length_map,List.length_nil]at hl
  have htl:(tickT rs d c (tickA rs d c (oths m) []).1).length<=(oths m).length:=by
   unfold tickT
   split
   ·unfold tellL
    rw[List.length_map]
    exact Nat.le_trans (List.length_filter_le _ _) (Nat.le_of_eq hl.1)
   ·exact Nat.zero_le _
  refine⟨?_,fun o ho=>?_,?_,fun x hx=>?_⟩
  ·show (tickA rs d c (oths m) []).1.length<=1024
   have:(tickA rs d c (oths m) []).1.length=(oths m).length:=hl.1
   omega
  ·obtain⟨o',ho',e1,e2⟩:=hk.1 o ho
   obtain⟨q,hq,rfl⟩:=List.mem_map.1 ho'
   rw[e1,e2]
   exact hsm q hq
  ·show ((tickA rs d c (oths m) []).2++tickT rs d c (tickA rs d c (oths m) []).1).length<=1048576
   rw[List.length_append]
   have:(tickA rs d c (oths m) []).2.length<=0+(oths m).length:=hl.2
   omega
  ·have hx':x∈(tickA rs d c (oths m) []).2++tickT rs d c (tickA rs d c (oths m) []).1:=hx
   have:x.path=[]:=by
    rcases List.mem_append.1 hx' with hx'|hx'
    ·exact hk.2 x hx'
    ·unfold tickT at hx'
     split at hx'
     ·unfold tellL at hx'
      obtain⟨o,_,rfl⟩:=List.mem_map.1 hx'
      rfl
     ·exact absurd hx' List.not_mem_nil
   rw[this]
   exact Nat.zero_le _
end Go.Proofs.YtpddanmnlkcdpaaGreatDoor.Tk


namespace Go.Proofs.YtpddanmnlkcdpaaGreatDoor.fnExactTick
open Go.RowKit
open Kp
open Pe
open Pl
open Tk (tick_impl tick_spec tickP fineT)
open Ls (HH hh_keep lV rightB vars_keepF lowL)
open Sh (Vars)
theorem fine (fit:Rec->Bool) (z b:Int) (r s:ByteArray) (y:Int) (m:List MO) (dr:Int) (_:s.size<=1048576) (hsm:Small m):Fine (tickP fit z b r s y (oths m) dr):=fineT fit z b r s y m dr hsm
theorem p_impl (z b:Int) (r s:ByteArray) (y:Int) (n:Nat) (m:List MO) (dr:Int) (hs:s.size<=1048576) (hn:n<=1048576) (hsm:Small m) (W:World) (hh:HH W) (hV:Vars W) (a':Option Addr) (cap':Nat) (mo:List MO) (h1:Oths W W.heap.size a' mo) (h2:mo.length=n) (h3:oths mo=oths m) :
  Calls Tryz.prog 22 #[peerV z b r s y (.slice a' n cap'),.int .i64 dr] W fun e w'=>OwnPN w' W.heap.size e (tickP (fitR z b r) z b r s y (oths m) dr)/\Below W.heap.size W w':=by
 have:=tick_impl (fitR z b r) z b r s y a' n cap' mo dr W hs hh (fitC_of z b r W hV) h1 h2 hn (small_of h3 hsm)
 rw[h3]at this
 exact this
theorem p_spec (z b:Int) (r s:ByteArray) (y:Int) (n:Nat) (m:List MO) (dr:Int) (hs:s.size<=1048576) (hn:n<=1048576) (hsm:Small m) (W:World) (a':Option Addr) (cap':Nat) (mo:List MO) (h1:Oths W W.heap.size a' mo) (h2:mo.length=n) (h3:oths mo=oths m) :
  Calls Tryz.prog 21 #[peerV z b r s y (.slice a' n cap'),.int .i64 dr] W fun e w'=>OwnPO w' W.heap.size e (tickP (fitR z b r) z b r s y (oths m) dr)/\Below W.heap.size W w':=by
 have:=tick_spec (fitR z b r) z b r s y a' n cap' mo dr W hs (fun hq=>fitS_of z b r W hq) h1 h2 hn (small_of h3 hsm)
 rw[h3]at this
 exact this
theorem walk (z b:Int) (r s:ByteArray) (y:Int) (a:Option Addr) (n cap:Nat) (m:List MO) (hr:r.size<=maxLen) (hs:s.size<=maxLen) (hm:m.length=n) (hn:n<=maxLen) (hl:Lens m) (dr:Int) (w:World) (hos:Oths w w.heap.size a m) (hh:HH w) (hV:Vars w) :
  Calls Tryz.prog 5 #[lpV z b r s y (.slice a n cap),.int .i64 dr] w fun e w'=>e=.returned (.bool true)/\Below w.heap.size w w':=by
 have C0:=hideK ((Cx.nil w).new (lpO z b r s y (.slice a n cap)))
 unfold lpO at C0
 have HZ:=hideK (fun W (hW:Below w.heap.size w W)=>szP_any z b r s y a n cap m W ((hos.below hW).mono hW.size) hm hr hs hn hl)
 by_cases h:r.size+s.size+(n+tot (oths m))<=1048576
 ·have hsm:Small m:=small_lens (K:=r.size+s.size+n) (by omega) hl
  rw[szV_yes (by omega)]at HZ
  have h1:¬(1048576-((r.size+s.size+(n+tot (oths m)):Nat):Int))<0:=by omega
  have HT:=hideK (fun W (hW:Below w.heap.size w W)=>toP_any z b r s y a n cap m W ((hos.below hW).mono hW.size) hm (by omega) hsm)
  have HS:=hideK (fun W=>p_spec z b r s y n m dr  (by omega) (by omega) hsm W)
  have HI:=hideK (fun W (hW:Below w.heap.size w W)=>p_impl z b r s y n m dr  (by omega) (by omega) hsm W (hh_keep hh hW) (vars_keepF hV hW))
  have HF:=hideK (fine (fitR z b r) z b r s y m dr (by omega) hsm )
  have HQ:Hid (∀ W (a' a'':Option Addr) (c' c'':Nat) (m' m'':List MO),Oths W W.heap.size a' m'->Oths W W.heap.size a'' m''->oths m'=oths m->oths m''=oths m->m'.length=n->Calls Tryz.prog 11 #[peerV z b r s y (.slice a' n c'),peerV z b r s y (.slice a'' n c'')] W fun e w'=>e=.returned (.bool true)/\Below W.heap.size W w'):=fun W a' a'' c' c'' m' m'' h1 h2 h3 h4 h5=>eqP_any z b r s y a' a'' n c' c'' m' m'' W h1 h2 (h3.trans h4.symm) h5 (by omega) (small_of h3 hsm)
  have HMP:Hid (∀ W lo hi (v:Value) (m':List MO),RowM W lo hi v m'->oths m'=oths m->∃ K:Nat,Calls Tryz.prog 12 #[peerV z b r s y v,.int .i64 1] W fun e w'=>e=.returned (.int .i64 (K:Int))/\Chg lo hi W w'):=fun W lo hi v m' hr hq=>by
   have hln:m'.length=n:=by rw[<-oths_length,hq,oths_length,hm]
   have hbd:=mkE_bd (oths m) 1
   rw[oths_length,hm]at hbd
   have hmk:=markP_any z b r s y 1 lo hi v m' W hr (by omega) (fun x hx=>(small_of hq hsm x hx).1) (by omega) (by rw[hq];omega)
   refine⟨mkE 1 (oths m'),Calls.mono (R':=fun e w'=>e=.returned (.int .i64 (mkE 1 (oths m'):Nat))/\Chg lo hi W w') hmk ?_⟩
   rintro e w' ⟨rfl,_,hc,_⟩
   exact⟨rfl,hc⟩
  generalize tickP (fitR z b r) z b r s y (oths m) dr=p at HI HS HF
  generalize r.size+s.size+(n+tot (oths m))=K at HZ h1
  have HEQ:=hideK (fun (W:World) (lo hi lo' hi':Nat) (vo vs vo' vs':Value) (h1:Ans W lo hi vo vs p) (h2:Ans W lo' hi' vo' vs' p)=>eqA h1 h2 HF.out)
  have HMA:=hideK (fun (W:World) (lo hi:Nat) (vo vs:Value) (h1:AnsN W lo hi vo vs p)=>markA h1 HF.out)
  have HHA:=hideK (fun (W:World) (lo hi:Nat) (vo vs:Value) (h1:AnsM W lo hi vo vs p)=>heldA h1 HF.out)
  have HOA:=hideK (fun (W:World) (base:Nat) (e:Ending) (h1:OwnPO W base e p)=>own_ans h1)
  have HON:=hideK (fun (W:World) (base:Nat) (e:Ending) (h1:OwnPN W base e p)=>own_ansN h1)
  have HSH:=hideK (fun (W:World) (lo hi:Nat) (vo vs:Value) (h1:Ans W lo hi vo vs p)=>h1.shape)
  generalize hKK:ansK p=KK at HMA HHA
  have hK0:¬(KK:Int)<0:=by omega
  have hK1:decide ((KK:Int)<0)=false:=by simp
  have hK2:((KK:Int) != (KK:Int))=false:=by simp
  clear hKK hos hsm hl
  generalize p.z=pz at HEQ HMA HHA HOA HON
  generalize p.b=pb at HEQ HMA HHA HOA HON
  generalize p.r=pr at HEQ HMA HHA HOA HON
  generalize p.s=ps at HEQ HMA HHA HOA HON
  generalize p.y=py at HEQ HMA HHA HOA HON
  generalize p.c=pc at HEQ HMA HHA HOA HON
  generalize p.os.length=no at HSH
  generalize p.ss.length=ns at HSH
  unfold lpV at HZ HT ⊢
  unfold peerV at HT HS HI HQ HMP
  unfold poV at HEQ HMA HHA HOA HON
  go_enter Tryz.func5,Tryz.ntmps5
  go_wp2_with fail
  generalize w.alloc _=wa at C0 ⊢
  refine(HZ.out _ C0.out.low).mono ?_
  rintro e w1 ⟨rfl,hb⟩
  have C1:=hideK (C0.out.call hb)
  clear hb C0 HZ
  obtain⟨c0,c1,c2,c3,c4,c5⟩:=cellsP6 (C1.out.get 0 rfl)
  go_wp2_with fail
  refine(HT.out _ C1.out.low).mono ?_
  rintro e w2 ⟨g2,m2,rfl,hmo,hb⟩
  obtain⟨ho2,hl2⟩:=hmo.oths
  have HS2:=hideK (HS.out w2 (some ⟨g2,0,none⟩) n m2 ho2 hl2 hmo.os)
  have C2:=hideK (C1.out.call hb)
  clear hb C1 c0 c1 c2 c3 c4 c5 hmo ho2 hl2
  go_wp2_with fail
  refine(HS2.out).mono ?_
  rintro e w3 ⟨hop,hb⟩
  obtain⟨vo3,vs3,rfl,ha3⟩:=HOA.out _ _ _ hop
  obtain⟨ao3,co3,as3,cs3,hvo3,hvs3⟩:=HSH.out _ _ _ _ _ ha3
  subst hvo3 hvs3
  have z2:=lt_rowK (C2.out.get 0 rfl)
  have z3:=hb.size
  have C3:=hideK ((C2.out.call hb).new (.cells #[.int .i64 pz,.int .i64 pb,.string pr,.string ps,.int .i64 py,.slice ao3 no co3,.slice as3 ns cs3,.int .i64 pc] 38))
  have A3:=hideK (ha3.call ((Below.refl _ _).alloc (Nat.le_refl _) (.cells #[.int .i64 pz,.int .i64 pb,.string pr,.string ps,.int .i64 py,.slice ao3 no co3,.slice as3 ns cs3,.int .i64 pc] 38)))
  clear hb C2 HS HS2 hop ha3 HOA
  go_upto_region 6 with fail
  have z4:w3.heap.size<(w3.alloc (.cells #[.int .i64 pz,.int .i64 pb,.string pr,.string ps,.int .i64 py,.slice ao3 no co3,.slice as3 ns cs3,.int .i64 pc] 38)).heap.size:=lt_rowK (C3.out.get 0 rfl)
  generalize w3.alloc _=W3 at C3 A3 z4 ⊢
  obtain⟨c0,c1,c2,c3,c4,c5⟩:=cellsP6 (C3.out.get 1 rfl)
  go_wp2_with fail
  refine(HT.out _ C3.out.low).mono ?_
  rintro e w4 ⟨g4,m4,rfl,hmo,hb⟩
  have z5:=hb.size
  have R4:=hideK (hmo.rowM)
  have M4:=hideK (hmo.call ((Below.refl _ _).alloc (Nat.le_refl _) (.cells #[.int .i64 z,.int .i64 b,.string r,.string s,.int .i64 y,.slice (some ⟨g4,0,none⟩) n n] 35)))
  have A4:=hideK ((A3.out.call hb).call ((Below.refl _ _).alloc (Nat.le_refl _) (.cells #[.int .i64 z,.int .i64 b,.string r,.string s,.int .i64 y,.slice (some ⟨g4,0,none⟩) n n] 35)))
  have C4:=hideK ((C3.out.call hb).new (.cells #[.int .i64 z,.int .i64 b,.string r,.string s,.int .i64 y,.slice (some ⟨g4,0,none⟩) n n] 35))
  have R5:=hideK (R4.out.call ((Below.refl _ _).alloc (Nat.le_refl _) (.cells #[.int .i64 z,.int .i64 b,.string r,.string s,.int .i64 y,.slice (some ⟨g4,0,none⟩) n n] 35)))
  clear hb C3 c0 c1 c2 c3 c4 c5 hmo R4 A3
  go_upto_region 7 with fail
  have z6:w4.heap.size<(w4.alloc (.cells #[.int .i64 z,.int .i64 b,.string r,.string s,.int .i64 y,.slice (some ⟨g4,0,none⟩) n n] 35)).heap.size:=lt_rowK (C4.out.get 0 rfl)
  generalize w4.alloc _=W4 at C4 M4 R5 A4 z6 ⊢
  obtain⟨ho4,hl4⟩:=M4.out.oths
  have HI4:=hideK (HI.out W4 C4.out.low (some ⟨g4,0,none⟩) n m4 ho4 hl4 M4.out.os)
  clear ho4 hl4
  obtain⟨d0,d1,d2,d3,d4,d5⟩:=cellsP6 (C4.out.get 0 rfl)
  go_wp2_with fail
  refine(HI4.out).mono ?_
  rintro e w5 ⟨hop,hb⟩
  obtain⟨vo5,vs5,rfl,ha5⟩:=HON.out _ _ _ hop
  obtain⟨ao5,co5,as5,cs5,hvo5,hvs5⟩:=HSH.out _ _ _ _ _ ha5.ans
  subst hvo5 hvs5
  have z7:=hb.size
  have BN5:Hid (Below w5.heap.size w5 (w5.alloc (.cells #[.int .i64 pz,.int .i64 pb,.string pr,.string ps,.int .i64 py,.slice ao5 no co5,.slice as5 ns cs5,.int .i64 pc] 38))):=(Below.refl _ _).alloc (Nat.le_refl _) _
  have C5:=hideK ((C4.out.call hb).new (.cells #[.int .i64 pz,.int .i64 pb,.string pr,.string ps,.int .i64 py,.slice ao5 no co5,.slice as5 ns cs5,.int .i64 pc] 38))
  have M5:=hideK ((M4.out.call hb).call BN5.out)
  have R6:=hideK ((R5.out.call hb).call BN5.out)
  have A5:=hideK ((A4.out.call hb).call BN5.out)
  have N5:=hideK (ha5.call BN5.out)
  clear hb C4 M4 HI4 d0 d1 d2 d3 d4 d5 hop ha5 R5 A4 BN5
  go_upto_region 8 with fail
  have z8:w5.heap.size<(w5.alloc (.cells #[.int .i64 pz,.int .i64 pb,.string pr,.string ps,.int .i64 py,.slice ao5 no co5,.slice as5 ns cs5,.int .i64 pc] 38)).heap.size:=lt_rowK (C5.out.get 0 rfl)
  generalize w5.alloc _=W5 at C5 M5 R6 A5 N5 z8 ⊢
  obtain⟨q0,q1,q2,q3,q4,q5,q6,q7⟩:=cellsP8 (C5.out.get 0 rfl)
  obtain⟨r0,r1,r2,r3,r4,r5,r6,r7⟩:=cellsP8 (C5.out.get 2 rfl)
  have HE5:=hideK (HEQ.out W5 _ _ _ _ _ _ _ _ N5.out.ans A5.out)
  go_wp2_with fail
  refine HE5.out.mono ?_
  rintro e w6 ⟨rfl,hb⟩
  have C6:=hideK (C5.out.call hb)
  have M6:=hideK (M5.out.call hb)
  have R7:=hideK (R6.out.call hb)
  have A6:=hideK (A5.out.call hb)
  have N6:=hideK (N5.out.call hb)
  have z9:=hb.size
  clear hb C5 M5 R6 A5 N5 HE5 q0 q1 q2 q3 q4 q5 q6 q7 r0 r1 r2 r3 r4 r5 r6 r7
  obtain⟨d0,d1,d2,d3,d4,d5⟩:=cellsP6 (C6.out.get 1 rfl)
  obtain⟨c0,c1,c2,c3,c4,c5⟩:=cellsP6 (C6.out.get 3 rfl)
  go_upto_region 10 with fail
  go_cut [35] from 31 to 34 (fun s38 wx=>s38=.bool false/\Below w6.heap.size w6 wx)
  case first =>
   go_region_with ((first|(go_at_call 8;refine(HT.out _ (C6.out.low.drew)).mono ?_;rintro e w7 ⟨g7,m7,rfl,hmo,hb⟩;have M7:=hideK hmo;have C7:=hideK (C6.out.drew.call hb);have B7:=hideK (lowL ((Below.refl w6.heap.size w6).drew) hb);have MM7:=hideK ((M6.out.call ((Below.refl _ w6).drew)).call hb);clear hb hmo;obtain⟨f0,f1,f2,f3,f4,f5⟩:=cellsP6 (C7.out.get 1 rfl))|(go_at_call 11;refine(HQ.out _ _ _ _ _ _ _ MM7.out.oths.1 M7.out.oths.1 MM7.out.os M7.out.os MM7.out.oths.2).mono ?_;rintro e w8 ⟨rfl,hb⟩;have B8:=hideK (lowL B7.out hb);clear hb)))
   all_goals (try go_wp2_with fail)
   all_goals go_meet
   all_goals exact⟨rfl,B8.out⟩
  case rest =>
   obtain⟨rfl,hbx⟩:=hcut
   have C8:=hideK (C6.out.call hbx)
   have R8:=hideK (R7.out.call hbx)
   have A8:=hideK (A6.out.call hbx)
   have N8:=hideK (N6.out.call hbx)
   have z10:=hbx.size
   clear hbx C6 R7 A6 N6 d0 d1 d2 d3 d4 d5 c0 c1 c2 c3 c4 c5
   obtain⟨d0,d1,d2,d3,d4,d5⟩:=cellsP6 (C8.out.get 1 rfl)
   obtain⟨KM,hKM⟩:=HMP.out wc _ _ _ _ R8.out M6.out.os
   have HKM:=hideK hKM
   clear hKM HMP
   have hk1:¬(KM:Int)<0:=by omega
   have hk2:decide ((KM:Int)<0)=false:=by simp
   go_wp2_with fail
   refine HKM.out.mono ?_
   rintro e w9 ⟨rfl,hc9⟩
   have A9:=hideK (A8.out.chg hc9 (by omega))
   have N9:=hideK (N8.out.chg hc9 (by omega))
   have C9:=hideK (cx_chgL C8.out hc9 (by have:=C8.out.low.size;omega) (fun x hx=>by
    simp only[List.mem_cons,List.not_mem_nil,or_false]at hx
    rcases hx with rfl|rfl|rfl|rfl<;>dsimp only<;>omega))
   have z11:=hc9.size
   clear hc9 C8 A8 N8 R8 d0 d1 d2 d3 d4 d5
   obtain⟨q0,q1,q2,q3,q4,q5,q6,q7⟩:=cellsP8 (C9.out.get 0 rfl)
   obtain⟨r0,r1,r2,r3,r4,r5,r6,r7⟩:=cellsP8 (C9.out.get 2 rfl)
   have HE9:=hideK (HEQ.out w9 _ _ _ _ _ _ _ _ N9.out.ans A9.out)
   go_wp2_with fail
   refine HE9.out.mono ?_
   rintro e w10 ⟨rfl,hb⟩
   have C10:=hideK (C9.out.call hb)
   have A10:=hideK (A9.out.call hb)
   have N10:=hideK (N9.out.call hb)
   have z12:=hb.size
   clear hb C9 A9 N9 HE9 q0 q1 q2 q3 q4 q5 q6 q7 r0 r1 r2 r3 r4 r5 r6 r7
   obtain⟨q0,q1,q2,q3,q4,q5,q6,q7⟩:=cellsP8 (C10.out.get 0 rfl)
   have HM10:=hideK (HMA.out w10 _ _ _ _ N10.out)
   go_wp2_with fail
   refine HM10.out.mono ?_
   rintro e w11 ⟨rfl,hmk,hc11⟩
   have A11:=hideK (A10.out.chg hc11 (by omega))
   have K11:=hideK hmk
   have C11:=hideK (cx_chgL C10.out hc11 (by have:=C10.out.low.size;omega) (fun x hx=>by
    simp only[List.mem_cons,List.not_mem_nil,or_false]at hx
    rcases hx with rfl|rfl|rfl|rfl<;>dsimp only<;>omega))
   have z13:=hc11.size
   clear hc11 hmk C10 A10 N10 HM10 q0 q1 q2 q3 q4 q5 q6 q7
   obtain⟨q0,q1,q2,q3,q4,q5,q6,q7⟩:=cellsP8 (C11.out.get 0 rfl)
   have HH11:=hideK (HHA.out w11 _ _ _ _ K11.out)
   go_wp2_with fail
   refine HH11.out.mono ?_
   rintro e w12 ⟨rfl,hb⟩
   have C12:=hideK (C11.out.call hb)
   have A12:=hideK (A11.out.call hb)
   have K12:=hideK (K11.out.call hb)
   clear hb C11 A11 K11 HH11 q0 q1 q2 q3 q4 q5 q6 q7
   obtain⟨c0,c1,c2,c3,c4,c5⟩:=cellsP6 (C12.out.get 3 rfl)
   go_wp2_with fail
   refine(HT.out _ C12.out.low).mono ?_
   rintro e w13 ⟨g13,m13,rfl,hmo,hb⟩
   obtain⟨ho13,hl13⟩:=hmo.oths
   have C13:=hideK (C12.out.call hb)
   have HI13:=hideK (HI.out w13 C13.out.low (some ⟨g13,0,none⟩) n m13 ho13 hl13 hmo.os)
   have A13:=hideK (A12.out.call hb)
   have K13:=hideK (K12.out.call hb)
   clear hb C12 c0 c1 c2 c3 c4 c5 hmo ho13 hl13 A12 K12
   go_wp2_with fail
   refine HI13.out.mono ?_
   rintro e w14 ⟨hop,hb⟩
   obtain⟨vo14,vs14,rfl,ha14⟩:=HON.out _ _ _ hop
   obtain⟨ao14,co14,as14,cs14,hvo14,hvs14⟩:=HSH.out _ _ _ _ _ ha14.ans
   subst hvo14 hvs14
   have BN14:Hid (Below w14.heap.size w14 (w14.alloc (.cells #[.int .i64 pz,.int .i64 pb,.string pr,.string ps,.int .i64 py,.slice ao14 no co14,.slice as14 ns cs14,.int .i64 pc] 38))):=(Below.refl _ _).alloc (Nat.le_refl _) _
   have C14:=hideK ((C13.out.call hb).new (.cells #[.int .i64 pz,.int .i64 pb,.string pr,.string ps,.int .i64 py,.slice ao14 no co14,.slice as14 ns cs14,.int .i64 pc] 38))
   have A14:=hideK ((A13.out.call hb).call BN14.out)
   have K14:=hideK ((K13.out.call hb).call BN14.out)
   have N14:=hideK (ha14.ans.call BN14.out)
   clear hb C13 A13 K13 hop ha14 HI13 BN14
   go_upto_region 25 with fail
   generalize w14.alloc _=W14 at C14 A14 K14 N14 ⊢
   obtain⟨q0,q1,q2,q3,q4,q5,q6,q7⟩:=cellsP8 (C14.out.get 0 rfl)
   obtain⟨r0,r1,r2,r3,r4,r5,r6,r7⟩:=cellsP8 (C14.out.get 3 rfl)
   have HE14:=hideK (HEQ.out W14 _ _ _ _ _ _ _ _ N14.out A14.out)
   go_wp2_with fail
   refine HE14.out.mono ?_
   rintro e w15 ⟨rfl,hb⟩
   have C15:=hideK (C14.out.call hb)
   have K15:=hideK (K14.out.call hb)
   clear hb C14 K14 HE14 q0 q1 q2 q3 q4 q5 q6 q7 r0 r1 r2 r3 r4 r5 r6 r7
   obtain⟨q0,q1,q2,q3,q4,q5,q6,q7⟩:=cellsP8 (C15.out.get 1 rfl)
   have HH15:=hideK (HHA.out w15 _ _ _ _ K15.out)
   go_wp2_with fail
   refine HH15.out.mono ?_
   rintro e w16 ⟨rfl,hb⟩
   have C16:=hideK (C15.out.call hb)
   clear hb C15
   go_wp2_with fail
   go_ret
   exact⟨rfl,C16.out.low⟩
 ·rw[szV_no (by omega)]at HZ
  unfold lpV at HZ ⊢
  go_enter Tryz.func5,Tryz.ntmps5
  go_wp2_with fail
  generalize w.alloc _=wa at C0 ⊢
  refine(HZ.out _ C0.out.low).mono ?_
  rintro e w1 ⟨rfl,hb⟩
  have C1:=hideK (C0.out.call hb)
  clear hb C0
  go_wp2_with fail
  go_ret
  exact⟨rfl,C1.out.low⟩
end Go.Proofs.YtpddanmnlkcdpaaGreatDoor.fnExactTick

