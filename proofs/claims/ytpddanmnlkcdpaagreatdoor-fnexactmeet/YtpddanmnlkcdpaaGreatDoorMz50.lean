/- Texts put together: KpFit, PeLaw, PoLaw, PmMeetT, MeetLaw. -/
import Derived.Test.YtpddanmnlkcdpaaGreatDoorMz44
import Derived.Test.YtpddanmnlkcdpaaGreatDoorMz33
import Derived.Test.YtpddanmnlkcdpaaGreatDoorMz40
import Derived.Test.YtpddanmnlkcdpaaGreatDoorMz47
import Derived.Test.YtpddanmnlkcdpaaGreatDoorMz36
import Derived.Test.YtpddanmnlkcdpaaGreatDoorMz42
import Derived.Test.YtpddanmnlkcdpaaGreatDoorMz48
import Derived.Test.YtpddanmnlkcdpaaGreatDoorMz49
set_option maxRecDepth 100000
set_option maxHeartbeats 8000000
/- What fits: the contracts of both sides at every record. -/
namespace Go.Proofs.YtpddanmnlkcdpaaGreatDoor.Kp
open Go.RowKit
open Ls (rightB rightB_yes lV vars_keepF l07Fits_spec fitsB fits_piece countN_le)
open Tr (inclB wide_yes)
open Sh (Vars)
theorem fitC_of (z b:Int) (r:ByteArray) (w:World) (hV:Vars w):FitC (fitR z b r) z b r w:=fun W x hW h1 h2 h3 =>
 fits_rec z b r x W (by unfold maxLen;omega) (by omega) h3 (vars_keepF hV hW)
theorem fitS_of (z b:Int) (r:ByteArray) (w:World) (hr:rightB z b r=true):FitS (fitR z b r) z b r w:=fun W x hW h1 h2 h3=>by
 have h4:=rightB_yes hr
 obtain⟨p,rfl⟩:=Int.eq_ofNat_of_zero_le h4.1
 obtain⟨k,rfl⟩:=Int.eq_ofNat_of_zero_le (show 0<=b by omega)
 obtain⟨a,cap,hv,hc,hst⟩:=h3
 rw[hv,fit_short h2]
 exact l07Fits_spec p k r x.1.1 x.1.2.1 x.1.2.2 a cap x.1.2.2.length W hr h1 rfl (by omega) hst
end Go.Proofs.YtpddanmnlkcdpaaGreatDoor.Kp


/- What the laws over a Peer have in common. -/
namespace Go.Proofs.YtpddanmnlkcdpaaGreatDoor.Pe
open Go.RowKit
open Kp
open Ls (HH hh_keep lV rightB vars_keepF lowL)
open Sh (Vars)
theorem small_lens {m:List MO} {K:Nat} (h:K+tot (oths m)<=1048576) (hl:Lens m):Small m:=fun x hx=>by
 have h1:=cost_le hx
 have h2:=hl x hx
 unfold cost at h1
 exact⟨by omega,h2.2⟩
end Go.Proofs.YtpddanmnlkcdpaaGreatDoor.Pe


/- What the laws over a peer's calls have in common: answers in memory. -/
namespace Go.Proofs.YtpddanmnlkcdpaaGreatDoor.Pl
open Go.RowKit
open Kp
open Pe
open In (Ints OwnI)
open Ls (lowL)
open St (OwnS)
structure PoW (W:World) (lo hi:Nat) (vo vs:Value) (mo:List MO) (ms:List ML):Prop where
 inn:PoIn W lo vo vs mo ms
 ib:InB lo hi vo mo
 il:∀ g,vs.ownBlock=some g->lo<=g/\g<hi
 ip:∀ x∈ms,∀ g,x.2.ownBlock=some g->lo<=g/\g<hi
theorem PoIn.wide {W:World} {lo:Nat} {vo vs:Value} {mo:List MO} {ms:List ML} (h:PoIn W lo vo vs mo ms):PoW W lo W.heap.size vo vs mo ms :=
 ⟨h,⟨fun _ hg=>World.ownsRow.lt h.orow _ hg,fun x hx _ hg=>World.ownsRow.lt (h.has x hx) _ hg⟩,fun _ hg=>World.ownsRow.lt h.srow _ hg,fun x hx _ hg=>World.ownsRow.lt (h.pth x hx) _ hg⟩
theorem own_chg {W W':World} {base n k lo hi lo' hi':Nat} {e:TypeId} {v:Value} {xs:List Value} (h:W.ownsRow base e k v n xs) (hv:∀ g,v.ownBlock=some g->lo<=g/\g<hi) (hc:Chg lo' hi' W W') (ho:hi<=lo'∨hi'<=lo):W'.ownsRow base e k v n xs:=by
 obtain⟨hl,h⟩:=h
 refine⟨hl,?_⟩
 rcases h with h|⟨g,cap,cur,hvv,hg,hb,rest⟩
 ·exact .inl h
 ·have:=hv g (by rw[hvv];rfl)
  exact .inr ⟨g,cap,cur,hvv,hg,(hc.block g (lt_rowK hb) (by omega)).trans hb,rest⟩
theorem PoW.chg {W W':World} {lo hi lo' hi':Nat} {vo vs:Value} {mo:List MO} {ms:List ML} (h:PoW W lo hi vo vs mo ms) (hc:Chg lo' hi' W W') (ho:hi<=lo'∨hi'<=lo):PoW W' lo hi vo vs mo ms :=
 ⟨⟨own_chg h.inn.orow h.ib.1 hc ho,fun x hx=>own_chg (h.inn.has x hx) (h.ib.2 x hx) hc ho,h.inn.ap,own_chg h.inn.srow h.il hc ho,fun x hx=>own_chg (h.inn.pth x hx) (h.ip x hx) hc ho,h.inn.apl⟩,h.ib,h.il,h.ip⟩
theorem PoW.call {W W':World} {lo hi:Nat} {vo vs:Value} {mo:List MO} {ms:List ML} (h:PoW W lo hi vo vs mo ms) (hb:Below W.heap.size W W'):PoW W' lo hi vo vs mo ms:=⟨h.inn.call hb,h.ib,h.il,h.ip⟩
structure Fine (p:PO):Prop where
 many:p.os.length<=1024
 has:∀ o∈p.os,o.has.length<=1048576/\o.name.size<=maxLen
 sent:p.ss.length<=1048576
 path:∀ x∈p.ss,x.path.length<=1048576
def Ans (W:World) (lo hi:Nat) (vo vs:Value) (p:PO):Prop:=∃ mo ms,oths mo=p.os/\snts ms=p.ss/\PoW W lo hi vo vs mo ms
def AnsN (W:World) (lo hi:Nat) (vo vs:Value) (p:PO):Prop:=∃ mo ms,oths mo=p.os/\snts ms=p.ss/\PoW W lo hi vo vs mo ms/\NoPath ms
def AnsM (W:World) (lo hi:Nat) (vo vs:Value) (p:PO):Prop:=∃ m',Mkd W lo hi vo vs p.os p.ss.length m'
theorem AnsN.ans {W:World} {lo hi:Nat} {vo vs:Value} {p:PO} (h:AnsN W lo hi vo vs p):Ans W lo hi vo vs p:=by
 obtain⟨mo,ms,h1,h2,h3,_⟩:=h
 exact⟨mo,ms,h1,h2,h3⟩
theorem Ans.shape {W:World} {lo hi:Nat} {vo vs:Value} {p:PO} (h:Ans W lo hi vo vs p):∃ ao co as' cs,vo=.slice ao p.os.length co/\vs=.slice as' p.ss.length cs:=by
 obtain⟨mo,ms,h1,h2,h3⟩:=h
 obtain⟨ao,co,e1,_,_⟩:=h3.inn.orow.one
 obtain⟨as',cs,e2,_,_⟩:=h3.inn.srow.one
 exact⟨ao,co,as',cs,by rw[e1,<-h1,oths_length],by rw[e2,<-h2,snts_length]⟩
theorem Ans.call {W W':World} {lo hi:Nat} {vo vs:Value} {p:PO} (h:Ans W lo hi vo vs p) (hb:Below W.heap.size W W'):Ans W' lo hi vo vs p:=by
 obtain⟨mo,ms,h1,h2,h3⟩:=h
 exact⟨mo,ms,h1,h2,h3.call hb⟩
theorem Ans.chg {W W':World} {lo hi lo' hi':Nat} {vo vs:Value} {p:PO} (h:Ans W lo hi vo vs p) (hc:Chg lo' hi' W W') (ho:hi<=lo'∨hi'<=lo):Ans W' lo hi vo vs p:=by
 obtain⟨mo,ms,h1,h2,h3⟩:=h
 exact⟨mo,ms,h1,h2,h3.chg hc ho⟩
theorem AnsN.call {W W':World} {lo hi:Nat} {vo vs:Value} {p:PO} (h:AnsN W lo hi vo vs p) (hb:Below W.heap.size W W'):AnsN W' lo hi vo vs p:=by
 obtain⟨mo,ms,h1,h2,h3,h4⟩:=h
 exact⟨mo,ms,h1,h2,h3.call hb,h4⟩
theorem AnsN.chg {W W':World} {lo hi lo' hi':Nat} {vo vs:Value} {p:PO} (h:AnsN W lo hi vo vs p) (hc:Chg lo' hi' W W') (ho:hi<=lo'∨hi'<=lo):AnsN W' lo hi vo vs p:=by
 obtain⟨mo,ms,h1,h2,h3,h4⟩:=h
 exact⟨mo,ms,h1,h2,h3.chg hc ho,h4⟩
theorem AnsM.call {W W':World} {lo hi:Nat} {vo vs:Value} {p:PO} (h:AnsM W lo hi vo vs p) (hb:Below W.heap.size W W'):AnsM W' lo hi vo vs p:=by
 obtain⟨m',h⟩:=h
 exact⟨m',h.call hb⟩
theorem own_ans {W:World} {base:Nat} {e:Ending} {p:PO} (h:OwnPO W base e p):∃ vo vs,e=.returned (poV p.z p.b p.r p.s p.y vo vs p.c)/\Ans W base W.heap.size vo vs p:=by
 obtain⟨vo,vs,mo,ms,he,h1,h2,h3⟩:=h
 exact⟨vo,vs,he,mo,ms,h1,h2,h3.wide⟩
theorem own_ansN {W:World} {base:Nat} {e:Ending} {p:PO} (h:OwnPN W base e p):∃ vo vs,e=.returned (poV p.z p.b p.r p.s p.y vo vs p.c)/\AnsN W base W.heap.size vo vs p:=by
 obtain⟨vo,vs,mo,ms,he,h1,h2,h3,h4⟩:=h
 exact⟨vo,vs,he,mo,ms,h1,h2,h3.wide,h4⟩
theorem eqA {W:World} {lo hi lo' hi':Nat} {vo vs vo' vs':Value} {p:PO} (h:Ans W lo hi vo vs p) (h':Ans W lo' hi' vo' vs' p) (hf:Fine p) :
  Calls Tryz.prog 10 #[poV p.z p.b p.r p.s p.y vo vs p.c,poV p.z p.b p.r p.s p.y vo' vs' p.c] W fun e w'=>e=.returned (.bool true)/\Below W.heap.size W w':=by
 obtain⟨mo,ms,h1,h2,h3⟩:=h
 obtain⟨mo',ms',h1',h2',h3'⟩:=h'
 obtain⟨ao,co,e1,_,_⟩:=h3.inn.orow.one
 obtain⟨as',cs,e2,_,_⟩:=h3.inn.srow.one
 obtain⟨ao',co',e3,_,_⟩:=h3'.inn.orow.one
 obtain⟨as2,cs',e4,_,_⟩:=h3'.inn.srow.one
 have l1:mo'.length=mo.length:=by rw[<-oths_length mo',h1',<-h1,oths_length]
 have l2:ms'.length=ms.length:=by rw[<-snts_length ms',h2',<-h2,snts_length]
 rw[l1]at e3
 rw[l2]at e4
 subst e1 e2 e3 e4
 have k1:mo.length=p.os.length:=by rw[<-h1,oths_length]
 have k2:ms.length=p.ss.length:=by rw[<-h2,snts_length]
 have f1:=hf.many
 have f2:=hf.sent
 obtain⟨⟨a1,_⟩,a2,_⟩:=h3.inn.oths
 obtain⟨⟨b1,_⟩,b2,_⟩:=h3'.inn.oths
 exact eqPO_any p.z p.b p.r p.s p.y ao ao' as' as2 mo.length ms.length co co' cs cs' p.c mo mo' ms ms' W a1 b1 (h1.trans h1'.symm) rfl (by omega) (fun x hx=>hf.has x.1 (by rw[<-h1];exact List.mem_map_of_mem hx)) a2 b2 (h2.trans h2'.symm) rfl (by omega) (fun x hx=>hf.path x.1 (by rw[<-h2];exact List.mem_map_of_mem hx))
theorem mkE_far:∀ (l:List Oth) (k:Nat),(∀ o∈l,o.has.length<=1048576)->mkE k l<=k+1048580*l.length
 |[],k,_=>by unfold mkE;omega
 |o :: l,k,h=>by
  have h1:=mkE_far l (mkN k o) (fun x hx=>h x (List.mem_cons_of_mem _ hx))
  have h2:=h o (List.mem_cons_self ..)
  rw[mkE,List.length_cons]
  unfold mkN at h1 ⊢
  omega
def ansK (p:PO):Nat:=mkE 1 p.os+4*p.ss.length
theorem fine_far {p:PO} (hf:Fine p):ansK p<=1099511627776:=by
 have h1:=mkE_far p.os 1 (fun o ho=>(hf.has o ho).1)
 have h2:=hf.many
 have h3:=hf.sent
 unfold ansK
 omega
theorem markA {W:World} {lo hi:Nat} {vo vs:Value} {p:PO} (h:AnsN W lo hi vo vs p) (hf:Fine p) :
  Calls Tryz.prog 13 #[poV p.z p.b p.r p.s p.y vo vs p.c,.int .i64 1] W fun e w'=>e=.returned (.int .i64 (ansK p:Nat))/\AnsM w' lo hi vo vs p/\Chg lo hi W w':=by
 obtain⟨mo,ms,h1,h2,h3,h4⟩:=h
 have k1:mo.length=p.os.length:=by rw[<-h1,oths_length]
 have k2:ms.length=p.ss.length:=by rw[<-h2,snts_length]
 have f1:=hf.many
 have f2:=hf.sent
 have f3:=fine_far hf
 unfold ansK at f3
 have:=markPO_any p.z p.b p.r p.s p.y p.c lo hi vo vs mo ms W ⟨h3.inn.orow,h3.inn.has,h3.inn.ap,h3.ib⟩ ⟨h3.inn.srow,h3.il,h4⟩ (by omega) (fun x hx=>(hf.has x.1 (by rw[<-h1];exact List.mem_map_of_mem hx)).1) (by omega) (by rw[h1,k2];exact f3)
 rw[h1,k2]at this
 exact this
theorem heldA {W:World} {lo hi:Nat} {vo vs:Value} {p:PO} (h:AnsM W lo hi vo vs p) (hf:Fine p) :
  Calls Tryz.prog 14 #[poV p.z p.b p.r p.s p.y vo vs p.c,.int .i64 1] W fun e w'=>e=.returned (.int .i64 (ansK p:Nat))/\Below W.heap.size W w':=by
 obtain⟨m',h⟩:=h
 have f1:=hf.many
 exact heldPO_any p.z p.b p.r p.s p.y p.c lo hi vo vs p.os p.ss.length m' W h (by omega) (fun o ho=>(hf.has o ho).1) hf.sent (fine_far hf)
theorem cx_chgL {w W W':World} {l:List (Nat × Obj)} {lo hi:Nat} (h:Cx w W l) (hc:Chg lo hi W W') (hg:w.heap.size<=lo) (hne:∀ x∈l,x.1<lo∨hi<=x.1):Cx w W' l :=
 ⟨Chg.below h.low hc hg h.low.size,fun x hx=>(hc.block x.1 (lt_rowK (h.blk x hx)) (hne x hx)).trans (h.blk x hx)⟩
end Go.Proofs.YtpddanmnlkcdpaaGreatDoor.Pl


namespace Go.Proofs.YtpddanmnlkcdpaaGreatDoor.Pl
open Go.RowKit
open Kp
open Pe
open Pm
open In (Ints OwnI)
open Go.Proofs.YtpddanmnlkcdpaaGreatDoor.Nm (nameB)
open Ls (lowL blk_alloc rightB)
theorem ill_spec (c:Int) (w:World):Calls Tryz.prog 25 #[.int .i64 c] w fun e w'=>e=.returned (poV 0 0 ⟨#[]⟩ ⟨#[]⟩ 0 (.slice none 0 0) (.slice none 0 0) c)/\Below w.heap.size w w':=by
 have C0:=hideK ((Cx.nil w).new (poO 0 0 ⟨#[]⟩ ⟨#[]⟩ 0 (.slice none 0 0) (.slice none 0 0) 0))
 unfold poO at C0
 unfold poV
 go_enter Tryz.func25,Tryz.ntmps25
 go_upto_region 1 with fail
 generalize hgk:w.heap.size=gk at C0 ⊢
 generalize w.alloc _=W0 at C0 ⊢
 obtain⟨q0,q1,q2,q3,q4,q5,q6,q7⟩:=cellsP8 (C0.out.get 0 rfl)
 have ff:=fun o=>frozen_of_row W0 gk o _ _ (C0.out.get 0 rfl)
 have s8:=cellsP8 (setP8 (W:=W0) (C0.out.get 0 rfl) (.int .i64 0) (.int .i64 0) (.string ⟨#[]⟩) (.string ⟨#[]⟩) (.int .i64 0) (.slice none 0 0) (.slice none 0 0) (.int .i64 c))
 have E8:=hideK (setP8_low (W:=W0) C0.out.low (g:=gk) (by omega) (.int .i64 0) (.int .i64 0) (.string ⟨#[]⟩) (.string ⟨#[]⟩) (.int .i64 0) (.slice none 0 0) (.slice none 0 0) (.int .i64 c))
 go_wp2_with fail
 exact bodyPost_ret (v:=.agg #[.int .i64 0,.int .i64 0,.string ⟨#[]⟩,.string ⟨#[]⟩,.int .i64 0,.slice none 0 0,.slice none 0 0,.int .i64 c]) (by simp[results,Tryz.results25,go_sem,s8.1,s8.2.1,s8.2.2.1,s8.2.2.2.1,s8.2.2.2.2.1,s8.2.2.2.2.2.1,s8.2.2.2.2.2.2.1,s8.2.2.2.2.2.2.2]) rfl ⟨rfl,E8.out⟩
theorem cellsP7 {W:World} {g:Nat} {a0 a1 a2 a3 a4 a5 a6:Value} {T:TypeId} {fr:Nat × Nat} (h:W.heap[g]? = some (.cells #[a0,a1,a2,a3,a4,a5,a6] T fr)):W.cell? ⟨g,0,none⟩=some a0/\W.cell? ⟨g,1,none⟩=some a1/\W.cell? ⟨g,2,none⟩=some a2/\W.cell? ⟨g,3,none⟩=some a3/\W.cell? ⟨g,4,none⟩=some a4/\W.cell? ⟨g,5,none⟩=some a5/\W.cell? ⟨g,6,none⟩=some a6 :=
 ⟨cell_of_row W g 0 _ _ _ h,cell_of_row W g 1 _ _ _ h,cell_of_row W g 2 _ _ _ h,cell_of_row W g 3 _ _ _ h,cell_of_row W g 4 _ _ _ h,cell_of_row W g 5 _ _ _ h,cell_of_row W g 6 _ _ _ h⟩
theorem peerB_right {fit:Rec->Bool} {z b:Int} {r s:ByteArray} {y:Int} {l:List Oth} (h:peerB fit z b r s y l=true):rightB z b r=true:=by
 unfold peerB keepB atB mayB at h
 simp only[Bool.and_eq_true]at h
 exact h.1.1.1.1
theorem Game.poIn {w W:World} {gg:Nat} {z b:Int} {r s:ByteArray} {y:Int} {ao as':Option Addr} {no co ns cs:Nat} {va:Value} {mo:List MO} {mr:List MR} {ms:List ML} (h:Game w W gg z b r s y ao no co va mo mr) (hs:OwnL W w.heap.size (.slice as' ns cs) ms) (hn:∀ x∈ms,x.2=.slice none 0 0/\x.1.path=[]):PoIn W w.heap.size (.slice ao no co) (.slice as' ns cs) mo ms :=
 ⟨h.orow,h.has,h.ap,hs,fun x hx=>by rw[(hn x hx).1,(hn x hx).2];exact St.OwnS.nil _ _,pairwise_all ms fun a ha' _ _ g hg=>by rw[(hn a ha').1]at hg;simp[Value.ownBlock]at hg⟩
theorem meet_spec (fit:Rec->Bool) (z b:Int) (r s:ByteArray) (y:Int) (a:Option Addr) (n cap:Nat) (m:List MO) (nm:ByteArray) (w:World) (hs:s.size<=1048576) (hf:rightB z b r=true->FitS fit z b r w) (h:Oths w w.heap.size a m) (hm:m.length=n) (hn:n<=1048576) (hsm:Small m) (hnm:nm.size<=maxLen) :
  Calls Tryz.prog 7 #[peerV z b r s y (.slice a n cap),.string nm] w fun e w'=>OwnPO w' w.heap.size e (meetP fit z b r s y (oths m) nm)/\Below w.heap.size w w':=by
 have C0:=hideK (((Cx.nil w).new (peerO z b r s y (.slice a n cap))).new (poO 0 0 ⟨#[]⟩ ⟨#[]⟩ 0 (.slice none 0 0) (.slice none 0 0) 0))
 simp only[World.size_alloc]at C0
 have HPR:=hideK (fun W (hW:Below w.heap.size w W)=>peerRight_spec fit z b r s y a n cap m W hs (fun hq=>(hf hq).later hW) ((h.below hW).mono hW.size) hm hn hsm)
 have HO:Hid (peerB fit z b r s y (oths m)=true->∀ W (hW:Below w.heap.size w W),Calls Tryz.prog 28 #[peerV z b r s y (.slice a n cap)] W fun e w'=>∃ gg ao co va mo mr,e=.returned (.pointer (some ⟨gg,0,none⟩))/\Game W w' gg z b r s y ao n co va mo mr/\oths mo=oths m/\recs mr=(allR fit s).1):=fun hP W hW=>open_spec fit z b r s y a n cap m W hs ((hf (peerB_right hP)).later hW) ((h.below hW).mono hW.size) hm hn hsm
 have HNR:=hideK (fun W=>Nm.spec_any nm W hnm)
 have HP:Hid (∀ p,meetP fit z b r s y (oths m) nm=p->∀ W e,OwnPO W w.heap.size e p->OwnPO W w.heap.size e (meetP fit z b r s y (oths m) nm)):=fun p hp W e h=>by rw[hp];exact h
 have HB2:Hid (8000<nm.size->meetP fit z b r s y (oths m) nm=ill 2):=fun h=>by unfold meetP;rw[if_pos h]
 have HB1:Hid (¬8000<nm.size->peerB fit z b r s y (oths m)=false∨nameB nm=false->meetP fit z b r s y (oths m) nm=ill 1):=fun h h1=>by
  unfold meetP
  rw[if_neg h,if_pos]
  rcases h1 with h1|h1
  ·rw[h1];rfl
  ·rw[h1,Bool.and_false]
 have HB7:Hid (¬8000<nm.size->peerB fit z b r s y (oths m)=true->nameB nm=true->hasN (oths m) nm=true->meetP fit z b r s y (oths m) nm=ill 7):=fun h h1 h2 h3=>by
  unfold meetP
  rw[if_neg h,if_neg (by rw[h1,h2];decide),if_pos h3]
 have HB9:Hid (¬8000<nm.size->peerB fit z b r s y (oths m)=true->nameB nm=true->hasN (oths m) nm=false->n=4->meetP fit z b r s y (oths m) nm=ill 9):=fun h h1 h2 h3 h4=>by
  unfold meetP
  rw[if_neg h,if_neg (by rw[h1,h2];decide),if_neg (by rw[h3];decide),if_pos (by rw[oths_length,hm];exact h4)]
 have HB0:Hid (¬8000<nm.size->peerB fit z b r s y (oths m)=true->nameB nm=true->hasN (oths m) nm=false->¬n=4->meetP fit z b r s y (oths m) nm=⟨z,b,r,s,y,meetO (oths m) nm,meetS fit s nm,0⟩):=fun h h1 h2 h3 h4=>by
  unfold meetP
  rw[if_neg h,if_neg (by rw[h1,h2];decide),if_neg (by rw[h3];decide),if_neg (by rw[oths_length,hm];exact h4)]
 have HRIS:Hid (peerB fit z b r s y (oths m)=true->∃ c,othsB (oths m) c=true):=fun h=>by
  unfold peerB at h
  simp only[Bool.and_eq_true]at h
  exact⟨_,h.2⟩
 have HRL:Hid ((allR fit s).1.length<=1048576):=rec_len fit s hs
 have HMN:=hideK hm
 clear hf h hsm hm
 unfold peerV at HO HPR ⊢
 unfold peerO poO at C0
 go_enter Tryz.func7,Tryz.ntmps7
 go_upto_region 1 with fail
 generalize hgk:w.heap.size=gk at C0 ⊢
 have HGK:=hideK hgk
 clear hgk
 generalize (w.alloc _).alloc _=W0 at C0 ⊢
 by_cases hbig:8000<nm.size
 ·have hbI:(8000:Int)<(nm.size:Int):=by omega
  have hbD:decide ((8000:Int)<(nm.size:Int))=true:=by simp;omega
  have HR:=hideK (HP.out _ (HB2.out hbig))
  clear HP HB2 HO HNR HB1 HB7 HB9 HB0 HRIS HRL HMN HPR
  have HIL:=hideK (fun W=>ill_spec 2 W)
  unfold poV at HIL
  go_wp2_with fail
  refine(HIL.out _).mono ?_
  rintro e wI ⟨rfl,hb⟩
  have CI:=hideK (C0.out.call hb)
  clear hb C0 HIL
  obtain⟨q0,q1,q2,q3,q4,q5,q6,q7⟩:=cellsP8 (CI.out.get 0 rfl)
  have ff:=fun o=>frozen_of_row wI (gk+1) o _ _ (CI.out.get 0 rfl)
  have s8:=cellsP8 (setP8 (CI.out.get 0 rfl) (.int .i64 0) (.int .i64 0) (.string ⟨#[]⟩) (.string ⟨#[]⟩) (.int .i64 0) (.slice none 0 0) (.slice none 0 0) (.int .i64 2))
  have E8:=hideK (setP8_low CI.out.low (g:=gk+1) (by have:=HGK.out;omega) (.int .i64 0) (.int .i64 0) (.string ⟨#[]⟩) (.string ⟨#[]⟩) (.int .i64 0) (.slice none 0 0) (.slice none 0 0) (.int .i64 2))
  go_wp2_with fail
  exact bodyPost_ret (v:=.agg #[.int .i64 0,.int .i64 0,.string ⟨#[]⟩,.string ⟨#[]⟩,.int .i64 0,.slice none 0 0,.slice none 0 0,.int .i64 2]) (by simp[results,Tryz.results7,go_sem,s8.1,s8.2.1,s8.2.2.1,s8.2.2.2.1,s8.2.2.2.2.1,s8.2.2.2.2.2.1,s8.2.2.2.2.2.2.1,s8.2.2.2.2.2.2.2]) rfl ⟨HR.out _ _ (own_ill _ _ 2),E8.out⟩
 ·have hbI:¬(8000:Int)<(nm.size:Int):=by omega
  have hbD:decide ((8000:Int)<(nm.size:Int))=false:=by simp;omega
  obtain⟨p0,p1,p2,p3,p4,p5⟩:=cellsP6 (C0.out.get 1 rfl)
  go_wp2_with fail
  refine(HPR.out _ C0.out.low).mono ?_
  rintro e w1 ⟨rfl,hb⟩
  have C1:=hideK (C0.out.call hb)
  clear hb C0 HPR p0 p1 p2 p3 p4 p5
  cases hP:peerB fit z b r s y (oths m) with
  |false =>
   have HR:=hideK (HP.out _ (HB1.out hbig (.inl hP)))
   clear HP HB2 HO HNR HB1 HB7 HB9 HB0 HRIS HRL HMN hP
   have HIL:=hideK (fun W=>ill_spec 1 W)
   unfold poV at HIL
   go_wp2_with fail
   refine(HIL.out _).mono ?_
   rintro e wI ⟨rfl,hb⟩
   have CI:=hideK (C1.out.call hb)
   clear hb C1 HIL
   obtain⟨q0,q1,q2,q3,q4,q5,q6,q7⟩:=cellsP8 (CI.out.get 0 rfl)
   have ff:=fun o=>frozen_of_row wI (gk+1) o _ _ (CI.out.get 0 rfl)
   have s8:=cellsP8 (setP8 (CI.out.get 0 rfl) (.int .i64 0) (.int .i64 0) (.string ⟨#[]⟩) (.string ⟨#[]⟩) (.int .i64 0) (.slice none 0 0) (.slice none 0 0) (.int .i64 1))
   have E8:=hideK (setP8_low CI.out.low (g:=gk+1) (by have:=HGK.out;omega) (.int .i64 0) (.int .i64 0) (.string ⟨#[]⟩) (.string ⟨#[]⟩) (.int .i64 0) (.slice none 0 0) (.slice none 0 0) (.int .i64 1))
   go_wp2_with fail
   exact bodyPost_ret (v:=.agg #[.int .i64 0,.int .i64 0,.string ⟨#[]⟩,.string ⟨#[]⟩,.int .i64 0,.slice none 0 0,.slice none 0 0,.int .i64 1]) (by simp[results,Tryz.results7,go_sem,s8.1,s8.2.1,s8.2.2.1,s8.2.2.2.1,s8.2.2.2.2.1,s8.2.2.2.2.2.1,s8.2.2.2.2.2.2.1,s8.2.2.2.2.2.2.2]) rfl ⟨HR.out _ _ (own_ill _ _ 1),E8.out⟩
  |true =>
   cases hnb:nameB nm with
   |false =>
    have HR:=hideK (HP.out _ (HB1.out hbig (.inr hnb)))
    rw[hnb]at HNR
    clear HP HB2 HO HB1 HB7 HB9 HB0 HRIS HRL HMN hP hnb
    go_wp2_with fail
    refine(HNR.out _).mono ?_
    rintro e w2 ⟨rfl,hw⟩
    subst w2
    have HIL:=hideK (fun W=>ill_spec 1 W)
    unfold poV at HIL
    go_wp2_with fail
    refine(HIL.out _).mono ?_
    rintro e wI ⟨rfl,hb⟩
    have CI:=hideK (C1.out.call hb)
    clear hb C1 HIL
    obtain⟨q0,q1,q2,q3,q4,q5,q6,q7⟩:=cellsP8 (CI.out.get 0 rfl)
    have ff:=fun o=>frozen_of_row wI (gk+1) o _ _ (CI.out.get 0 rfl)
    have s8:=cellsP8 (setP8 (CI.out.get 0 rfl) (.int .i64 0) (.int .i64 0) (.string ⟨#[]⟩) (.string ⟨#[]⟩) (.int .i64 0) (.slice none 0 0) (.slice none 0 0) (.int .i64 1))
    have E8:=hideK (setP8_low CI.out.low (g:=gk+1) (by have:=HGK.out;omega) (.int .i64 0) (.int .i64 0) (.string ⟨#[]⟩) (.string ⟨#[]⟩) (.int .i64 0) (.slice none 0 0) (.slice none 0 0) (.int .i64 1))
    go_wp2_with fail
    exact bodyPost_ret (v:=.agg #[.int .i64 0,.int .i64 0,.string ⟨#[]⟩,.string ⟨#[]⟩,.int .i64 0,.slice none 0 0,.slice none 0 0,.int .i64 1]) (by simp[results,Tryz.results7,go_sem,s8.1,s8.2.1,s8.2.2.1,s8.2.2.2.1,s8.2.2.2.2.1,s8.2.2.2.2.2.1,s8.2.2.2.2.2.2.1,s8.2.2.2.2.2.2.2]) rfl ⟨HR.out _ _ (own_ill _ _ 1),E8.out⟩
   |true =>
    rw[hnb]at HNR
    obtain⟨cq,hcq⟩:=HRIS.out hP
    have HOP:=hideK (HO.out hP)
    have HRI:Hid (∀ mo:List MO,oths mo=oths m->Ris mo):=fun mo hq=>ris_of (c:=cq) (by rw[hq];exact hcq)
    have hle:n<=4:=by have:=(oths_of hcq).1;rw[oths_length,HMN.out]at this;exact this
    have H7:=hideK (HB7.out hbig hP hnb)
    have H9:=hideK (HB9.out hbig hP hnb)
    have H0:=hideK (HB0.out hbig hP hnb)
    clear hcq HB7 HB9 HB0 HB1 HB2 HO HRIS hP hnb
    go_wp2_with fail
    refine(HNR.out _).mono ?_
    rintro e w2 ⟨rfl,hw⟩
    subst w2
    clear HNR
    obtain⟨p0,p1,p2,p3,p4,p5⟩:=cellsP6 (C1.out.get 1 rfl)
    go_wp2_with fail
    refine(HOP.out _ C1.out.low).mono ?_
    rintro e w2 ⟨gg,ao,co,va,mo,mr,rfl,hgm,hos,hrs⟩
    have hb:=hgm.low
    have C2:=hideK (C1.out.call hb)
    have CK:=hideK (C1.out)
    have HMO:Hid (mo.length=n):=by unfold Hid;rw[<-oths_length,hos,oths_length,HMN.out]
    have GM:=hideK hgm
    have hz1:=C1.out.low.size
    have HAT:=hideK (at_spec gg _ _ _ _ _ _ ao n co mo nm w2 (by have:=hgm.blk;unfold gmB at this;exact this) (MadeO.oths (n:=n) (m:=mo) ⟨rfl,hgm.orow,hgm.has,hgm.ap⟩).1 HMO.out hn (HRI.out mo hos))
    rw[hos]at HAT
    have HOS:=hideK hos
    have HRS:=hideK hrs
    clear hb hgm hos hrs C1 HOP HRI p0 p1 p2 p3 p4 p5
    cases hh:hasN (oths m) nm with
    |true =>
     have HR:=hideK (HP.out _ (H7.out hh))
     have hat:atZ (oths m) nm=(posN (oths m) nm:Nat):=by unfold atZ;rw[if_pos hh]
     rw[hat]at HAT
     generalize posN (oths m) nm=pn at HAT
     have hpn:(0:Int)<=(pn:Int):=by omega
     clear hat HP H7 H9 H0 hh GM
     go_wp2_with fail
     refine HAT.out.mono ?_
     rintro e w3 ⟨rfl,hw⟩
     subst w3
     have HIL:=hideK (fun W=>ill_spec 7 W)
     unfold poV at HIL
     go_wp2_with fail
     refine(HIL.out _).mono ?_
     rintro e wI ⟨rfl,hb⟩
     have CI:=hideK (C2.out.call hb)
     clear hb C2 HIL
     obtain⟨q0,q1,q2,q3,q4,q5,q6,q7⟩:=cellsP8 (CI.out.get 0 rfl)
     have ff:=fun o=>frozen_of_row wI (gk+1) o _ _ (CI.out.get 0 rfl)
     have s8:=cellsP8 (setP8 (CI.out.get 0 rfl) (.int .i64 0) (.int .i64 0) (.string ⟨#[]⟩) (.string ⟨#[]⟩) (.int .i64 0) (.slice none 0 0) (.slice none 0 0) (.int .i64 7))
     have E8:=hideK (setP8_low CI.out.low (g:=gk+1) (by have:=HGK.out;omega) (.int .i64 0) (.int .i64 0) (.string ⟨#[]⟩) (.string ⟨#[]⟩) (.int .i64 0) (.slice none 0 0) (.slice none 0 0) (.int .i64 7))
     go_wp2_with fail
     exact bodyPost_ret (v:=.agg #[.int .i64 0,.int .i64 0,.string ⟨#[]⟩,.string ⟨#[]⟩,.int .i64 0,.slice none 0 0,.slice none 0 0,.int .i64 7]) (by simp[results,Tryz.results7,go_sem,s8.1,s8.2.1,s8.2.2.1,s8.2.2.2.1,s8.2.2.2.2.1,s8.2.2.2.2.2.1,s8.2.2.2.2.2.2.1,s8.2.2.2.2.2.2.2]) rfl ⟨HR.out _ _ (own_ill _ _ 7),E8.out⟩
    |false =>
     have hat:atZ (oths m) nm = -1:=by unfold atZ;rw[if_neg (by rw[hh];decide)]
     rw[hat]at HAT
     clear hat H7
     go_wp2_with fail
     refine HAT.out.mono ?_
     rintro e w3 ⟨rfl,hw⟩
     subst w3
     clear HAT
     obtain⟨p0,p1,p2,p3,p4,p5⟩:=cellsP6 (C2.out.get 1 rfl)
     by_cases h4:n=4
     ·have HR:=hideK (HP.out _ (H9.out hh h4))
      have h4I:(4:Int)<=(n:Int):=by omega
      have H4:=hideK h4
      clear h4 HP H9 H0 hh GM HOS HRS HMO HMN HRL
      have HIL:=hideK (fun W=>ill_spec 9 W)
      unfold poV at HIL
      go_wp2_with fail
      refine(HIL.out _).mono ?_
      rintro e wI ⟨rfl,hb⟩
      have CI:=hideK (C2.out.call hb)
      clear hb C2 HIL
      obtain⟨q0,q1,q2,q3,q4,q5,q6,q7⟩:=cellsP8 (CI.out.get 0 rfl)
      have ff:=fun o=>frozen_of_row wI (gk+1) o _ _ (CI.out.get 0 rfl)
      have s8:=cellsP8 (setP8 (CI.out.get 0 rfl) (.int .i64 0) (.int .i64 0) (.string ⟨#[]⟩) (.string ⟨#[]⟩) (.int .i64 0) (.slice none 0 0) (.slice none 0 0) (.int .i64 9))
      have E8:=hideK (setP8_low CI.out.low (g:=gk+1) (by have:=HGK.out;omega) (.int .i64 0) (.int .i64 0) (.string ⟨#[]⟩) (.string ⟨#[]⟩) (.int .i64 0) (.slice none 0 0) (.slice none 0 0) (.int .i64 9))
      go_wp2_with fail
      exact bodyPost_ret (v:=.agg #[.int .i64 0,.int .i64 0,.string ⟨#[]⟩,.string ⟨#[]⟩,.int .i64 0,.slice none 0 0,.slice none 0 0,.int .i64 9]) (by simp[results,Tryz.results7,go_sem,s8.1,s8.2.1,s8.2.2.1,s8.2.2.2.1,s8.2.2.2.2.1,s8.2.2.2.2.2.1,s8.2.2.2.2.2.2.1,s8.2.2.2.2.2.2.2]) rfl ⟨HR.out _ _ (own_ill _ _ 9),E8.out⟩
     ·have HR:=hideK (HP.out _ (H0.out hh h4))
      have h4I:¬(4:Int)<=(n:Int):=by omega
      have h4D:decide ((4:Int)<=(n:Int))=false:=by simp;omega
      have HMT:=hideK (meetG_spec w1 w2 gg z b r s y ao n co va mo mr nm GM.out HMO.out (by omega) (by have:=congrArg List.length HRS.out;unfold recs at this;rw[List.length_map]at this;have:=HRL.out;omega))
      have HIX:Hid ((Kh.sortZ (idxs mr)).map (letterH nm)=meetS fit s nm):=by
       unfold Hid meetS
       rw[<-HRS.out]
       unfold idxs recs
       rw[List.map_map]
       rfl
      rw[HOS.out,HIX.out]at HMT
      have hsz2:=GM.out.low.size
      clear HP H9 H0 hh HIX HRL HRS
      go_wp2_with fail
      refine HMT.out.mono ?_
      rintro e w3 ⟨vs,ms,ao3,co3,mo3,rfl,hgm3,hos3,hol,hsm3,hnl⟩
      have G3:=hideK hgm3
      have C3:=hideK (CK.out.call hgm3.low)
      obtain⟨as3,cs3,hvs,_,_⟩:=hol.one
      generalize hnl3:ms.length=ns3 at hvs
      subst hvs
      have OL:=hideK (hol.mono (Nat.le_trans hz1 hsz2))
      have HOL:=hideK (hgm3.poIn (hol.mono hsz2) hnl)
      have PI:Hid (PoIn w3 w.heap.size (.slice ao3 (n+1) co3) (.slice as3 ns3 cs3) mo3 ms):=HOL.out.mono hz1
      have EQ3:=hideK hos3
      have SM3:=hideK hsm3
      have hb3:=hgm3.blk
      unfold gmB at hb3
      obtain⟨r0,r1,r2,r3,r4,r5,r6⟩:=cellsP7 hb3
      clear hgm3 hos3 hol hsm3 hnl C2 CK GM HMT p0 p1 p2 p3 p4 p5 hb3
      obtain⟨q0,q1,q2,q3,q4,q5,q6,q7⟩:=cellsP8 (C3.out.get 0 rfl)
      have ff:=fun o=>frozen_of_row w3 (gk+1) o _ _ (C3.out.get 0 rfl)
      have s8:=cellsP8 (setP8 (C3.out.get 0 rfl) (.int .i64 z) (.int .i64 b) (.string r) (.string s) (.int .i64 y) (.slice ao3 (n+1) co3) (.slice as3 ns3 cs3) (.int .i64 0))
      have E8:=hideK (setP8_low C3.out.low (g:=gk+1) (by have:=HGK.out;omega) (.int .i64 z) (.int .i64 b) (.string r) (.string s) (.int .i64 y) (.slice ao3 (n+1) co3) (.slice as3 ns3 cs3) (.int .i64 0))
      have P8:=hideK (poIn_others PI.out (C3.out.get 0 rfl) (fun k o hk hne=>setP8_keep (g:=gk+1) hk hne (.int .i64 z) (.int .i64 b) (.string r) (.string s) (.int .i64 y) (.slice ao3 (n+1) co3) (.slice as3 ns3 cs3) (.int .i64 0)))
      go_wp2_with fail
      exact bodyPost_ret (v:=.agg #[.int .i64 z,.int .i64 b,.string r,.string s,.int .i64 y,.slice ao3 (n+1) co3,.slice as3 ns3 cs3,.int .i64 0]) (by simp[results,Tryz.results7,go_sem,s8.1,s8.2.1,s8.2.2.1,s8.2.2.2.1,s8.2.2.2.2.1,s8.2.2.2.2.2.1,s8.2.2.2.2.2.2.1,s8.2.2.2.2.2.2.2]) rfl ⟨HR.out _ _ ⟨_,_,mo3,ms,rfl,EQ3.out,SM3.out,P8.out⟩,E8.out⟩
end Go.Proofs.YtpddanmnlkcdpaaGreatDoor.Pl


namespace Go.Proofs.YtpddanmnlkcdpaaGreatDoor.fnExactMeet
open Go.RowKit
open Kp
open Pe
open Pl
open Ls (HH hh_keep lV rightB vars_keepF lowL)
open Sh (Vars)
theorem fine (fit:Rec->Bool) (z b:Int) (r s:ByteArray) (y:Int) (m:List MO) (nm:ByteArray) (hs:s.size<=1048576) (hsm:Small m) (hnm:nm.size<=maxLen):Fine (meetP fit z b r s y (oths m) nm):=by
 have hill:∀ c,Fine (ill c):=fun c=>⟨by show 0<=1024;omega,fun o ho=>absurd ho List.not_mem_nil,by show 0<=1048576;omega,fun o ho=>absurd ho List.not_mem_nil⟩
 unfold meetP
 split
 ·exact hill _
 ·split
  ·exact hill _
  ·rename_i hP
   split
   ·exact hill _
   ·split
    ·exact hill _
    ·have hP':peerB fit z b r s y (oths m)=true:=by
      cases h:peerB fit z b r s y (oths m) with
      |true=>rfl
      |false=>rw[h]at hP;exact absurd rfl hP
     unfold peerB at hP'
     simp only[Bool.and_eq_true]at hP'
     have hle:=(oths_of hP'.2).1
     refine⟨?_,fun o ho=>?_,?_,fun x hx=>?_⟩
     ·show (meetO (oths m) nm).length<=1024
      unfold meetO
      rw[List.length_append,List.length_append,List.length_take,List.length_drop]
      simp
      omega
     ·have ho':o∈meetO (oths m) nm:=ho
      unfold meetO at ho'
      have hall:∀ o∈oths m,o.has.length<=1048576/\o.name.size<=maxLen:=fun o ho=>by
       unfold oths at ho
       obtain⟨x,hx,rfl⟩:=List.mem_map.1 ho
       exact hsm x hx
      rcases List.mem_append.1 ho' with ho'|ho'
      ·rcases List.mem_append.1 ho' with ho'|ho'
       ·exact hall o (List.mem_of_mem_take ho')
       ·rw[List.mem_singleton.1 ho']
        exact⟨by unfold newO;simp,hnm⟩
      ·exact hall o (List.mem_of_mem_drop ho')
     ·show (meetS fit s nm).length<=1048576
      unfold meetS
      rw[List.length_map,Kh.sortZ_length,List.length_map]
      exact rec_len fit s hs
     ·have hx':x∈meetS fit s nm:=hx
      unfold meetS at hx'
      obtain⟨i,_,rfl⟩:=List.mem_map.1 hx'
      unfold letterH
      simp
theorem p_impl (z b:Int) (r s:ByteArray) (y:Int) (n:Nat) (m:List MO) (nm:ByteArray) (hnm:nm.size<=maxLen) (hs:s.size<=1048576) (hn:n<=1048576) (hsm:Small m) (W:World) (hh:HH W) (hV:Vars W) (a':Option Addr) (cap':Nat) (mo:List MO) (h1:Oths W W.heap.size a' mo) (h2:mo.length=n) (h3:oths mo=oths m) :
  Calls Tryz.prog 9 #[peerV z b r s y (.slice a' n cap'),.string nm] W fun e w'=>OwnPN w' W.heap.size e (meetP (fitR z b r) z b r s y (oths m) nm)/\Below W.heap.size W w':=by
 have:=meet_impl (fitR z b r) z b r s y a' n cap' mo nm W hs hh (fitC_of z b r W hV) h1 h2 hn (small_of h3 hsm) hnm
 rw[h3]at this
 exact this
theorem p_spec (z b:Int) (r s:ByteArray) (y:Int) (n:Nat) (m:List MO) (nm:ByteArray) (hnm:nm.size<=maxLen) (hs:s.size<=1048576) (hn:n<=1048576) (hsm:Small m) (W:World) (a':Option Addr) (cap':Nat) (mo:List MO) (h1:Oths W W.heap.size a' mo) (h2:mo.length=n) (h3:oths mo=oths m) :
  Calls Tryz.prog 7 #[peerV z b r s y (.slice a' n cap'),.string nm] W fun e w'=>OwnPO w' W.heap.size e (meetP (fitR z b r) z b r s y (oths m) nm)/\Below W.heap.size W w':=by
 have:=meet_spec (fitR z b r) z b r s y a' n cap' mo nm W hs (fun hq=>fitS_of z b r W hq) h1 h2 hn (small_of h3 hsm) hnm
 rw[h3]at this
 exact this
theorem walk (z b:Int) (r s:ByteArray) (y:Int) (a:Option Addr) (n cap:Nat) (m:List MO) (hr:r.size<=maxLen) (hs:s.size<=maxLen) (hm:m.length=n) (hn:n<=maxLen) (hl:Lens m) (nm:ByteArray) (hnm:nm.size<=maxLen) (w:World) (hos:Oths w w.heap.size a m) (hh:HH w) (hV:Vars w) :
  Calls Tryz.prog 3 #[lpV z b r s y (.slice a n cap),.string nm] w fun e w'=>e=.returned (.bool true)/\Below w.heap.size w w':=by
 have C0:=hideK ((Cx.nil w).new (lpO z b r s y (.slice a n cap)))
 unfold lpO at C0
 have HZ:=hideK (fun W (hW:Below w.heap.size w W)=>szP_any z b r s y a n cap m W ((hos.below hW).mono hW.size) hm hr hs hn hl)
 by_cases hnl:1048576<nm.size
 ·have hnI:(1048576:Int)<(nm.size:Int):=by omega
  unfold lpV at HZ ⊢
  go_enter Tryz.func3,Tryz.ntmps3
  go_wp2_with fail
  go_ret
  exact⟨rfl,C0.out.low⟩
 have hnI:¬(1048576:Int)<(nm.size:Int):=by omega
 have hnD:decide ((1048576:Int)<(nm.size:Int))=false:=by simp;omega
 by_cases h:r.size+s.size+(n+tot (oths m))<=1048576
 ·have hsm:Small m:=small_lens (K:=r.size+s.size+n) (by omega) hl
  rw[szV_yes (by omega)]at HZ
  have h1:¬(1048576-((r.size+s.size+(n+tot (oths m)):Nat):Int))<0:=by omega
  have HT:=hideK (fun W (hW:Below w.heap.size w W)=>toP_any z b r s y a n cap m W ((hos.below hW).mono hW.size) hm (by omega) hsm)
  have HS:=hideK (fun W=>p_spec z b r s y n m nm hnm (by omega) (by omega) hsm W)
  have HI:=hideK (fun W (hW:Below w.heap.size w W)=>p_impl z b r s y n m nm hnm (by omega) (by omega) hsm W (hh_keep hh hW) (vars_keepF hV hW))
  have HF:=hideK (fine (fitR z b r) z b r s y m nm (by omega) hsm hnm)
  have HQ:Hid (∀ W (a' a'':Option Addr) (c' c'':Nat) (m' m'':List MO),Oths W W.heap.size a' m'->Oths W W.heap.size a'' m''->oths m'=oths m->oths m''=oths m->m'.length=n->Calls Tryz.prog 11 #[peerV z b r s y (.slice a' n c'),peerV z b r s y (.slice a'' n c'')] W fun e w'=>e=.returned (.bool true)/\Below W.heap.size W w'):=fun W a' a'' c' c'' m' m'' h1 h2 h3 h4 h5=>eqP_any z b r s y a' a'' n c' c'' m' m'' W h1 h2 (h3.trans h4.symm) h5 (by omega) (small_of h3 hsm)
  have HMP:Hid (∀ W lo hi (v:Value) (m':List MO),RowM W lo hi v m'->oths m'=oths m->∃ K:Nat,Calls Tryz.prog 12 #[peerV z b r s y v,.int .i64 1] W fun e w'=>e=.returned (.int .i64 (K:Int))/\Chg lo hi W w'):=fun W lo hi v m' hr hq=>by
   have hln:m'.length=n:=by rw[<-oths_length,hq,oths_length,hm]
   have hbd:=mkE_bd (oths m) 1
   rw[oths_length,hm]at hbd
   have hmk:=markP_any z b r s y 1 lo hi v m' W hr (by omega) (fun x hx=>(small_of hq hsm x hx).1) (by omega) (by rw[hq];omega)
   refine⟨mkE 1 (oths m'),Calls.mono (R':=fun e w'=>e=.returned (.int .i64 (mkE 1 (oths m'):Nat))/\Chg lo hi W w') hmk ?_⟩
   rintro e w' ⟨rfl,_,hc,_⟩
   exact⟨rfl,hc⟩
  generalize meetP (fitR z b r) z b r s y (oths m) nm=p at HI HS HF
  generalize r.size+s.size+(n+tot (oths m))=K at HZ h1
  have HEQ:=hideK (fun (W:World) (lo hi lo' hi':Nat) (vo vs vo' vs':Value) (h1:Ans W lo hi vo vs p) (h2:Ans W lo' hi' vo' vs' p)=>eqA h1 h2 HF.out)
  have HMA:=hideK (fun (W:World) (lo hi:Nat) (vo vs:Value) (h1:AnsN W lo hi vo vs p)=>markA h1 HF.out)
  have HHA:=hideK (fun (W:World) (lo hi:Nat) (vo vs:Value) (h1:AnsM W lo hi vo vs p)=>heldA h1 HF.out)
  have HOA:=hideK (fun (W:World) (base:Nat) (e:Ending) (h1:OwnPO W base e p)=>own_ans h1)
  have HON:=hideK (fun (W:World) (base:Nat) (e:Ending) (h1:OwnPN W base e p)=>own_ansN h1)
  have HSH:=hideK (fun (W:World) (lo hi:Nat) (vo vs:Value) (h1:Ans W lo hi vo vs p)=>h1.shape)
  generalize hKK:ansK p=KK at HMA HHA
  have hK0:¬(KK:Int)<0:=by omega
  have hK1:decide ((KK:Int)<0)=false:=by simp
  have hK2:((KK:Int) != (KK:Int))=false:=by simp
  clear hKK hos hsm hl
  generalize p.z=pz at HEQ HMA HHA HOA HON
  generalize p.b=pb at HEQ HMA HHA HOA HON
  generalize p.r=pr at HEQ HMA HHA HOA HON
  generalize p.s=ps at HEQ HMA HHA HOA HON
  generalize p.y=py at HEQ HMA HHA HOA HON
  generalize p.c=pc at HEQ HMA HHA HOA HON
  generalize p.os.length=no at HSH
  generalize p.ss.length=ns at HSH
  unfold lpV at HZ HT ⊢
  unfold peerV at HT HS HI HQ HMP
  unfold poV at HEQ HMA HHA HOA HON
  go_enter Tryz.func3,Tryz.ntmps3
  go_wp2_with fail
  generalize w.alloc _=wa at C0 ⊢
  refine(HZ.out _ C0.out.low).mono ?_
  rintro e w1 ⟨rfl,hb⟩
  have C1:=hideK (C0.out.call hb)
  clear hb C0 HZ
  obtain⟨c0,c1,c2,c3,c4,c5⟩:=cellsP6 (C1.out.get 0 rfl)
  go_wp2_with fail
  refine(HT.out _ C1.out.low).mono ?_
  rintro e w2 ⟨g2,m2,rfl,hmo,hb⟩
  obtain⟨ho2,hl2⟩:=hmo.oths
  have HS2:=hideK (HS.out w2 (some ⟨g2,0,none⟩) n m2 ho2 hl2 hmo.os)
  have C2:=hideK (C1.out.call hb)
  clear hb C1 c0 c1 c2 c3 c4 c5 hmo ho2 hl2
  go_wp2_with fail
  refine(HS2.out).mono ?_
  rintro e w3 ⟨hop,hb⟩
  obtain⟨vo3,vs3,rfl,ha3⟩:=HOA.out _ _ _ hop
  obtain⟨ao3,co3,as3,cs3,hvo3,hvs3⟩:=HSH.out _ _ _ _ _ ha3
  subst hvo3 hvs3
  have z2:=lt_rowK (C2.out.get 0 rfl)
  have z3:=hb.size
  have C3:=hideK ((C2.out.call hb).new (.cells #[.int .i64 pz,.int .i64 pb,.string pr,.string ps,.int .i64 py,.slice ao3 no co3,.slice as3 ns cs3,.int .i64 pc] 38))
  have A3:=hideK (ha3.call ((Below.refl _ _).alloc (Nat.le_refl _) (.cells #[.int .i64 pz,.int .i64 pb,.string pr,.string ps,.int .i64 py,.slice ao3 no co3,.slice as3 ns cs3,.int .i64 pc] 38)))
  clear hb C2 HS HS2 hop ha3 HOA
  go_upto_region 8 with fail
  have z4:w3.heap.size<(w3.alloc (.cells #[.int .i64 pz,.int .i64 pb,.string pr,.string ps,.int .i64 py,.slice ao3 no co3,.slice as3 ns cs3,.int .i64 pc] 38)).heap.size:=lt_rowK (C3.out.get 0 rfl)
  generalize w3.alloc _=W3 at C3 A3 z4 ⊢
  obtain⟨c0,c1,c2,c3,c4,c5⟩:=cellsP6 (C3.out.get 1 rfl)
  go_wp2_with fail
  refine(HT.out _ C3.out.low).mono ?_
  rintro e w4 ⟨g4,m4,rfl,hmo,hb⟩
  have z5:=hb.size
  have R4:=hideK (hmo.rowM)
  have M4:=hideK (hmo.call ((Below.refl _ _).alloc (Nat.le_refl _) (.cells #[.int .i64 z,.int .i64 b,.string r,.string s,.int .i64 y,.slice (some ⟨g4,0,none⟩) n n] 35)))
  have A4:=hideK ((A3.out.call hb).call ((Below.refl _ _).alloc (Nat.le_refl _) (.cells #[.int .i64 z,.int .i64 b,.string r,.string s,.int .i64 y,.slice (some ⟨g4,0,none⟩) n n] 35)))
  have C4:=hideK ((C3.out.call hb).new (.cells #[.int .i64 z,.int .i64 b,.string r,.string s,.int .i64 y,.slice (some ⟨g4,0,none⟩) n n] 35))
  have R5:=hideK (R4.out.call ((Below.refl _ _).alloc (Nat.le_refl _) (.cells #[.int .i64 z,.int .i64 b,.string r,.string s,.int .i64 y,.slice (some ⟨g4,0,none⟩) n n] 35)))
  clear hb C3 c0 c1 c2 c3 c4 c5 hmo R4 A3
  go_upto_region 9 with fail
  have z6:w4.heap.size<(w4.alloc (.cells #[.int .i64 z,.int .i64 b,.string r,.string s,.int .i64 y,.slice (some ⟨g4,0,none⟩) n n] 35)).heap.size:=lt_rowK (C4.out.get 0 rfl)
  generalize w4.alloc _=W4 at C4 M4 R5 A4 z6 ⊢
  obtain⟨ho4,hl4⟩:=M4.out.oths
  have HI4:=hideK (HI.out W4 C4.out.low (some ⟨g4,0,none⟩) n m4 ho4 hl4 M4.out.os)
  clear ho4 hl4
  obtain⟨d0,d1,d2,d3,d4,d5⟩:=cellsP6 (C4.out.get 0 rfl)
  go_wp2_with fail
  refine(HI4.out).mono ?_
  rintro e w5 ⟨hop,hb⟩
  obtain⟨vo5,vs5,rfl,ha5⟩:=HON.out _ _ _ hop
  obtain⟨ao5,co5,as5,cs5,hvo5,hvs5⟩:=HSH.out _ _ _ _ _ ha5.ans
  subst hvo5 hvs5
  have z7:=hb.size
  have BN5:Hid (Below w5.heap.size w5 (w5.alloc (.cells #[.int .i64 pz,.int .i64 pb,.string pr,.string ps,.int .i64 py,.slice ao5 no co5,.slice as5 ns cs5,.int .i64 pc] 38))):=(Below.refl _ _).alloc (Nat.le_refl _) _
  have C5:=hideK ((C4.out.call hb).new (.cells #[.int .i64 pz,.int .i64 pb,.string pr,.string ps,.int .i64 py,.slice ao5 no co5,.slice as5 ns cs5,.int .i64 pc] 38))
  have M5:=hideK ((M4.out.call hb).call BN5.out)
  have R6:=hideK ((R5.out.call hb).call BN5.out)
  have A5:=hideK ((A4.out.call hb).call BN5.out)
  have N5:=hideK (ha5.call BN5.out)
  clear hb C4 M4 HI4 d0 d1 d2 d3 d4 d5 hop ha5 R5 A4 BN5
  go_upto_region 10 with fail
  have z8:w5.heap.size<(w5.alloc (.cells #[.int .i64 pz,.int .i64 pb,.string pr,.string ps,.int .i64 py,.slice ao5 no co5,.slice as5 ns cs5,.int .i64 pc] 38)).heap.size:=lt_rowK (C5.out.get 0 rfl)
  generalize w5.alloc _=W5 at C5 M5 R6 A5 N5 z8 ⊢
  obtain⟨q0,q1,q2,q3,q4,q5,q6,q7⟩:=cellsP8 (C5.out.get 0 rfl)
  obtain⟨r0,r1,r2,r3,r4,r5,r6,r7⟩:=cellsP8 (C5.out.get 2 rfl)
  have HE5:=hideK (HEQ.out W5 _ _ _ _ _ _ _ _ N5.out.ans A5.out)
  go_wp2_with fail
  refine HE5.out.mono ?_
  rintro e w6 ⟨rfl,hb⟩
  have C6:=hideK (C5.out.call hb)
  have M6:=hideK (M5.out.call hb)
  have R7:=hideK (R6.out.call hb)
  have A6:=hideK (A5.out.call hb)
  have N6:=hideK (N5.out.call hb)
  have z9:=hb.size
  clear hb C5 M5 R6 A5 N5 HE5 q0 q1 q2 q3 q4 q5 q6 q7 r0 r1 r2 r3 r4 r5 r6 r7
  obtain⟨d0,d1,d2,d3,d4,d5⟩:=cellsP6 (C6.out.get 1 rfl)
  obtain⟨c0,c1,c2,c3,c4,c5⟩:=cellsP6 (C6.out.get 3 rfl)
  go_upto_region 12 with fail
  go_cut [38] from 34 to 37 (fun s38 wx=>s38=.bool false/\Below w6.heap.size w6 wx)
  case first =>
   go_region_with ((first|(go_at_call 8;refine(HT.out _ (C6.out.low.drew)).mono ?_;rintro e w7 ⟨g7,m7,rfl,hmo,hb⟩;have M7:=hideK hmo;have C7:=hideK (C6.out.drew.call hb);have B7:=hideK (lowL ((Below.refl w6.heap.size w6).drew) hb);have MM7:=hideK ((M6.out.call ((Below.refl _ w6).drew)).call hb);clear hb hmo;obtain⟨f0,f1,f2,f3,f4,f5⟩:=cellsP6 (C7.out.get 1 rfl))|(go_at_call 11;refine(HQ.out _ _ _ _ _ _ _ MM7.out.oths.1 M7.out.oths.1 MM7.out.os M7.out.os MM7.out.oths.2).mono ?_;rintro e w8 ⟨rfl,hb⟩;have B8:=hideK (lowL B7.out hb);clear hb)))
   all_goals (try go_wp2_with fail)
   all_goals go_meet
   all_goals exact⟨rfl,B8.out⟩
  case rest =>
   obtain⟨rfl,hbx⟩:=hcut
   have C8:=hideK (C6.out.call hbx)
   have R8:=hideK (R7.out.call hbx)
   have A8:=hideK (A6.out.call hbx)
   have N8:=hideK (N6.out.call hbx)
   have z10:=hbx.size
   clear hbx C6 R7 A6 N6 d0 d1 d2 d3 d4 d5 c0 c1 c2 c3 c4 c5
   obtain⟨d0,d1,d2,d3,d4,d5⟩:=cellsP6 (C8.out.get 1 rfl)
   obtain⟨KM,hKM⟩:=HMP.out wc _ _ _ _ R8.out M6.out.os
   have HKM:=hideK hKM
   clear hKM HMP
   have hk1:¬(KM:Int)<0:=by omega
   have hk2:decide ((KM:Int)<0)=false:=by simp
   go_wp2_with fail
   refine HKM.out.mono ?_
   rintro e w9 ⟨rfl,hc9⟩
   have A9:=hideK (A8.out.chg hc9 (by omega))
   have N9:=hideK (N8.out.chg hc9 (by omega))
   have C9:=hideK (cx_chgL C8.out hc9 (by have:=C8.out.low.size;omega) (fun x hx=>by
    simp only[List.mem_cons,List.not_mem_nil,or_false]at hx
    rcases hx with rfl|rfl|rfl|rfl<;>dsimp only<;>omega))
   have z11:=hc9.size
   clear hc9 C8 A8 N8 R8 d0 d1 d2 d3 d4 d5
   obtain⟨q0,q1,q2,q3,q4,q5,q6,q7⟩:=cellsP8 (C9.out.get 0 rfl)
   obtain⟨r0,r1,r2,r3,r4,r5,r6,r7⟩:=cellsP8 (C9.out.get 2 rfl)
   have HE9:=hideK (HEQ.out w9 _ _ _ _ _ _ _ _ N9.out.ans A9.out)
   go_wp2_with fail
   refine HE9.out.mono ?_
   rintro e w10 ⟨rfl,hb⟩
   have C10:=hideK (C9.out.call hb)
   have A10:=hideK (A9.out.call hb)
   have N10:=hideK (N9.out.call hb)
   have z12:=hb.size
   clear hb C9 A9 N9 HE9 q0 q1 q2 q3 q4 q5 q6 q7 r0 r1 r2 r3 r4 r5 r6 r7
   obtain⟨q0,q1,q2,q3,q4,q5,q6,q7⟩:=cellsP8 (C10.out.get 0 rfl)
   have HM10:=hideK (HMA.out w10 _ _ _ _ N10.out)
   go_wp2_with fail
   refine HM10.out.mono ?_
   rintro e w11 ⟨rfl,hmk,hc11⟩
   have A11:=hideK (A10.out.chg hc11 (by omega))
   have K11:=hideK hmk
   have C11:=hideK (cx_chgL C10.out hc11 (by have:=C10.out.low.size;omega) (fun x hx=>by
    simp only[List.mem_cons,List.not_mem_nil,or_false]at hx
    rcases hx with rfl|rfl|rfl|rfl<;>dsimp only<;>omega))
   have z13:=hc11.size
   clear hc11 hmk C10 A10 N10 HM10 q0 q1 q2 q3 q4 q5 q6 q7
   obtain⟨q0,q1,q2,q3,q4,q5,q6,q7⟩:=cellsP8 (C11.out.get 0 rfl)
   have HH11:=hideK (HHA.out w11 _ _ _ _ K11.out)
   go_wp2_with fail
   refine HH11.out.mono ?_
   rintro e w12 ⟨rfl,hb⟩
   have C12:=hideK (C11.out.call hb)
   have A12:=hideK (A11.out.call hb)
   have K12:=hideK (K11.out.call hb)
   clear hb C11 A11 K11 HH11 q0 q1 q2 q3 q4 q5 q6 q7
   obtain⟨c0,c1,c2,c3,c4,c5⟩:=cellsP6 (C12.out.get 3 rfl)
   go_wp2_with fail
   refine(HT.out _ C12.out.low).mono ?_
   rintro e w13 ⟨g13,m13,rfl,hmo,hb⟩
   obtain⟨ho13,hl13⟩:=hmo.oths
   have C13:=hideK (C12.out.call hb)
   have HI13:=hideK (HI.out w13 C13.out.low (some ⟨g13,0,none⟩) n m13 ho13 hl13 hmo.os)
   have A13:=hideK (A12.out.call hb)
   have K13:=hideK (K12.out.call hb)
   clear hb C12 c0 c1 c2 c3 c4 c5 hmo ho13 hl13 A12 K12
   go_wp2_with fail
   refine HI13.out.mono ?_
   rintro e w14 ⟨hop,hb⟩
   obtain⟨vo14,vs14,rfl,ha14⟩:=HON.out _ _ _ hop
   obtain⟨ao14,co14,as14,cs14,hvo14,hvs14⟩:=HSH.out _ _ _ _ _ ha14.ans
   subst hvo14 hvs14
   have BN14:Hid (Below w14.heap.size w14 (w14.alloc (.cells #[.int .i64 pz,.int .i64 pb,.string pr,.string ps,.int .i64 py,.slice ao14 no co14,.slice as14 ns cs14,.int .i64 pc] 38))):=(Below.refl _ _).alloc (Nat.le_refl _) _
   have C14:=hideK ((C13.out.call hb).new (.cells #[.int .i64 pz,.int .i64 pb,.string pr,.string ps,.int .i64 py,.slice ao14 no co14,.slice as14 ns cs14,.int .i64 pc] 38))
   have A14:=hideK ((A13.out.call hb).call BN14.out)
   have K14:=hideK ((K13.out.call hb).call BN14.out)
   have N14:=hideK (ha14.ans.call BN14.out)
   clear hb C13 A13 K13 hop ha14 HI13 BN14
   go_upto_region 27 with fail
   generalize w14.alloc _=W14 at C14 A14 K14 N14 ⊢
   obtain⟨q0,q1,q2,q3,q4,q5,q6,q7⟩:=cellsP8 (C14.out.get 0 rfl)
   obtain⟨r0,r1,r2,r3,r4,r5,r6,r7⟩:=cellsP8 (C14.out.get 3 rfl)
   have HE14:=hideK (HEQ.out W14 _ _ _ _ _ _ _ _ N14.out A14.out)
   go_wp2_with fail
   refine HE14.out.mono ?_
   rintro e w15 ⟨rfl,hb⟩
   have C15:=hideK (C14.out.call hb)
   have K15:=hideK (K14.out.call hb)
   clear hb C14 K14 HE14 q0 q1 q2 q3 q4 q5 q6 q7 r0 r1 r2 r3 r4 r5 r6 r7
   obtain⟨q0,q1,q2,q3,q4,q5,q6,q7⟩:=cellsP8 (C15.out.get 1 rfl)
   have HH15:=hideK (HHA.out w15 _ _ _ _ K15.out)
   go_wp2_with fail
   refine HH15.out.mono ?_
   rintro e w16 ⟨rfl,hb⟩
   have C16:=hideK (C15.out.call hb)
   clear hb C15
   go_wp2_with fail
   go_ret
   exact⟨rfl,C16.out.low⟩
 ·rw[szV_no (by omega)]at HZ
  unfold lpV at HZ ⊢
  go_enter Tryz.func3,Tryz.ntmps3
  go_wp2_with fail
  generalize w.alloc _=wa at C0 ⊢
  refine(HZ.out _ C0.out.low).mono ?_
  rintro e w1 ⟨rfl,hb⟩
  have C1:=hideK (C0.out.call hb)
  clear hb C0
  go_wp2_with fail
  go_ret
  exact⟨rfl,C1.out.low⟩
end Go.Proofs.YtpddanmnlkcdpaaGreatDoor.fnExactMeet

