/- Texts put together: HearLaw, FnExactHearLift. -/
import Derived.Test.YtpddanmnlkcdpaaGreatDoorHz46
import Derived.Test.YtpddanmnlkcdpaaGreatDoorHz48
import Derived.Test.YtpddanmnlkcdpaaGreatDoorHz51
import Derived.Test.YtpddanmnlkcdpaaGreatDoorCards
import Derived.Test.YtpddanmnlkcdpaaGreatDoorTie
import Derived.WalkKit
import Derived.ProofKit
import Derived.OpenShut
import Derived.ShutString
import Derived.ChangeOld
import Derived.Below
import Derived.OpenVars
import Derived.ChangeSame
import Derived.ChangeVars
import Derived.JoinedOf
import Derived.RowKit
import Derived.SliceStrings
import Derived.Lib.SmallJoins
import Derived.LaidLaws
import Derived.LaidMore
import Derived.Stop.Joined
import Derived.SevenTiedAt
set_option maxRecDepth 100000
set_option maxHeartbeats 8000000
namespace Go.Proofs.YtpddanmnlkcdpaaGreatDoor.fnExactHear
open Go.RowKit
open Kp
open Pe
open Pl
open Tk (sayV sayO cells4 OwnPF hear_impl hear_spec)
open Hr (hearP fineHP fitW fitW_impl fitW_spec fitW_small fitA_of fitF_fit szSay_any eqSay_any markSay_any toSay_any lsO)
open Ls (HH hh_keep lV rightB vars_keepF lowL)
open Sh (Vars)
open St (Strs OwnIn mark_from)
theorem low_keep {w0 w w':World} (h:Below w0.heap.size w0 w) (hb:Below w.heap.size w w'):Below w0.heap.size w0 w':=h.trans (hb.mono h.size)
theorem lq_alloc {w W:World} (h:Below w.heap.size w W) (o:Obj):Below w.heap.size w (W.alloc o):=h.alloc h.size o
theorem lq_set {w W:World} {g i:Nat} (h:Below w.heap.size w W) (hg:w.heap.size<=g) (v:Value):Below w.heap.size w (W.setCell ⟨g,i,none⟩ v):=h.setCell (p:=⟨g,i,none⟩) hg v
theorem lq_drew {w W:World} (h:Below w.heap.size w W):Below w.heap.size w W.drew:=h.drew
theorem own_more {W W':World} {lo:Nat} {v:Value} {p:List ByteArray} (h:OwnIn W lo W.heap.size v p) (hb:Below W.heap.size W W'):OwnIn W' lo W'.heap.size v p:=by
 rcases h.below hb (Nat.le_refl _) with h|⟨g,cap,hv,h1,h2,h3⟩
 ·exact .inl h
 ·exact .inr ⟨g,cap,hv,h1,by have:=hb.size;omega,h3⟩
theorem own_strs {W:World} {lo hi g n c:Nat} {p:List ByteArray} (h:OwnIn W lo hi (.slice (some ⟨g,0,none⟩) n c) p) (hh:hi<=W.heap.size):Strs W W.heap.size (some ⟨g,0,none⟩) p:=by
 obtain⟨a,cap,hv,hs⟩:=h.strs
 cases hv
 exact hs.mono hh
theorem own_hi {W:World} {lo hi:Nat} {v:Value} {p:List ByteArray} (h:OwnIn W lo hi v p) (hh:hi<=W.heap.size):OwnIn W lo W.heap.size v p:=by
 rcases h with h|⟨g,cap,hv,h1,h2,h3⟩
 ·exact .inl h
 ·exact .inr ⟨g,cap,hv,h1,by omega,h3⟩
theorem own_keepB {W W':World} {lo hi:Nat} {v:Value} {p:List ByteArray} (h:OwnIn W lo hi v p) (hh:hi<=W.heap.size) (hb:Below W.heap.size W W'):OwnIn W' lo hi v p:=h.below hb hh
theorem own_chg {W W':World} {lo hi lo' hi':Nat} {v:Value} {p:List ByteArray} (h:OwnIn W lo hi v p) (hh:hi<=W.heap.size) (hc:Chg lo' hi' W W') (ho:hi<=lo'∨hi'<=lo):OwnIn W' lo hi v p:=by
 rcases h with h|⟨g,cap,hv,h1,h2,h3⟩
 ·exact .inl h
 ·exact .inr ⟨g,cap,hv,h1,h2,h3.of_heap (hc.block g (by omega) (by omega))⟩
theorem mkE_pos:∀ (l:List Oth) (k:Nat),0<k->0<mkE k l
 |[],k,h=>by unfold mkE;exact h
 |o :: l,k,h=>by
  rw[mkE]
  exact mkE_pos l _ (by unfold mkN;omega)
theorem keep_small {fit:Rec->Bool} {z b:Int} {r s:ByteArray} {y:Int} (h:keepB fit z b r s y=true):s.size<=8000:=by
 unfold keepB atB mayB at h
 simp only[Bool.and_eq_true,decide_eq_true_eq]at h
 omega
def At8 (w wr W:World) (l:List (Nat × Obj)) (no ns:Nat) (pz pb:Int) (pr ps:ByteArray) (py pc:Int) (q:PO) (v:Value):Prop :=
 ∃ g lo hi ao co as' cs,v=.pointer (some ⟨g,0,none⟩)/\Cx w W ((g,.cells #[.int .i64 pz,.int .i64 pb,.string pr,.string ps,.int .i64 py,.slice ao no co,.slice as' ns cs,.int .i64 pc] 38) :: l)/\Ans W lo hi (.slice ao no co) (.slice as' ns cs) q/\hi<=W.heap.size/\Below wr.heap.size wr W
theorem at8_set {w wr W:World} {l:List (Nat × Obj)} {no ns g lo co cs:Nat} {pz pb:Int} {pr ps:ByteArray} {py pc:Int} {q:PO} {ao as':Option Addr} (h:Cx w W ((g,.cells #[.int .i64 0,.int .i64 0,.string ⟨#[]⟩,.string ⟨#[]⟩,.int .i64 0,.slice none 0 0,.slice none 0 0,.int .i64 0] 38) :: l)) (hl:∀ x∈l,x.1<wr.heap.size) (hg:wr.heap.size<=g) (hw:w.heap.size<=wr.heap.size) (ha:Ans W lo W.heap.size (.slice ao no co) (.slice as' ns cs) q) (hlo:g<lo) (hb:Below wr.heap.size wr W) :
  At8 w wr ((((((((W.setCell ⟨g,0,none⟩ (.int .i64 pz)).setCell ⟨g,1,none⟩ (.int .i64 pb)).setCell ⟨g,2,none⟩ (.string pr)).setCell ⟨g,3,none⟩ (.string ps)).setCell ⟨g,4,none⟩ (.int .i64 py)).setCell ⟨g,5,none⟩ (.slice ao no co)).setCell ⟨g,6,none⟩ (.slice as' ns cs)).setCell ⟨g,7,none⟩ (.int .i64 pc)) l no ns pz pb pr ps py pc q (.pointer (some ⟨g,0,none⟩)):=by
 have hc:Chg g (g+1) W ((((((((W.setCell ⟨g,0,none⟩ (.int .i64 pz)).setCell ⟨g,1,none⟩ (.int .i64 pb)).setCell ⟨g,2,none⟩ (.string pr)).setCell ⟨g,3,none⟩ (.string ps)).setCell ⟨g,4,none⟩ (.int .i64 py)).setCell ⟨g,5,none⟩ (.slice ao no co)).setCell ⟨g,6,none⟩ (.slice as' ns cs)).setCell ⟨g,7,none⟩ (.int .i64 pc)):=((((((((Chg.refl g (g+1) W).set (Nat.le_refl _) (Nat.lt_succ_self _) _).set (Nat.le_refl _) (Nat.lt_succ_self _) _).set (Nat.le_refl _) (Nat.lt_succ_self _) _).set (Nat.le_refl _) (Nat.lt_succ_self _) _).set (Nat.le_refl _) (Nat.lt_succ_self _) _).set (Nat.le_refl _) (Nat.lt_succ_self _) _).set (Nat.le_refl _) (Nat.lt_succ_self _) _).set (Nat.le_refl _) (Nat.lt_succ_self _) _
 refine⟨g,lo,W.heap.size,ao,co,as',cs,rfl,⟨setP8_low h.low (Nat.le_trans hw hg) _ _ _ _ _ _ _ _,fun x hx=>?_⟩,ha.chg hc (.inr hlo),?_,setP8_low hb hg _ _ _ _ _ _ _ _⟩
 ·rcases List.mem_cons.1 hx with rfl|hx
  ·exact setP8 (h.get 0 rfl) _ _ _ _ _ _ _ _
  ·exact setP8_keep (h.blk x (List.mem_cons_of_mem _ hx)) (by have:=hl x hx;omega) _ _ _ _ _ _ _ _
 ·exact hc.size
theorem at8_new {w wr W:World} {l:List (Nat × Obj)} {no ns lo co cs:Nat} {pz pb:Int} {pr ps:ByteArray} {py pc:Int} {q:PO} {ao as':Option Addr} (h:Cx w W l) (ha:Ans W lo W.heap.size (.slice ao no co) (.slice as' ns cs) q) (hb:Below wr.heap.size wr W) :
  At8 w wr (W.alloc (.cells #[.int .i64 pz,.int .i64 pb,.string pr,.string ps,.int .i64 py,.slice ao no co,.slice as' ns cs,.int .i64 pc] 38)) l no ns pz pb pr ps py pc q (.pointer (some ⟨W.heap.size,0,none⟩)) :=
 ⟨W.heap.size,lo,W.heap.size,ao,co,as',cs,rfl,h.new _,ha.call ((Below.refl _ _).alloc (Nat.le_refl _) _),((Below.refl W.heap.size W).alloc (Nat.le_refl _) _).size,lq_alloc hb _⟩
theorem peer_small {fit:Rec->Bool} {z b:Int} {r s:ByteArray} {y:Int} {l:List Oth} (h:peerB fit z b r s y l=true):s.size<=8000:=by
 unfold peerB at h
 simp only[Bool.and_eq_true]at h
 exact keep_small h.1
theorem p_impl (z b:Int) (r s:ByteArray) (y:Int) (n:Nat) (m:List MO) (nm:ByteArray) (k i:Int) (t:ByteArray) (p:List ByteArray) (hs:s.size<=1048576) (hn:n<=1048576) (hsm:Small m) (ht:t.size<=maxLen) (hp:p.length<=1048576) (W:World) (hh:HH W) (hV:Vars W) (g1:Nat) (mo:List MO) (g2 lo:Nat) (h1:Oths W W.heap.size (some ⟨g1,0,none⟩) mo) (h2:mo.length=n) (h3:oths mo=oths m) (h4:OwnIn W lo W.heap.size (.slice (some ⟨g2,0,none⟩) p.length p.length) p) :
  Calls Tryz.prog 18 #[peerV z b r s y (.slice (some ⟨g1,0,none⟩) n n),.string nm,sayV k i t (.slice (some ⟨g2,0,none⟩) p.length p.length)] W fun e w'=>OwnPF w' W.heap.size e (hearP (fitR z b r) (fitW z b r) z b r s y (oths m) nm k (i,t,p))/\Below W.heap.size W w':=by
 have hst:=own_strs h4 (Nat.le_refl _)
 have:=hear_impl (fitR z b r) (fitW z b r) z b r s y (some ⟨g1,0,none⟩) n n mo nm k i t p (some ⟨g2,0,none⟩) p.length W hs hh (fitC_of z b r W hV) (fitF_fit z b r) (fitA_of z b r) (fitW_impl z b r i t p _ _ W ht hp (Nat.le_refl _) hst hV) fitW_small h1 h2 hn (small_of h3 hsm) (Nat.le_refl _) hst
 rw[h3]at this
 exact this
theorem p_spec (z b:Int) (r s:ByteArray) (y:Int) (n:Nat) (m:List MO) (nm:ByteArray) (k i:Int) (t:ByteArray) (p:List ByteArray) (hs:s.size<=1048576) (hn:n<=1048576) (hsm:Small m) (hp:p.length<=1048576) (W:World) (g1:Nat) (mo:List MO) (g2 lo:Nat) (h1:Oths W W.heap.size (some ⟨g1,0,none⟩) mo) (h2:mo.length=n) (h3:oths mo=oths m) (h4:OwnIn W lo W.heap.size (.slice (some ⟨g2,0,none⟩) p.length p.length) p) :
  Calls Tryz.prog 16 #[peerV z b r s y (.slice (some ⟨g1,0,none⟩) n n),.string nm,sayV k i t (.slice (some ⟨g2,0,none⟩) p.length p.length)] W fun e w'=>OwnPF w' W.heap.size e (hearP (fitR z b r) (fitW z b r) z b r s y (oths m) nm k (i,t,p))/\Below W.heap.size W w':=by
 have hst:=own_strs h4 (Nat.le_refl _)
 have:=hear_spec (fitR z b r) (fitW z b r) z b r s y (some ⟨g1,0,none⟩) n n mo nm k i t p (some ⟨g2,0,none⟩) p.length W hs peer_small (fun hq=>fitS_of z b r W hq) (fitF_fit z b r) (fun hq=>fitW_spec z b r i t p _ _ W hq hp hst) fitW_small h1 h2 hn (small_of h3 hsm) (Nat.le_refl _) (fun e=>by cases e) hst
 rw[h3]at this
 exact this
theorem markSayP (k i:Int) (t:ByteArray) (p:List ByteArray) (g lo hi q:Nat) (W:World) (h:OwnIn W lo hi (.slice (some ⟨g,0,none⟩) p.length p.length) p) (hp:p.length<=1048576) (h0:0<q) (hq:q<=549755813888) :
  Calls Tryz.prog 20 #[sayV k i t (.slice (some ⟨g,0,none⟩) p.length p.length),.int .i64 (q:Int)] W fun e w'=>e=.returned (.int .i64 ((q+p.length:Nat):Int))/\Chg lo hi W w':=by
 refine markSay_any k i t _ (q:Int) (Chg lo hi W) _ W ⟨_,_,_,rfl⟩ fun V hV=>?_
 rcases h with⟨h,_⟩|⟨g',cap,hv,h1,h2,ho⟩
 ·cases h
 ·cases hv
  refine(mark_from g 9 _ q p V (ho.below hV ho.lt) hp h0 hq).mono ?_
  rintro e w' ⟨rfl,_,ha⟩
  exact⟨rfl,Pl.Chg.more ((Chg.refl lo hi W).call hV) ⟨ha.1,ha.2.1,ha.2.2.1,ha.2.2.2.1,fun j hj hne=>ha.2.2.2.2 j hj (by omega)⟩⟩
theorem walk (z b:Int) (r s:ByteArray) (y:Int) (a:Option Addr) (n cap:Nat) (m:List MO) (hr:r.size<=maxLen) (hs:s.size<=maxLen) (hm:m.length=n) (hn:n<=maxLen) (hl:Lens m) (nm:ByteArray) (k i:Int) (t:ByteArray) (p:List ByteArray) (a2:Option Addr) (c2:Nat) (ht:t.size<=maxLen) (hpl:p.length<=maxLen) (hpz:∀ q∈p,q.size<=maxLen) (w:World) (hos:Oths w w.heap.size a m) (hst:Strs w w.heap.size a2 p) (hh:HH w) (hV:Vars w) :
  Calls Tryz.prog 4 #[lpV z b r s y (.slice a n cap),.string nm,sayV k i t (.slice a2 p.length c2)] w fun e w'=>e=.returned (.bool true)/\Below w.heap.size w w':=by
 have C0:=hideK (((Cx.nil w).new (lpO z b r s y (.slice a n cap))).new (lsO k i t (.slice a2 p.length c2)))
 simp only[World.size_alloc]at C0
 unfold lpO lsO at C0
 have HZ:=hideK (fun W (hW:Below w.heap.size w W)=>szP_any z b r s y a n cap m W ((hos.below hW).mono hW.size) hm hr hs hn hl)
 by_cases hnl:1048576<nm.size
 ·have hnI:(1048576:Int)<(nm.size:Int):=by omega
  unfold lpV at HZ ⊢
  unfold sayV
  go_enter Tryz.func4,Tryz.ntmps4
  go_wp2_with fail
  go_ret
  exact⟨rfl,C0.out.low⟩
 have hnI:¬(1048576:Int)<(nm.size:Int):=by omega
 have hnD:decide ((1048576:Int)<(nm.size:Int))=false:=by simp;omega
 by_cases h:r.size+s.size+(n+tot (oths m))<=1048576
 ·have hsm:Small m:=small_lens (K:=r.size+s.size+n) (by omega) hl
  rw[szV_yes (by omega)]at HZ
  obtain⟨LL,hLL,hLLb⟩:∃ LL:Nat,(1048576-((r.size+s.size+(n+tot (oths m)):Nat):Int))=(LL:Int)/\LL<=1048576:=⟨1048576-(r.size+s.size+(n+tot (oths m))),by omega,by omega⟩
  rw[hLL]at HZ
  clear hLL
  have h1:¬(LL:Int)<0:=by omega
  have h1d:decide ((LL:Int)<0)=false:=by simp
  have HZS:=hideK (fun W (hW:Below w.heap.size w W)=>szSay_any k i t p a2 c2 LL W ((hst.below hW).mono hW.size) ht hpl hpz hLLb)
  have HT:=hideK (fun W (hW:Below w.heap.size w W)=>toP_any z b r s y a n cap m W ((hos.below hW).mono hW.size) hm (by omega) hsm)
  have HY:=hideK (fun W (hW:Below w.heap.size w W) (hp:p.length<=1048576)=>toSay_any k i t p a2 c2 W ((hst.below hW).mono hW.size) hp)
  have HS:=hideK (fun (hp:p.length<=1048576) W (_:Below w.heap.size w W)=>p_spec z b r s y n m nm k i t p (by omega) (by omega) hsm hp W)
  have HI:=hideK (fun (hp:p.length<=1048576) W (hW:Below w.heap.size w W)=>p_impl z b r s y n m nm k i t p (by omega) (by omega) hsm ht hp W (hh_keep hh hW) (vars_keepF hV hW))
  have HF:=hideK (fineHP z b r (fitW z b r) s y m nm k (i,t,p) hsm).1
  have HQ:Hid (∀ W (a' a'':Option Addr) (c' c'':Nat) (m' m'':List MO),Oths W W.heap.size a' m'->Oths W W.heap.size a'' m''->oths m'=oths m->oths m''=oths m->m'.length=n->Calls Tryz.prog 11 #[peerV z b r s y (.slice a' n c'),peerV z b r s y (.slice a'' n c'')] W fun e w'=>e=.returned (.bool true)/\Below W.heap.size W w'):=fun W a' a'' c' c'' m' m'' h1 h2 h3 h4 h5=>eqP_any z b r s y a' a'' n c' c'' m' m'' W h1 h2 (h3.trans h4.symm) h5 (by omega) (small_of h3 hsm)
  have HQS:=hideK (fun (hp:p.length<=1048576) (W:World) (u v:Value) (lo hi lo' hi':Nat) (hu:OwnIn W lo hi u p) (hv:OwnIn W lo' hi' v p)=>eqSay_any k i t p u v lo hi lo' hi' W hu hv hp)
  have HMS:=hideK (fun (hp:p.length<=1048576) (W:World) (g lo hi q:Nat) (h0:OwnIn W lo hi (.slice (some ⟨g,0,none⟩) p.length p.length) p) (h1:0<q) (h2:q<=549755813888)=>markSayP k i t p g lo hi q W h0 hp h1 h2)
  have HMP:Hid (∀ W lo hi (v:Value) (m':List MO),RowM W lo hi v m'->oths m'=oths m->∃ K:Nat,0<K/\K<=549755813888/\Calls Tryz.prog 12 #[peerV z b r s y v,.int .i64 1] W fun e w'=>e=.returned (.int .i64 (K:Int))/\Chg lo hi W w'):=fun W lo hi v m' hr hq=>by
   have hln:m'.length=n:=by rw[<-oths_length,hq,oths_length,hm]
   have hbd:=mkE_bd (oths m) 1
   rw[oths_length,hm]at hbd
   have hmk:=markP_any z b r s y 1 lo hi v m' W hr (by omega) (fun x hx=>(small_of hq hsm x hx).1) (by omega) (by rw[hq];omega)
   refine⟨mkE 1 (oths m'),mkE_pos _ _ (by omega),by rw[hq];omega,Calls.mono (R':=fun e w'=>e=.returned (.int .i64 (mkE 1 (oths m'):Nat))/\Chg lo hi W w') hmk ?_⟩
   rintro e w' ⟨rfl,_,hc,_⟩
   exact⟨rfl,hc⟩
  generalize (hearP (fitR z b r) (fitW z b r) z b r s y (oths m) nm k (i,t,p))=q at HI HS HF
  generalize r.size+s.size+(n+tot (oths m))=K at h
  have HEQ:=hideK (fun (W:World) (lo hi lo' hi':Nat) (vo vs vo' vs':Value) (h1:Ans W lo hi vo vs q) (h2:Ans W lo' hi' vo' vs' q)=>eqA h1 h2 HF.out)
  have HMA:=hideK (fun (W:World) (lo hi:Nat) (vo vs:Value) (h1:AnsQ W lo hi vo vs q)=>markQ h1 HF.out)
  have HHA:=hideK (fun (W:World) (lo hi:Nat) (vo vs:Value) (h1:AnsQM W lo hi vo vs q)=>heldQ h1 HF.out)
  have HON:=hideK (fun (W:World) (base:Nat) (e:Ending) (h1:OwnPF W base e q)=>own_ansQ h1)
  have HSH:=hideK (fun (W:World) (lo hi:Nat) (vo vs:Value) (h1:Ans W lo hi vo vs q)=>h1.shape)
  generalize hKK:ansQ q=KK at HMA HHA
  have hK0:¬(KK:Int)<0:=by omega
  have hK1:decide ((KK:Int)<0)=false:=by simp
  have hK2:((KK:Int) != (KK:Int))=false:=by simp
  clear hKK hos hsm hl hst hpl hpz ht hLLb
  generalize q.z=pz at HEQ HMA HHA HON
  generalize q.b=pb at HEQ HMA HHA HON
  generalize q.r=pr at HEQ HMA HHA HON
  generalize q.s=ps at HEQ HMA HHA HON
  generalize q.y=py at HEQ HMA HHA HON
  generalize q.c=pc at HEQ HMA HHA HON
  generalize q.os.length=no at HSH
  generalize q.ss.length=ns at HSH
  unfold lpV at HZ HT ⊢
  unfold peerV at HT HS HI HQ HMP
  unfold sayV at HZS HY HS HI HQS HMS ⊢
  unfold poV at HEQ HMA HHA HON
  go_enter Tryz.func4,Tryz.ntmps4
  go_upto_region 4 with fail
  generalize (w.alloc _).alloc _=wa at C0 ⊢
  obtain⟨c0,c1,c2',c3,c4,c5⟩:=cellsP6 (C0.out.get 1 rfl)
  obtain⟨d0,d1,d2,d3⟩:=cells4 (C0.out.get 0 rfl)
  go_wp2_with fail
  refine(HZ.out _ C0.out.low).mono ?_
  rintro e w1 ⟨rfl,hb⟩
  have C1:=hideK (C0.out.call hb)
  clear hb C0 HZ c0 c1 c2' c3 c4 c5 d0 d1 d2 d3
  obtain⟨d0,d1,d2,d3⟩:=cells4 (C1.out.get 0 rfl)
  go_wp2_with fail
  refine(HZS.out _ C1.out.low).mono ?_
  rintro e w2 ⟨rr,rfl,hrr,hb⟩
  have C2:=hideK (C1.out.call hb)
  clear hb C1 HZS d0 d1 d2 d3
  by_cases hr0:rr<0
  ·have hdr:decide (rr<0)=true:=by simp;exact hr0
   clear hrr
   go_wp2_with fail
   go_ret
   exact⟨rfl,C2.out.low⟩
  have hdr:decide (rr<0)=false:=by simp;omega
  have hp:p.length<=1048576:=(hrr (by omega)).2.1
  have HP:=hideK hp
  clear hrr hp
  go_upto_region 10 with fail
  obtain⟨c0,c1,c2',c3,c4,c5⟩:=cellsP6 (C2.out.get 1 rfl)
  obtain⟨d0,d1,d2,d3⟩:=cells4 (C2.out.get 0 rfl)
  have HL:Hid (∀ x∈([(w.heap.size+1,.cells #[.int .i64 k,.int .i64 i,.string t,.slice a2 p.length c2] 48),(w.heap.size,.cells #[.int .i64 z,.int .i64 b,.string r,.string s,.int .i64 y,.slice a n cap] 28)]:List (Nat × Obj)),x.1<w2.heap.size):=fun x hx=>lt_rowK (C2.out.blk x hx)
  have CW:Hid (∀ V,Below w2.heap.size w2 V->(fun V=>V.cell? ⟨w.heap.size,0,none⟩=some (.int .i64 z)/\V.cell? ⟨w.heap.size,1,none⟩=some (.int .i64 b)/\V.cell? ⟨w.heap.size,2,none⟩=some (.string r)/\V.cell? ⟨w.heap.size,3,none⟩=some (.string s)/\V.cell? ⟨w.heap.size,4,none⟩=some (.int .i64 y)/\V.cell? ⟨w.heap.size,5,none⟩=some (.slice a n cap)/\V.cell? ⟨w.heap.size+1,0,none⟩=some (.int .i64 k)/\V.cell? ⟨w.heap.size+1,1,none⟩=some (.int .i64 i)/\V.cell? ⟨w.heap.size+1,2,none⟩=some (.string t)/\V.cell? ⟨w.heap.size+1,3,none⟩=some (.slice a2 p.length c2)) V):=fun V hV=>by
   obtain⟨c0,c1,c2,c3,c4,c5⟩:=cellsP6 ((C2.out.call hV).get 1 rfl)
   obtain⟨d0,d1,d2,d3⟩:=cells4 ((C2.out.call hV).get 0 rfl)
   exact⟨c0,c1,c2,c3,c4,c5,d0,d1,d2,d3⟩
  go_cut [8] from 29 to 34 (fun sv wx=>At8 w w2 wx [(w.heap.size+1,.cells #[.int .i64 k,.int .i64 i,.string t,.slice a2 p.length c2] 48),(w.heap.size,.cells #[.int .i64 z,.int .i64 b,.string r,.string s,.int .i64 y,.slice a n cap] 28)] no ns pz pb pr ps py pc q sv)
  case first =>
   have K0:Hid (Below w2.heap.size w2 w2.drew):=(Below.refl _ _).drew
   have hS0:=CW.out _ K0.out
   have HHP:=HP.out
   go_region_held3 (fun V=>V.cell? ⟨w.heap.size,0,none⟩=some (.int .i64 z)/\V.cell? ⟨w.heap.size,1,none⟩=some (.int .i64 b)/\V.cell? ⟨w.heap.size,2,none⟩=some (.string r)/\V.cell? ⟨w.heap.size,3,none⟩=some (.string s)/\V.cell? ⟨w.heap.size,4,none⟩=some (.int .i64 y)/\V.cell? ⟨w.heap.size,5,none⟩=some (.slice a n cap)/\V.cell? ⟨w.heap.size+1,0,none⟩=some (.int .i64 k)/\V.cell? ⟨w.heap.size+1,1,none⟩=some (.int .i64 i)/\V.cell? ⟨w.heap.size+1,2,none⟩=some (.string t)/\V.cell? ⟨w.heap.size+1,3,none⟩=some (.slice a2 p.length c2)) (first|(with_reducible assumption)|exact CW.out _ (by repeat (first|with_reducible exact K3.out|with_reducible exact K2.out|with_reducible exact K1.out|with_reducible exact K0.out|with_reducible exact Below.refl _ _|with_reducible refine lq_alloc ?_ _|with_reducible refine lq_drew ?_|with_reducible refine lq_set ?_ hgz _))) (first|(go_at_call 16;(with_reducible refine(HS.out HHP (v2.alloc (.cells #[.int .i64 0,.int .i64 0,.string ⟨#[]⟩,.string ⟨#[]⟩,.int .i64 0,.slice none 0 0,.slice none 0 0,.int .i64 0] 38)) (CK2.out.new (.cells #[.int .i64 0,.int .i64 0,.string ⟨#[]⟩,.string ⟨#[]⟩,.int .i64 0,.slice none 0 0,.slice none 0 0,.int .i64 0] 38)).low g1 m1 g2 _ (M2.out.call ((Below.refl v2.heap.size v2).alloc (Nat.le_refl _) (.cells #[.int .i64 0,.int .i64 0,.string ⟨#[]⟩,.string ⟨#[]⟩,.int .i64 0,.slice none 0 0,.slice none 0 0,.int .i64 0] 38))).oths.1 (M2.out.call ((Below.refl v2.heap.size v2).alloc (Nat.le_refl _) (.cells #[.int .i64 0,.int .i64 0,.string ⟨#[]⟩,.string ⟨#[]⟩,.int .i64 0,.slice none 0 0,.slice none 0 0,.int .i64 0] 38))).oths.2 (M2.out.call ((Below.refl v2.heap.size v2).alloc (Nat.le_refl _) (.cells #[.int .i64 0,.int .i64 0,.string ⟨#[]⟩,.string ⟨#[]⟩,.int .i64 0,.slice none 0 0,.slice none 0 0,.int .i64 0] 38))).os (own_more S2.out ((Below.refl v2.heap.size v2).alloc (Nat.le_refl _) (.cells #[.int .i64 0,.int .i64 0,.string ⟨#[]⟩,.string ⟨#[]⟩,.int .i64 0,.slice none 0 0,.slice none 0 0,.int .i64 0] 38)))).mono ?_);rintro e v3 ⟨hop,hb⟩;obtain⟨vo,vs,rfl,ha⟩:=HON.out _ _ _ hop;obtain⟨ao,co,as0,cs,hvo,hvs⟩:=HSH.out _ _ _ _ _ ha.ans;subst hvo hvs;have A3:=hideK ha.ans;have CK3:=hideK ((CK2.out.new (.cells #[.int .i64 0,.int .i64 0,.string ⟨#[]⟩,.string ⟨#[]⟩,.int .i64 0,.slice none 0 0,.slice none 0 0,.int .i64 0] 38)).call hb);have K3:=hideK (low_keep (lq_alloc K2.out (.cells #[.int .i64 0,.int .i64 0,.string ⟨#[]⟩,.string ⟨#[]⟩,.int .i64 0,.slice none 0 0,.slice none 0 0,.int .i64 0] 38)) hb);have HZ3:Hid (v3.heap[v2.heap.size]? = some (.cells #[.int .i64 0,.int .i64 0,.string ⟨#[]⟩,.string ⟨#[]⟩,.int .i64 0,.slice none 0 0,.slice none 0 0,.int .i64 0] 38)):=CK3.out.get 0 rfl;have hgz:w2.heap.size<=v2.heap.size:=K2.out.size;have HGL:Hid (v2.heap.size<(v2.alloc (.cells #[.int .i64 0,.int .i64 0,.string ⟨#[]⟩,.string ⟨#[]⟩,.int .i64 0,.slice none 0 0,.slice none 0 0,.int .i64 0] 38)).heap.size):=lt_rowK ((CK2.out.new (.cells #[.int .i64 0,.int .i64 0,.string ⟨#[]⟩,.string ⟨#[]⟩,.int .i64 0,.slice none 0 0,.slice none 0 0,.int .i64 0] 38)).get 0 rfl);obtain⟨z0,z1,z2,z3,z4,z5,z6,z7⟩:=cellsP8 HZ3.out;have fz:=(fun o=>frozen_of_row v3 _ o _ _ HZ3.out);clear hb hop ha)|(go_at_call 16;(with_reducible refine(HS.out HHP v2 CK2.out.low g1 m1 g2 _ M2.out.oths.1 M2.out.oths.2 M2.out.os S2.out).mono ?_);rintro e v3 ⟨hop,hb⟩;obtain⟨vo,vs,rfl,ha⟩:=HON.out _ _ _ hop;obtain⟨ao,co,as0,cs,hvo,hvs⟩:=HSH.out _ _ _ _ _ ha.ans;subst hvo hvs;have A3:=hideK ha.ans;have CK3:=hideK (CK2.out.call hb);have K3:=hideK (low_keep K2.out hb);have HZ3:Hid (v3.heap[v1.heap.size]? = some (.cells #[.int .i64 0,.int .i64 0,.string ⟨#[]⟩,.string ⟨#[]⟩,.int .i64 0,.slice none 0 0,.slice none 0 0,.int .i64 0] 38)):=CK3.out.get 0 rfl;have hgz:w2.heap.size<=v1.heap.size:=K1.out.size;have HGL:Hid (v1.heap.size<v2.heap.size):=lt_rowK (CK2.out.get 0 rfl);obtain⟨z0,z1,z2,z3,z4,z5,z6,z7⟩:=cellsP8 HZ3.out;have fz:=(fun o=>frozen_of_row v3 _ o _ _ HZ3.out);clear hb hop ha)|(go_at_call 16;(with_reducible refine(HS.out HHP v2 CK2.out.low g1 m1 g2 _ M2.out.oths.1 M2.out.oths.2 M2.out.os S2.out).mono ?_);rintro e v3 ⟨hop,hb⟩;obtain⟨vo,vs,rfl,ha⟩:=HON.out _ _ _ hop;obtain⟨ao,co,as0,cs,hvo,hvs⟩:=HSH.out _ _ _ _ _ ha.ans;subst hvo hvs;have A3:=hideK ha.ans;have CK3:=hideK (CK2.out.call hb);have K3:=hideK (low_keep K2.out hb);have HZ3:Hid (v3.heap[w2.heap.size]? = some (.cells #[.int .i64 0,.int .i64 0,.string ⟨#[]⟩,.string ⟨#[]⟩,.int .i64 0,.slice none 0 0,.slice none 0 0,.int .i64 0] 38)):=CK3.out.get 0 rfl;have hgz:w2.heap.size<=w2.heap.size:=Nat.le_refl _;have HGL:Hid (w2.heap.size<v2.heap.size):=lt_rowK (CK2.out.get 0 rfl);obtain⟨z0,z1,z2,z3,z4,z5,z6,z7⟩:=cellsP8 HZ3.out;have fz:=(fun o=>frozen_of_row v3 _ o _ _ HZ3.out);clear hb hop ha)|(go_at_call 16;(with_reducible refine(HS.out HHP v2 CK2.out.low g1 m1 g2 _ M2.out.oths.1 M2.out.oths.2 M2.out.os S2.out).mono ?_);rintro e v3 ⟨hop,hb⟩;obtain⟨vo,vs,rfl,ha⟩:=HON.out _ _ _ hop;obtain⟨ao,co,as0,cs,hvo,hvs⟩:=HSH.out _ _ _ _ _ ha.ans;subst hvo hvs;have A3:=hideK ha.ans;have CK3:=hideK (CK2.out.call hb);have K3:=hideK (low_keep K2.out hb);clear hb hop ha)|(go_at_call 8;(with_reducible refine(HT.out (v1.alloc (.cells #[.int .i64 0,.int .i64 0,.string ⟨#[]⟩,.string ⟨#[]⟩,.int .i64 0,.slice none 0 0,.slice none 0 0,.int .i64 0] 38)) (CK1.out.new (.cells #[.int .i64 0,.int .i64 0,.string ⟨#[]⟩,.string ⟨#[]⟩,.int .i64 0,.slice none 0 0,.slice none 0 0,.int .i64 0] 38)).low).mono ?_);rintro e v2 ⟨g1,m1,rfl,hmo,hb⟩;have CK2:=hideK ((CK1.out.new (.cells #[.int .i64 0,.int .i64 0,.string ⟨#[]⟩,.string ⟨#[]⟩,.int .i64 0,.slice none 0 0,.slice none 0 0,.int .i64 0] 38)).call hb);have K2:=hideK (low_keep (lq_alloc K1.out (.cells #[.int .i64 0,.int .i64 0,.string ⟨#[]⟩,.string ⟨#[]⟩,.int .i64 0,.slice none 0 0,.slice none 0 0,.int .i64 0] 38)) hb);have M2:=hideK hmo;have S2:=hideK (own_more (own_more S1.out ((Below.refl v1.heap.size v1).alloc (Nat.le_refl _) (.cells #[.int .i64 0,.int .i64 0,.string ⟨#[]⟩,.string ⟨#[]⟩,.int .i64 0,.slice none 0 0,.slice none 0 0,.int .i64 0] 38))) hb);clear hmo hb)|(go_at_call 17;(with_reducible refine(HY.out (v1.alloc (.cells #[.int .i64 0,.int .i64 0,.string ⟨#[]⟩,.string ⟨#[]⟩,.int .i64 0,.slice none 0 0,.slice none 0 0,.int .i64 0] 38)) (CK1.out.new (.cells #[.int .i64 0,.int .i64 0,.string ⟨#[]⟩,.string ⟨#[]⟩,.int .i64 0,.slice none 0 0,.slice none 0 0,.int .i64 0] 38)).low HHP).mono ?_);rintro e v2 ⟨g2,rfl,hsy,hb⟩;have CK2:=hideK ((CK1.out.new (.cells #[.int .i64 0,.int .i64 0,.string ⟨#[]⟩,.string ⟨#[]⟩,.int .i64 0,.slice none 0 0,.slice none 0 0,.int .i64 0] 38)).call hb);have K2:=hideK (low_keep (lq_alloc K1.out (.cells #[.int .i64 0,.int .i64 0,.string ⟨#[]⟩,.string ⟨#[]⟩,.int .i64 0,.slice none 0 0,.slice none 0 0,.int .i64 0] 38)) hb);have S2:=hideK hsy;have M2:=hideK ((M1.out.call ((Below.refl v1.heap.size v1).alloc (Nat.le_refl _) (.cells #[.int .i64 0,.int .i64 0,.string ⟨#[]⟩,.string ⟨#[]⟩,.int .i64 0,.slice none 0 0,.slice none 0 0,.int .i64 0] 38))).call hb);clear hsy hb)|(go_at_call 8;(with_reducible refine(HT.out v1 CK1.out.low).mono ?_);rintro e v2 ⟨g1,m1,rfl,hmo,hb⟩;have CK2:=hideK (CK1.out.call hb);have K2:=hideK (low_keep K1.out hb);have M2:=hideK hmo;have S2:=hideK (own_more S1.out hb);clear hmo hb)|(go_at_call 17;(with_reducible refine(HY.out v1 CK1.out.low HHP).mono ?_);rintro e v2 ⟨g2,rfl,hsy,hb⟩;have CK2:=hideK (CK1.out.call hb);have K2:=hideK (low_keep K1.out hb);have S2:=hideK hsy;have M2:=hideK (M1.out.call hb);clear hsy hb)|(go_at_call 8;(with_reducible refine(HT.out ((w2.alloc (.cells #[.int .i64 0,.int .i64 0,.string ⟨#[]⟩,.string ⟨#[]⟩,.int .i64 0,.slice none 0 0,.slice none 0 0,.int .i64 0] 38)).drew) ((C2.out.new (.cells #[.int .i64 0,.int .i64 0,.string ⟨#[]⟩,.string ⟨#[]⟩,.int .i64 0,.slice none 0 0,.slice none 0 0,.int .i64 0] 38)).drew).low).mono ?_);rintro e v1 ⟨g1,m1,rfl,hmo,hb⟩;have CK1:=hideK (((C2.out.new (.cells #[.int .i64 0,.int .i64 0,.string ⟨#[]⟩,.string ⟨#[]⟩,.int .i64 0,.slice none 0 0,.slice none 0 0,.int .i64 0] 38)).drew).call hb);have K1:=hideK (low_keep (lq_drew (lq_alloc (Below.refl w2.heap.size w2) (.cells #[.int .i64 0,.int .i64 0,.string ⟨#[]⟩,.string ⟨#[]⟩,.int .i64 0,.slice none 0 0,.slice none 0 0,.int .i64 0] 38))) hb);have M1:=hideK hmo;clear hmo hb)|(go_at_call 17;(with_reducible refine(HY.out ((w2.alloc (.cells #[.int .i64 0,.int .i64 0,.string ⟨#[]⟩,.string ⟨#[]⟩,.int .i64 0,.slice none 0 0,.slice none 0 0,.int .i64 0] 38)).drew) ((C2.out.new (.cells #[.int .i64 0,.int .i64 0,.string ⟨#[]⟩,.string ⟨#[]⟩,.int .i64 0,.slice none 0 0,.slice none 0 0,.int .i64 0] 38)).drew).low HHP).mono ?_);rintro e v1 ⟨g2,rfl,hsy,hb⟩;have CK1:=hideK (((C2.out.new (.cells #[.int .i64 0,.int .i64 0,.string ⟨#[]⟩,.string ⟨#[]⟩,.int .i64 0,.slice none 0 0,.slice none 0 0,.int .i64 0] 38)).drew).call hb);have K1:=hideK (low_keep (lq_drew (lq_alloc (Below.refl w2.heap.size w2) (.cells #[.int .i64 0,.int .i64 0,.string ⟨#[]⟩,.string ⟨#[]⟩,.int .i64 0,.slice none 0 0,.slice none 0 0,.int .i64 0] 38))) hb);have S1:=hideK hsy;clear hsy hb)|(go_at_call 8;(with_reducible refine(HT.out (w2.drew) (C2.out.drew).low).mono ?_);rintro e v1 ⟨g1,m1,rfl,hmo,hb⟩;have CK1:=hideK ((C2.out.drew).call hb);have K1:=hideK (low_keep K0.out hb);have M1:=hideK hmo;clear hmo hb)|(go_at_call 17;(with_reducible refine(HY.out (w2.drew) (C2.out.drew).low HHP).mono ?_);rintro e v1 ⟨g2,rfl,hsy,hb⟩;have CK1:=hideK ((C2.out.drew).call hb);have K1:=hideK (low_keep K0.out hb);have S1:=hideK hsy;clear hsy hb))
   all_goals (try go_wp2_with fail)
   all_goals (first|(have hz:=at8_set (pz:=pz) (pb:=pb) (pr:=pr) (ps:=ps) (py:=py) (pc:=pc) CK3.out HL.out hgz C2.out.low.size A3.out HGL.out K3.out;go_meet;exact hz)|(go_meet;exact at8_new CK3.out A3.out K3.out))
  case rest =>
   have Y3:=hcut
   obtain⟨g3,lo3,hi3,ao3,co3,as3,cs3,rfl,hC3,hA3,hhi,hb3⟩:=Y3
   have C3:=hideK hC3
   have A3:=hideK hA3
   have zg:=lt_rowK (C3.out.get 0 rfl)
   have zk:=lt_rowK (C3.out.get 1 rfl)
   clear hC3 hA3 hb3 hcut HL CW HS C2 c0 c1 c2' c3 c4 c5 d0 d1 d2 d3
   generalize wc=w3 at *
   obtain⟨c0,c1,c2',c3,c4,c5⟩:=cellsP6 (C3.out.get 2 rfl)
   go_wp2_with fail
   refine(HT.out _ C3.out.low).mono ?_
   rintro e w4 ⟨g4,m4,rfl,hmo,hb⟩
   have z5:=hb.size
   have BN4:Hid (Below w4.heap.size w4 (w4.alloc (.cells #[.int .i64 z,.int .i64 b,.string r,.string s,.int .i64 y,.slice (some ⟨g4,0,none⟩) n n] 35))):=(Below.refl _ _).alloc (Nat.le_refl _) _
   have R4:=hideK (hmo.rowM.call BN4.out)
   have M4:=hideK (hmo.call BN4.out)
   have A4:=hideK ((A3.out.call hb).call BN4.out)
   have C4:=hideK ((C3.out.call hb).new (.cells #[.int .i64 z,.int .i64 b,.string r,.string s,.int .i64 y,.slice (some ⟨g4,0,none⟩) n n] 35))
   clear hb C3 c0 c1 c2' c3 c4 c5 hmo A3 BN4
   go_upto_region 12 with fail
   have z6:w4.heap.size<(w4.alloc (.cells #[.int .i64 z,.int .i64 b,.string r,.string s,.int .i64 y,.slice (some ⟨g4,0,none⟩) n n] 35)).heap.size:=lt_rowK (C4.out.get 0 rfl)
   generalize w4.alloc _=W4 at C4 M4 R4 A4 z6 ⊢
   obtain⟨d0,d1,d2,d3⟩:=cells4 (C4.out.get 2 rfl)
   go_wp2_with fail
   refine(HY.out _ C4.out.low HP.out).mono ?_
   rintro e w5 ⟨g5,rfl,hsy,hb⟩
   have z7:=hb.size
   have BN5:Hid (Below w5.heap.size w5 (w5.alloc (.cells #[.int .i64 k,.int .i64 i,.string t,.slice (some ⟨g5,0,none⟩) p.length p.length] 51))):=(Below.refl _ _).alloc (Nat.le_refl _) _
   have S5:=hideK (hsy.below BN5.out (Nat.le_refl _))
   have M5:=hideK ((M4.out.call hb).call BN5.out)
   have R5:=hideK ((R4.out.call hb).call BN5.out)
   have A5:=hideK ((A4.out.call hb).call BN5.out)
   have C5:=hideK ((C4.out.call hb).new (.cells #[.int .i64 k,.int .i64 i,.string t,.slice (some ⟨g5,0,none⟩) p.length p.length] 51))
   clear hb C4 M4 R4 A4 d0 d1 d2 d3 hsy BN5
   go_upto_region 13 with fail
   have z8:w5.heap.size<(w5.alloc (.cells #[.int .i64 k,.int .i64 i,.string t,.slice (some ⟨g5,0,none⟩) p.length p.length] 51)).heap.size:=lt_rowK (C5.out.get 0 rfl)
   generalize w5.alloc _=W5 at C5 M5 R5 A5 S5 z8 ⊢
   have HI5:=hideK (HI.out HP.out W5 C5.out.low g4 m4 g5 _ M5.out.oths.1 M5.out.oths.2 M5.out.os (own_hi S5.out (Nat.le_of_lt z8)))
   obtain⟨c0,c1,c2',c3,c4,c5⟩:=cellsP6 (C5.out.get 1 rfl)
   obtain⟨d0,d1,d2,d3⟩:=cells4 (C5.out.get 0 rfl)
   go_wp2_with fail
   refine(HI5.out).mono ?_
   rintro e w6 ⟨hop,hb⟩
   obtain⟨vo6,vs6,rfl,ha6⟩:=HON.out _ _ _ hop
   obtain⟨ao6,co6,as6,cs6,hvo6,hvs6⟩:=HSH.out _ _ _ _ _ ha6.ans
   subst hvo6 hvs6
   have z9:=hb.size
   have BN6:Hid (Below w6.heap.size w6 (w6.alloc (.cells #[.int .i64 pz,.int .i64 pb,.string pr,.string ps,.int .i64 py,.slice ao6 no co6,.slice as6 ns cs6,.int .i64 pc] 38))):=(Below.refl _ _).alloc (Nat.le_refl _) _
   have C6:=hideK ((C5.out.call hb).new (.cells #[.int .i64 pz,.int .i64 pb,.string pr,.string ps,.int .i64 py,.slice ao6 no co6,.slice as6 ns cs6,.int .i64 pc] 38))
   have M6:=hideK ((M5.out.call hb).call BN6.out)
   have R6:=hideK ((R5.out.call hb).call BN6.out)
   have A6:=hideK ((A5.out.call hb).call BN6.out)
   have S6:=hideK ((own_keepB S5.out (Nat.le_of_lt z8) hb))
   have S7:=hideK (own_keepB S6.out (by omega) BN6.out)
   have N6:=hideK (ha6.call BN6.out)
   clear hb C5 M5 HI5 d0 d1 d2 d3 c0 c1 c2' c3 c4 c5 hop ha6 R5 A5 S5 S6 BN6
   go_upto_region 14 with fail
   have z10:w6.heap.size<(w6.alloc (.cells #[.int .i64 pz,.int .i64 pb,.string pr,.string ps,.int .i64 py,.slice ao6 no co6,.slice as6 ns cs6,.int .i64 pc] 38)).heap.size:=lt_rowK (C6.out.get 0 rfl)
   generalize w6.alloc _=W6 at C6 M6 R6 A6 N6 S7 z10 ⊢
   obtain⟨q0,q1,q2,q3,q4,q5,q6,q7⟩:=cellsP8 (C6.out.get 0 rfl)
   obtain⟨r0,r1,r2,r3,r4,r5,r6,r7⟩:=cellsP8 (C6.out.get 3 rfl)
   have HE6:=hideK (HEQ.out W6 _ _ _ _ _ _ _ _ N6.out.ans A6.out)
   go_wp2_with fail
   refine HE6.out.mono ?_
   rintro e w7 ⟨rfl,hb⟩
   have C7:=hideK (C6.out.call hb)
   have M7:=hideK (M6.out.call hb)
   have R7:=hideK (R6.out.call hb)
   have A7:=hideK (A6.out.call hb)
   have N7:=hideK (N6.out.call hb)
   have S8:=hideK (own_keepB S7.out (by omega) hb)
   have z11:=hb.size
   clear hb C6 M6 R6 A6 N6 S7 HE6 q0 q1 q2 q3 q4 q5 q6 q7 r0 r1 r2 r3 r4 r5 r6 r7
   obtain⟨d0,d1,d2,d3,d4,d5⟩:=cellsP6 (C7.out.get 2 rfl)
   obtain⟨c0,c1,c2',c3,c4,c5⟩:=cellsP6 (C7.out.get 5 rfl)
   go_upto_region 16 with fail
   go_cut [51] from 47 to 50 (fun s38 wx=>s38=.bool false/\Below w7.heap.size w7 wx)
   case first =>
    go_region_with ((first|(go_at_call 8;refine(HT.out _ (C7.out.low.drew)).mono ?_;rintro e w8 ⟨g7,m7,rfl,hmo,hb⟩;have M8:=hideK hmo;have C8:=hideK (C7.out.drew.call hb);have B8:=hideK (lowL ((Below.refl w7.heap.size w7).drew) hb);have MM8:=hideK ((M7.out.call ((Below.refl _ w7).drew)).call hb);clear hb hmo;obtain⟨f0,f1,f2,f3,f4,f5⟩:=cellsP6 (C8.out.get 2 rfl))|(go_at_call 11;refine(HQ.out _ _ _ _ _ _ _ MM8.out.oths.1 M8.out.oths.1 MM8.out.os M8.out.os MM8.out.oths.2).mono ?_;rintro e w9 ⟨rfl,hb⟩;have B9:=hideK (lowL B8.out hb);clear hb)))
    all_goals (try go_wp2_with fail)
    all_goals go_meet
    all_goals exact⟨rfl,B9.out⟩
   case rest =>
    obtain⟨rfl,hbx⟩:=hcut
    have C8:=hideK (C7.out.call hbx)
    have R8:=hideK (R7.out.call hbx)
    have M8:=hideK (M7.out.call hbx)
    have A8:=hideK (A7.out.call hbx)
    have N8:=hideK (N7.out.call hbx)
    have S9:=hideK (own_keepB S8.out (by omega) hbx)
    have z12:=hbx.size
    clear hbx C7 R7 A7 N7 M7 S8 d0 d1 d2 d3 d4 d5 c0 c1 c2' c3 c4 c5
    generalize wc=w8 at *
    obtain⟨c0,c1,c2',c3⟩:=cells4 (C8.out.get 1 rfl)
    obtain⟨d0,d1,d2,d3⟩:=cells4 (C8.out.get 4 rfl)
    go_upto_region 18 with fail
    go_cut [56] from 52 to 55 (fun s38 wx=>s38=.bool false/\Below w8.heap.size w8 wx)
    case first =>
     go_region_with ((first|(go_at_call 17;refine(HY.out _ (C8.out.low.drew) HP.out).mono ?_;rintro e w9 ⟨g7,rfl,hsy,hb⟩;have SS9:=hideK hsy;have C9:=hideK (C8.out.drew.call hb);have B9:=hideK (lowL ((Below.refl w8.heap.size w8).drew) hb);have SM9:=hideK (own_keepB (own_keepB S9.out (by omega) ((Below.refl _ w8).drew)) (by simp only[World.size_drew];omega) hb);clear hb hsy;obtain⟨f0,f1,f2,f3⟩:=cells4 (C9.out.get 1 rfl))|(go_at_call 19;refine(HQS.out HP.out _ _ _ _ _ _ _ SM9.out SS9.out).mono ?_;rintro e w10 ⟨rfl,hb⟩;have B10:=hideK (lowL B9.out hb);clear hb)))
     all_goals (try go_wp2_with fail)
     all_goals go_meet
     all_goals exact⟨rfl,B10.out⟩
    case rest =>
     obtain⟨rfl,hbx⟩:=hcut
     have C9:=hideK (C8.out.call hbx)
     have R9:=hideK (R8.out.call hbx)
     have A9:=hideK (A8.out.call hbx)
     have N9:=hideK (N8.out.call hbx)
     have S10:=hideK (own_keepB S9.out (by omega) hbx)
     have z13:=hbx.size
     have hos8:=hideK M8.out.os
     clear hbx C8 R8 A8 N8 M8 S9 d0 d1 d2 d3 c0 c1 c2' c3
     generalize wc=w9 at *
     obtain⟨d0,d1,d2,d3,d4,d5⟩:=cellsP6 (C9.out.get 2 rfl)
     obtain⟨KM,hKM0,hKMb,hKM⟩:=HMP.out w9 _ _ _ _ R9.out hos8.out
     have HKM:=hideK hKM
     clear hKM HMP
     go_wp2_with fail
     refine HKM.out.mono ?_
     rintro e w10 ⟨rfl,hc9⟩
     have A10:=hideK (A9.out.chg hc9 (by omega))
     have N10:=hideK (N9.out.chg hc9 (by omega))
     have S11:=hideK (own_chg S10.out (by omega) hc9 (by omega))
     have C10:=hideK (cx_chgL C9.out hc9 (by have:=C9.out.low.size;omega) (fun x hx=>by
      simp only[List.mem_cons,List.not_mem_nil,or_false]at hx
      rcases hx with rfl|rfl|rfl|rfl|rfl|rfl<;>dsimp only<;>omega))
     have z14:=hc9.size
     clear hc9 C9 A9 N9 R9 S10 d0 d1 d2 d3 d4 d5
     obtain⟨d0,d1,d2,d3⟩:=cells4 (C10.out.get 1 rfl)
     have HMS10:=hideK (HMS.out HP.out w10 g5 _ _ KM S11.out hKM0 hKMb)
     generalize hKP:KM+p.length=KP at HMS10
     have hk1:¬(KP:Int)<0:=by omega
     have hk2:decide ((KP:Int)<0)=false:=by simp
     clear hKP
     go_wp2_with fail
     refine HMS10.out.mono ?_
     rintro e w11 ⟨rfl,hc10⟩
     have A11:=hideK (A10.out.chg hc10 (by omega))
     have N11:=hideK (N10.out.chg hc10 (by omega))
     have C11:=hideK (cx_chgL C10.out hc10 (by have:=C10.out.low.size;omega) (fun x hx=>by
      simp only[List.mem_cons,List.not_mem_nil,or_false]at hx
      rcases hx with rfl|rfl|rfl|rfl|rfl|rfl<;>dsimp only<;>omega))
     have z15:=hc10.size
     clear hc10 C10 A10 N10 S11 HMS10 d0 d1 d2 d3
     obtain⟨q0,q1,q2,q3,q4,q5,q6,q7⟩:=cellsP8 (C11.out.get 0 rfl)
     obtain⟨r0,r1,r2,r3,r4,r5,r6,r7⟩:=cellsP8 (C11.out.get 3 rfl)
     have HE9:=hideK (HEQ.out w11 _ _ _ _ _ _ _ _ N11.out.ans A11.out)
     go_wp2_with fail
     refine HE9.out.mono ?_
     rintro e w12 ⟨rfl,hb⟩
     have C12:=hideK (C11.out.call hb)
     have A12:=hideK (A11.out.call hb)
     have N12:=hideK (N11.out.call hb)
     have z16:=hb.size
     clear hb C11 A11 N11 HE9 q0 q1 q2 q3 q4 q5 q6 q7 r0 r1 r2 r3 r4 r5 r6 r7
     obtain⟨q0,q1,q2,q3,q4,q5,q6,q7⟩:=cellsP8 (C12.out.get 0 rfl)
     have HM10:=hideK (HMA.out w12 _ _ _ _ N12.out)
     go_wp2_with fail
     refine HM10.out.mono ?_
     rintro e w13 ⟨rfl,hmk,hc11⟩
     have A13:=hideK (A12.out.chg hc11 (by omega))
     have K13:=hideK hmk
     have C13:=hideK (cx_chgL C12.out hc11 (by have:=C12.out.low.size;omega) (fun x hx=>by
      simp only[List.mem_cons,List.not_mem_nil,or_false]at hx
      rcases hx with rfl|rfl|rfl|rfl|rfl|rfl<;>dsimp only<;>omega))
     clear hc11 hmk C12 A12 N12 HM10 q0 q1 q2 q3 q4 q5 q6 q7
     obtain⟨q0,q1,q2,q3,q4,q5,q6,q7⟩:=cellsP8 (C13.out.get 0 rfl)
     have HH11:=hideK (HHA.out w13 _ _ _ _ K13.out)
     go_wp2_with fail
     refine HH11.out.mono ?_
     rintro e w14 ⟨rfl,hb⟩
     have C14:=hideK (C13.out.call hb)
     have A14:=hideK (A13.out.call hb)
     have K14:=hideK (K13.out.call hb)
     clear hb C13 A13 K13 HH11 q0 q1 q2 q3 q4 q5 q6 q7
     go_upto_region 33 with fail
     obtain⟨c0,c1,c2',c3,c4,c5⟩:=cellsP6 (C14.out.get 5 rfl)
     obtain⟨d0,d1,d2,d3⟩:=cells4 (C14.out.get 4 rfl)
     have HL:Hid (∀ x∈([(w6.heap.size,.cells #[.int .i64 pz,.int .i64 pb,.string pr,.string ps,.int .i64 py,.slice ao6 no co6,.slice as6 ns cs6,.int .i64 pc] 38),(w5.heap.size,.cells #[.int .i64 k,.int .i64 i,.string t,.slice (some ⟨g5,0,none⟩) p.length p.length] 51),(w4.heap.size,.cells #[.int .i64 z,.int .i64 b,.string r,.string s,.int .i64 y,.slice (some ⟨g4,0,none⟩) n n] 35),(g3,.cells #[.int .i64 pz,.int .i64 pb,.string pr,.string ps,.int .i64 py,.slice ao3 no co3,.slice as3 ns cs3,.int .i64 pc] 38),(w.heap.size+1,.cells #[.int .i64 k,.int .i64 i,.string t,.slice a2 p.length c2] 48),(w.heap.size,.cells #[.int .i64 z,.int .i64 b,.string r,.string s,.int .i64 y,.slice a n cap] 28)]:List (Nat × Obj)),x.1<w14.heap.size):=fun x hx=>lt_rowK (C14.out.blk x hx)
     have CW:Hid (∀ V,Below w14.heap.size w14 V->(fun V=>V.cell? ⟨w.heap.size,0,none⟩=some (.int .i64 z)/\V.cell? ⟨w.heap.size,1,none⟩=some (.int .i64 b)/\V.cell? ⟨w.heap.size,2,none⟩=some (.string r)/\V.cell? ⟨w.heap.size,3,none⟩=some (.string s)/\V.cell? ⟨w.heap.size,4,none⟩=some (.int .i64 y)/\V.cell? ⟨w.heap.size,5,none⟩=some (.slice a n cap)/\V.cell? ⟨w.heap.size+1,0,none⟩=some (.int .i64 k)/\V.cell? ⟨w.heap.size+1,1,none⟩=some (.int .i64 i)/\V.cell? ⟨w.heap.size+1,2,none⟩=some (.string t)/\V.cell? ⟨w.heap.size+1,3,none⟩=some (.slice a2 p.length c2)) V):=fun V hV=>by
      obtain⟨c0,c1,c2,c3,c4,c5⟩:=cellsP6 ((C14.out.call hV).get 5 rfl)
      obtain⟨d0,d1,d2,d3⟩:=cells4 ((C14.out.call hV).get 4 rfl)
      exact⟨c0,c1,c2,c3,c4,c5,d0,d1,d2,d3⟩
     go_cut [15] from 82 to 87 (fun sv wx=>At8 w w14 wx [(w6.heap.size,.cells #[.int .i64 pz,.int .i64 pb,.string pr,.string ps,.int .i64 py,.slice ao6 no co6,.slice as6 ns cs6,.int .i64 pc] 38),(w5.heap.size,.cells #[.int .i64 k,.int .i64 i,.string t,.slice (some ⟨g5,0,none⟩) p.length p.length] 51),(w4.heap.size,.cells #[.int .i64 z,.int .i64 b,.string r,.string s,.int .i64 y,.slice (some ⟨g4,0,none⟩) n n] 35),(g3,.cells #[.int .i64 pz,.int .i64 pb,.string pr,.string ps,.int .i64 py,.slice ao3 no co3,.slice as3 ns cs3,.int .i64 pc] 38),(w.heap.size+1,.cells #[.int .i64 k,.int .i64 i,.string t,.slice a2 p.length c2] 48),(w.heap.size,.cells #[.int .i64 z,.int .i64 b,.string r,.string s,.int .i64 y,.slice a n cap] 28)] no ns pz pb pr ps py pc q sv)
     case first =>
      have K0:Hid (Below w14.heap.size w14 w14.drew):=(Below.refl _ _).drew
      have hS0:=CW.out _ K0.out
      have HHP:=HP.out
      go_region_held3 (fun V=>V.cell? ⟨w.heap.size,0,none⟩=some (.int .i64 z)/\V.cell? ⟨w.heap.size,1,none⟩=some (.int .i64 b)/\V.cell? ⟨w.heap.size,2,none⟩=some (.string r)/\V.cell? ⟨w.heap.size,3,none⟩=some (.string s)/\V.cell? ⟨w.heap.size,4,none⟩=some (.int .i64 y)/\V.cell? ⟨w.heap.size,5,none⟩=some (.slice a n cap)/\V.cell? ⟨w.heap.size+1,0,none⟩=some (.int .i64 k)/\V.cell? ⟨w.heap.size+1,1,none⟩=some (.int .i64 i)/\V.cell? ⟨w.heap.size+1,2,none⟩=some (.string t)/\V.cell? ⟨w.heap.size+1,3,none⟩=some (.slice a2 p.length c2)) (first|(with_reducible assumption)|exact CW.out _ (by repeat (first|with_reducible exact K3.out|with_reducible exact K2.out|with_reducible exact K1.out|with_reducible exact K0.out|with_reducible exact Below.refl _ _|with_reducible refine lq_alloc ?_ _|with_reducible refine lq_drew ?_|with_reducible refine lq_set ?_ hgz _))) (first|(go_at_call 18;(with_reducible refine(HI.out HHP (v2.alloc (.cells #[.int .i64 0,.int .i64 0,.string ⟨#[]⟩,.string ⟨#[]⟩,.int .i64 0,.slice none 0 0,.slice none 0 0,.int .i64 0] 38)) (CK2.out.new (.cells #[.int .i64 0,.int .i64 0,.string ⟨#[]⟩,.string ⟨#[]⟩,.int .i64 0,.slice none 0 0,.slice none 0 0,.int .i64 0] 38)).low g1 m1 g2 _ (M2.out.call ((Below.refl v2.heap.size v2).alloc (Nat.le_refl _) (.cells #[.int .i64 0,.int .i64 0,.string ⟨#[]⟩,.string ⟨#[]⟩,.int .i64 0,.slice none 0 0,.slice none 0 0,.int .i64 0] 38))).oths.1 (M2.out.call ((Below.refl v2.heap.size v2).alloc (Nat.le_refl _) (.cells #[.int .i64 0,.int .i64 0,.string ⟨#[]⟩,.string ⟨#[]⟩,.int .i64 0,.slice none 0 0,.slice none 0 0,.int .i64 0] 38))).oths.2 (M2.out.call ((Below.refl v2.heap.size v2).alloc (Nat.le_refl _) (.cells #[.int .i64 0,.int .i64 0,.string ⟨#[]⟩,.string ⟨#[]⟩,.int .i64 0,.slice none 0 0,.slice none 0 0,.int .i64 0] 38))).os (own_more S2.out ((Below.refl v2.heap.size v2).alloc (Nat.le_refl _) (.cells #[.int .i64 0,.int .i64 0,.string ⟨#[]⟩,.string ⟨#[]⟩,.int .i64 0,.slice none 0 0,.slice none 0 0,.int .i64 0] 38)))).mono ?_);rintro e v3 ⟨hop,hb⟩;obtain⟨vo,vs,rfl,ha⟩:=HON.out _ _ _ hop;obtain⟨ao,co,as0,cs,hvo,hvs⟩:=HSH.out _ _ _ _ _ ha.ans;subst hvo hvs;have A3:=hideK ha.ans;have CK3:=hideK ((CK2.out.new (.cells #[.int .i64 0,.int .i64 0,.string ⟨#[]⟩,.string ⟨#[]⟩,.int .i64 0,.slice none 0 0,.slice none 0 0,.int .i64 0] 38)).call hb);have K3:=hideK (low_keep (lq_alloc K2.out (.cells #[.int .i64 0,.int .i64 0,.string ⟨#[]⟩,.string ⟨#[]⟩,.int .i64 0,.slice none 0 0,.slice none 0 0,.int .i64 0] 38)) hb);have HZ3:Hid (v3.heap[v2.heap.size]? = some (.cells #[.int .i64 0,.int .i64 0,.string ⟨#[]⟩,.string ⟨#[]⟩,.int .i64 0,.slice none 0 0,.slice none 0 0,.int .i64 0] 38)):=CK3.out.get 0 rfl;have hgz:w14.heap.size<=v2.heap.size:=K2.out.size;have HGL:Hid (v2.heap.size<(v2.alloc (.cells #[.int .i64 0,.int .i64 0,.string ⟨#[]⟩,.string ⟨#[]⟩,.int .i64 0,.slice none 0 0,.slice none 0 0,.int .i64 0] 38)).heap.size):=lt_rowK ((CK2.out.new (.cells #[.int .i64 0,.int .i64 0,.string ⟨#[]⟩,.string ⟨#[]⟩,.int .i64 0,.slice none 0 0,.slice none 0 0,.int .i64 0] 38)).get 0 rfl);obtain⟨z0,z1,z2,z3,z4,z5,z6,z7⟩:=cellsP8 HZ3.out;have fz:=(fun o=>frozen_of_row v3 _ o _ _ HZ3.out);clear hb hop ha)|(go_at_call 18;(with_reducible refine(HI.out HHP v2 CK2.out.low g1 m1 g2 _ M2.out.oths.1 M2.out.oths.2 M2.out.os S2.out).mono ?_);rintro e v3 ⟨hop,hb⟩;obtain⟨vo,vs,rfl,ha⟩:=HON.out _ _ _ hop;obtain⟨ao,co,as0,cs,hvo,hvs⟩:=HSH.out _ _ _ _ _ ha.ans;subst hvo hvs;have A3:=hideK ha.ans;have CK3:=hideK (CK2.out.call hb);have K3:=hideK (low_keep K2.out hb);have HZ3:Hid (v3.heap[v1.heap.size]? = some (.cells #[.int .i64 0,.int .i64 0,.string ⟨#[]⟩,.string ⟨#[]⟩,.int .i64 0,.slice none 0 0,.slice none 0 0,.int .i64 0] 38)):=CK3.out.get 0 rfl;have hgz:w14.heap.size<=v1.heap.size:=K1.out.size;have HGL:Hid (v1.heap.size<v2.heap.size):=lt_rowK (CK2.out.get 0 rfl);obtain⟨z0,z1,z2,z3,z4,z5,z6,z7⟩:=cellsP8 HZ3.out;have fz:=(fun o=>frozen_of_row v3 _ o _ _ HZ3.out);clear hb hop ha)|(go_at_call 18;(with_reducible refine(HI.out HHP v2 CK2.out.low g1 m1 g2 _ M2.out.oths.1 M2.out.oths.2 M2.out.os S2.out).mono ?_);rintro e v3 ⟨hop,hb⟩;obtain⟨vo,vs,rfl,ha⟩:=HON.out _ _ _ hop;obtain⟨ao,co,as0,cs,hvo,hvs⟩:=HSH.out _ _ _ _ _ ha.ans;subst hvo hvs;have A3:=hideK ha.ans;have CK3:=hideK (CK2.out.call hb);have K3:=hideK (low_keep K2.out hb);have HZ3:Hid (v3.heap[w14.heap.size]? = some (.cells #[.int .i64 0,.int .i64 0,.string ⟨#[]⟩,.string ⟨#[]⟩,.int .i64 0,.slice none 0 0,.slice none 0 0,.int .i64 0] 38)):=CK3.out.get 0 rfl;have hgz:w14.heap.size<=w14.heap.size:=Nat.le_refl _;have HGL:Hid (w14.heap.size<v2.heap.size):=lt_rowK (CK2.out.get 0 rfl);obtain⟨z0,z1,z2,z3,z4,z5,z6,z7⟩:=cellsP8 HZ3.out;have fz:=(fun o=>frozen_of_row v3 _ o _ _ HZ3.out);clear hb hop ha)|(go_at_call 18;(with_reducible refine(HI.out HHP v2 CK2.out.low g1 m1 g2 _ M2.out.oths.1 M2.out.oths.2 M2.out.os S2.out).mono ?_);rintro e v3 ⟨hop,hb⟩;obtain⟨vo,vs,rfl,ha⟩:=HON.out _ _ _ hop;obtain⟨ao,co,as0,cs,hvo,hvs⟩:=HSH.out _ _ _ _ _ ha.ans;subst hvo hvs;have A3:=hideK ha.ans;have CK3:=hideK (CK2.out.call hb);have K3:=hideK (low_keep K2.out hb);clear hb hop ha)|(go_at_call 8;(with_reducible refine(HT.out (v1.alloc (.cells #[.int .i64 0,.int .i64 0,.string ⟨#[]⟩,.string ⟨#[]⟩,.int .i64 0,.slice none 0 0,.slice none 0 0,.int .i64 0] 38)) (CK1.out.new (.cells #[.int .i64 0,.int .i64 0,.string ⟨#[]⟩,.string ⟨#[]⟩,.int .i64 0,.slice none 0 0,.slice none 0 0,.int .i64 0] 38)).low).mono ?_);rintro e v2 ⟨g1,m1,rfl,hmo,hb⟩;have CK2:=hideK ((CK1.out.new (.cells #[.int .i64 0,.int .i64 0,.string ⟨#[]⟩,.string ⟨#[]⟩,.int .i64 0,.slice none 0 0,.slice none 0 0,.int .i64 0] 38)).call hb);have K2:=hideK (low_keep (lq_alloc K1.out (.cells #[.int .i64 0,.int .i64 0,.string ⟨#[]⟩,.string ⟨#[]⟩,.int .i64 0,.slice none 0 0,.slice none 0 0,.int .i64 0] 38)) hb);have M2:=hideK hmo;have S2:=hideK (own_more (own_more S1.out ((Below.refl v1.heap.size v1).alloc (Nat.le_refl _) (.cells #[.int .i64 0,.int .i64 0,.string ⟨#[]⟩,.string ⟨#[]⟩,.int .i64 0,.slice none 0 0,.slice none 0 0,.int .i64 0] 38))) hb);clear hmo hb)|(go_at_call 17;(with_reducible refine(HY.out (v1.alloc (.cells #[.int .i64 0,.int .i64 0,.string ⟨#[]⟩,.string ⟨#[]⟩,.int .i64 0,.slice none 0 0,.slice none 0 0,.int .i64 0] 38)) (CK1.out.new (.cells #[.int .i64 0,.int .i64 0,.string ⟨#[]⟩,.string ⟨#[]⟩,.int .i64 0,.slice none 0 0,.slice none 0 0,.int .i64 0] 38)).low HHP).mono ?_);rintro e v2 ⟨g2,rfl,hsy,hb⟩;have CK2:=hideK ((CK1.out.new (.cells #[.int .i64 0,.int .i64 0,.string ⟨#[]⟩,.string ⟨#[]⟩,.int .i64 0,.slice none 0 0,.slice none 0 0,.int .i64 0] 38)).call hb);have K2:=hideK (low_keep (lq_alloc K1.out (.cells #[.int .i64 0,.int .i64 0,.string ⟨#[]⟩,.string ⟨#[]⟩,.int .i64 0,.slice none 0 0,.slice none 0 0,.int .i64 0] 38)) hb);have S2:=hideK hsy;have M2:=hideK ((M1.out.call ((Below.refl v1.heap.size v1).alloc (Nat.le_refl _) (.cells #[.int .i64 0,.int .i64 0,.string ⟨#[]⟩,.string ⟨#[]⟩,.int .i64 0,.slice none 0 0,.slice none 0 0,.int .i64 0] 38))).call hb);clear hsy hb)|(go_at_call 8;(with_reducible refine(HT.out v1 CK1.out.low).mono ?_);rintro e v2 ⟨g1,m1,rfl,hmo,hb⟩;have CK2:=hideK (CK1.out.call hb);have K2:=hideK (low_keep K1.out hb);have M2:=hideK hmo;have S2:=hideK (own_more S1.out hb);clear hmo hb)|(go_at_call 17;(with_reducible refine(HY.out v1 CK1.out.low HHP).mono ?_);rintro e v2 ⟨g2,rfl,hsy,hb⟩;have CK2:=hideK (CK1.out.call hb);have K2:=hideK (low_keep K1.out hb);have S2:=hideK hsy;have M2:=hideK (M1.out.call hb);clear hsy hb)|(go_at_call 8;(with_reducible refine(HT.out ((w14.alloc (.cells #[.int .i64 0,.int .i64 0,.string ⟨#[]⟩,.string ⟨#[]⟩,.int .i64 0,.slice none 0 0,.slice none 0 0,.int .i64 0] 38)).drew) ((C14.out.new (.cells #[.int .i64 0,.int .i64 0,.string ⟨#[]⟩,.string ⟨#[]⟩,.int .i64 0,.slice none 0 0,.slice none 0 0,.int .i64 0] 38)).drew).low).mono ?_);rintro e v1 ⟨g1,m1,rfl,hmo,hb⟩;have CK1:=hideK (((C14.out.new (.cells #[.int .i64 0,.int .i64 0,.string ⟨#[]⟩,.string ⟨#[]⟩,.int .i64 0,.slice none 0 0,.slice none 0 0,.int .i64 0] 38)).drew).call hb);have K1:=hideK (low_keep (lq_drew (lq_alloc (Below.refl w14.heap.size w14) (.cells #[.int .i64 0,.int .i64 0,.string ⟨#[]⟩,.string ⟨#[]⟩,.int .i64 0,.slice none 0 0,.slice none 0 0,.int .i64 0] 38))) hb);have M1:=hideK hmo;clear hmo hb)|(go_at_call 17;(with_reducible refine(HY.out ((w14.alloc (.cells #[.int .i64 0,.int .i64 0,.string ⟨#[]⟩,.string ⟨#[]⟩,.int .i64 0,.slice none 0 0,.slice none 0 0,.int .i64 0] 38)).drew) ((C14.out.new (.cells #[.int .i64 0,.int .i64 0,.string ⟨#[]⟩,.string ⟨#[]⟩,.int .i64 0,.slice none 0 0,.slice none 0 0,.int .i64 0] 38)).drew).low HHP).mono ?_);rintro e v1 ⟨g2,rfl,hsy,hb⟩;have CK1:=hideK (((C14.out.new (.cells #[.int .i64 0,.int .i64 0,.string ⟨#[]⟩,.string ⟨#[]⟩,.int .i64 0,.slice none 0 0,.slice none 0 0,.int .i64 0] 38)).drew).call hb);have K1:=hideK (low_keep (lq_drew (lq_alloc (Below.refl w14.heap.size w14) (.cells #[.int .i64 0,.int .i64 0,.string ⟨#[]⟩,.string ⟨#[]⟩,.int .i64 0,.slice none 0 0,.slice none 0 0,.int .i64 0] 38))) hb);have S1:=hideK hsy;clear hsy hb)|(go_at_call 8;(with_reducible refine(HT.out (w14.drew) (C14.out.drew).low).mono ?_);rintro e v1 ⟨g1,m1,rfl,hmo,hb⟩;have CK1:=hideK ((C14.out.drew).call hb);have K1:=hideK (low_keep K0.out hb);have M1:=hideK hmo;clear hmo hb)|(go_at_call 17;(with_reducible refine(HY.out (w14.drew) (C14.out.drew).low HHP).mono ?_);rintro e v1 ⟨g2,rfl,hsy,hb⟩;have CK1:=hideK ((C14.out.drew).call hb);have K1:=hideK (low_keep K0.out hb);have S1:=hideK hsy;clear hsy hb))
      all_goals (try go_wp2_with fail)
      all_goals (first|(have hz:=at8_set (pz:=pz) (pb:=pb) (pr:=pr) (ps:=ps) (py:=py) (pc:=pc) CK3.out HL.out hgz C14.out.low.size A3.out HGL.out K3.out;go_meet;exact hz)|(go_meet;exact at8_new CK3.out A3.out K3.out))
     case rest =>
      have Y3:=hcut
      obtain⟨g15,lo15,hi15,ao15,co15,as15,cs15,rfl,hC15,hA15,_,hb15⟩:=Y3
      have C15:=hideK hC15
      have N15:=hideK hA15
      have A15:=hideK (A14.out.call hb15)
      have K15:=hideK (K14.out.call hb15)
      clear hC15 hA15 hb15 hcut HL CW C14 A14 K14 c0 c1 c2' c3 c4 c5 d0 d1 d2 d3
      generalize wc=w15 at *
      obtain⟨q0,q1,q2,q3,q4,q5,q6,q7⟩:=cellsP8 (C15.out.get 0 rfl)
      obtain⟨r0,r1,r2,r3,r4,r5,r6,r7⟩:=cellsP8 (C15.out.get 4 rfl)
      have HE14:=hideK (HEQ.out w15 _ _ _ _ _ _ _ _ N15.out A15.out)
      go_wp2_with fail
      refine HE14.out.mono ?_
      rintro e w16 ⟨rfl,hb⟩
      have C16:=hideK (C15.out.call hb)
      have K16:=hideK (K15.out.call hb)
      clear hb C15 K15 HE14 q0 q1 q2 q3 q4 q5 q6 q7 r0 r1 r2 r3 r4 r5 r6 r7
      obtain⟨q0,q1,q2,q3,q4,q5,q6,q7⟩:=cellsP8 (C16.out.get 1 rfl)
      have HH15:=hideK (HHA.out w16 _ _ _ _ K16.out)
      go_wp2_with fail
      refine HH15.out.mono ?_
      rintro e w17 ⟨rfl,hb⟩
      have C17:=hideK (C16.out.call hb)
      clear hb C16
      go_wp2_with fail
      go_ret
      exact⟨rfl,C17.out.low⟩
 ·rw[szV_no (by omega)]at HZ
  unfold lpV at HZ ⊢
  unfold sayV
  go_enter Tryz.func4,Tryz.ntmps4
  go_upto_region 4 with fail
  generalize (w.alloc _).alloc _=wa at C0 ⊢
  obtain⟨c0,c1,c2',c3,c4,c5⟩:=cellsP6 (C0.out.get 1 rfl)
  go_wp2_with fail
  refine(HZ.out _ C0.out.low).mono ?_
  rintro e w1 ⟨rfl,hb⟩
  have C1:=hideK (C0.out.call hb)
  clear hb C0
  go_wp2_with fail
  go_ret
  exact⟨rfl,C1.out.low⟩
end Go.Proofs.YtpddanmnlkcdpaaGreatDoor.fnExactHear


namespace Go.Proofs.YtpddanmnlkcdpaaGreatDoor.fnExactHear
open Go.ChangeShapes Go.WideShapes Go.ChangeAt Go.RowKit
open Go.ChangeMaps (open_string shut_string)
set_option linter.unusedVariables false
theorem own:ownKnob Tryz.prog.godebug=none:=by kernel_rfl
theorem laidOut:laidOutB Tryz.prog=true:=by kernel_rfl
theorem rowed:varsRowed Tryz.prog Rows.fnExactHearSpec.vars=true:=by kernel_rfl
theorem door_met (os:Os) (args:Array Value):laidMetH Tryz.prog Rows.fnExactHearRow.laid ((World.doorLaid Tryz.prog 400 os).forCall (fun _ _=>0) ⟨#[],args,[]⟩).memory :=
 laidMetH_of_parts3 (fuel:=8) (laidMet_of_run' 8 (by kernel_rfl) (by kernel_rfl)) (by kernel_rfl) (by kernel_rfl)
theorem lifted (os:Os) (started:os.Started) (H:Type) (enc:TypeId × Value->H) :
  ReturnsInHanded {} Tryz.checked os 4 .any (fun w args=>(Rows.fnExactHearSpec.pre enc Tryz.prog Tryz.f4 [] false w args/\laidMetH Tryz.prog Rows.fnExactHearRow.laid w)/\sizedMet enc Tryz.prog Tryz.f4 (OpenSpec.ofChange Rows.fnExactHearSpec) false w args)
   (Rows.fnExactHearSpec.post enc Tryz.prog Tryz.f4 false true false false):=by
 refine returnsInHanded_of_change_and (C:=Tryz.checked) (X:=fun w _=>laidMetH Tryz.prog Rows.fnExactHearRow.laid w) (fun _ _ _ hh h=>h.of_heap hh) own started (by kernel_rfl) Tryz.func4
  (ChangeSpec.witness_shaped (enc:=enc) (C:=Tryz.checked) (os:=os) (X:=fun w _=>laidMetH Tryz.prog Rows.fnExactHearRow.laid w) false (World.doorLaid Tryz.prog 400 os) #[.agg #[.int .i64 0,.int .i64 0,.string ByteArray.empty,.string ByteArray.empty,.int .i64 0,.slice none 0 0],.string ByteArray.empty,.agg #[.int .i64 0,.int .i64 0,.string ByteArray.empty,.slice none 0 0]] 8 rfl (World.shaped_of_RefB (by kernel_rfl) (by kernel_rfl)) (by kernel_rfl) (by kernel_rfl) (by kernel_rfl) (door_met os _)) ?_
 intro W base args ds gs before hval0 hW _ _ hL _
 have hval:∀ (j:Nat) t v,Tryz.f4.params[j]? = some t->args[j]? = some v->Value.okWide Tryz.prog W .any base t v:=hval0
 have hW':=hW
 obtain⟨p,q,hA0,hV,rfl,hfz,hnd⟩:=hW
 have hA:DataW.TrodAll enc Tryz.prog W 0 (fun _=>true) true Tryz.f4.params.toList args.toList ds p:=hA0
 rw[Tryz.params4]at hA hval
 obtain⟨v0,vs0,d0,ds0,p0,q0,hargs,rfl,rfl,h0,r0⟩:=trodAll_cons hA
 obtain⟨v1,vs1,d1,ds1,p1,q1,rfl,rfl,rfl,h1,r1⟩:=trodAll_cons r0
 obtain⟨v2,vs2,d2,ds2,p2,q2,rfl,rfl,rfl,h2,r2⟩:=trodAll_cons r1
 obtain⟨rfl,rfl,rfl⟩:=trodAll_nil r2
 obtain rfl:args=#[v0,v1,v2]:=by cases args;simp_all
 obtain⟨d8,d9,hgs⟩:∃ d8 d9,gs=[d8,d9]:=by
  obtain⟨_,_,_,_,d8,_,_,_,_,_,d9,_,e,_⟩:=trodVars_two (show DataW.TrodVars enc Tryz.prog W (fun _=>true) ["loop.example/g00550/impl.firstState","loop.example/g00550/impl.roundNumbers"] gs q from hV)
  exact⟨d8,d9,e⟩
 subst hgs
 have k0:=h0
 have lt0:∀ x∈p0,x.block<W.heap.size:=by obtain⟨m,hm⟩:=k0;exact DataW.trod_lt m _ _ _ hm
 obtain⟨z0,b0,s0,t0,y0,a0,n0,c0,mo0,rfl,wr0,ws0,wm0,wn0,wo0,wl0⟩:=Pe.open_peer (hval 0 28 v0 rfl rfl) h0
 obtain⟨a1,rfl,rfl,rfl,w1⟩:=open_string Tryz.underlying9 (hval 1 9 v1 rfl rfl) h1
 have k2:=h2
 have lt2:∀ x∈p2,x.block<W.heap.size:=by obtain⟨m,hm⟩:=k2;exact DataW.trod_lt m _ _ _ hm
 obtain⟨k3,i2,t2,l2,a2,c2,rfl,wt2,wl2,wq2,wS2⟩:=Hr.open_say (hval 2 48 v2 rfl rfl) h2
 obtain⟨hh,hg⟩:=Kp.both_of_laid hL
 clear hA0 hval0
 refine(walk z0 b0 s0 t0 y0 a0 n0 c0 mo0 wr0 ws0 wm0 wn0 wl0 a1 k3 i2 t2 l2 a2 c2 wt2 wl2 wq2 W wo0 wS2 hh hg).mono fun e W' ⟨he,bel⟩=>?_
 subst he
 exact⟨_,rfl,_,_,_,[],_,_,hW',trodAll_mk1 (shut_bool Tryz.underlying4 _),(trodAll_cons_mk (Below.trod laidOut (by kernel_rfl) (of_decide_eq_true (by kernel_rfl)) k0 bel lt0) (trodAll_cons_mk (shut_string Tryz.underlying9 w1) (trodAll_cons_mk (Below.trod laidOut (by kernel_rfl) (of_decide_eq_true (by kernel_rfl)) k2 bel lt2) trodAll_mk0))),Below.trodVars laidOut bel rowed hV,bel.frame _,fun h=>by cases h⟩
end Go.Proofs.YtpddanmnlkcdpaaGreatDoor.fnExactHear

