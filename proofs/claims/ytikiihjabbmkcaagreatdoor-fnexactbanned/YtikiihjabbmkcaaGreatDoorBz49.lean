/- Texts put together: BannedLaw. -/
import Derived.Test.YtikiihjabbmkcaaGreatDoorBz45
import Derived.Test.YtikiihjabbmkcaaGreatDoorBz46
import Derived.Test.YtikiihjabbmkcaaGreatDoorBz47
import Derived.Test.YtikiihjabbmkcaaGreatDoorBz48
set_option maxRecDepth 100000
set_option maxHeartbeats 8000000
namespace Go.Proofs.YtikiihjabbmkcaaGreatDoor.fnExactBanned
open Go.RowKit
open Kp
open Pe
open Ls (HH hh_keep lV rightB vars_keepF lowL)
open Sh (Vars)
open St (Aft OwnS OwnIn)
theorem cx_aft {w W W':World} {l:List (Nat × Obj)} {g:Nat} (h:Cx w W l) (ha:Aft g W W') (hg:w.heap.size<=g) (hne:∀ x∈l,x.1≠g):Cx w W' l :=
 ⟨Aft.below h.low ha hg h.low.size,fun x hx=>(ha.2.2.2.2 x.1 (lt_rowK (h.blk x hx)) (hne x hx)).trans (h.blk x hx)⟩
theorem cx_chg {w W W':World} {l:List (Nat × Obj)} {lo hi:Nat} (h:Cx w W l) (hc:Chg lo hi W W') (hg:w.heap.size<=lo) (hne:∀ x∈l,x.1<lo∨hi<=x.1):Cx w W' l :=
 ⟨Chg.below h.low hc hg h.low.size,fun x hx=>(hc.block x.1 (lt_rowK (h.blk x hx)) (hne x hx)).trans (h.blk x hx)⟩
theorem in_chg {W W':World} {lo hi a b:Nat} {v:Value} {l:List ByteArray} (h:OwnIn W a b v l) (hc:Chg lo hi W W') (hne:b<=lo∨hi<=a) (hb:b<=W.heap.size):OwnIn W' a b v l:=by
 rcases h with h|⟨g,cap,hv,hg,hh,ho⟩
 ·exact .inl h
 ·exact .inr ⟨g,cap,hv,hg,hh,ho.of_heap (hc.block g (by omega) (by omega))⟩
theorem banP_impl (z b:Int) (r s:ByteArray) (y:Int) (n:Nat) (m:List MO) (hs:s.size<=1048576) (hn:n<=1048576) (hsm:Small m) (W:World) (hh:HH W) (hV:Vars W) (a':Option Addr) (cap':Nat) (mo:List MO) (h1:Oths W W.heap.size a' mo) (h2:mo.length=n) (h3:oths mo=oths m) :
  Calls Tryz.prog 36 #[peerV z b r s y (.slice a' n cap')] W fun e w'=>∃ v,e=.returned v/\OwnS w' W.heap.size v (banV (fitR z b r) z b r s y (oths m))/\Below W.heap.size W w':=by
 have:=banned_impl (fitR z b r) z b r s y a' n cap' mo W hs hh (fitC_of z b r W hV) h1 h2 hn (small_of h3 hsm)
 rw[h3]at this
 exact this
theorem banP_spec (z b:Int) (r s:ByteArray) (y:Int) (n:Nat) (m:List MO) (hs:s.size<=1048576) (hn:n<=1048576) (hsm:Small m) (W:World) (a':Option Addr) (cap':Nat) (mo:List MO) (h1:Oths W W.heap.size a' mo) (h2:mo.length=n) (h3:oths mo=oths m) :
  Calls Tryz.prog 35 #[peerV z b r s y (.slice a' n cap')] W fun e w'=>∃ v,e=.returned v/\OwnS w' W.heap.size v (banV (fitR z b r) z b r s y (oths m))/\Below W.heap.size W w':=by
 have:=banned_spec (fitR z b r) z b r s y a' n cap' mo W hs (fun hq=>fitS_of z b r W hq) h1 h2 hn (small_of h3 hsm)
 rw[h3]at this
 exact this
theorem walk (z b:Int) (r s:ByteArray) (y:Int) (a:Option Addr) (n cap:Nat) (m:List MO) (hr:r.size<=maxLen) (hs:s.size<=maxLen) (hm:m.length=n) (hn:n<=maxLen) (hl:Lens m) (w:World) (hos:Oths w w.heap.size a m) (hh:HH w) (hV:Vars w) :
  Calls Tryz.prog 8 #[lpV z b r s y (.slice a n cap)] w fun e w'=>e=.returned (.bool true)/\Below w.heap.size w w':=by
 have C0:=hideK ((Cx.nil w).new (lpO z b r s y (.slice a n cap)))
 unfold lpO at C0
 have HZ:=hideK (fun W (hW:Below w.heap.size w W)=>szP_any z b r s y a n cap m W ((hos.below hW).mono hW.size) hm hr hs hn hl)
 by_cases h:r.size+s.size+(n+tot (oths m))<=1048576
 ·have hsm:Small m:=small_lens (K:=r.size+s.size+n) (by omega) hl
  rw[szV_yes (by omega)]at HZ
  have h1:¬(1048576-((r.size+s.size+(n+tot (oths m)):Nat):Int))<0:=by omega
  have HT:=hideK (fun W (hW:Below w.heap.size w W)=>toP_any z b r s y a n cap m W ((hos.below hW).mono hW.size) hm (by omega) hsm)
  have HS:=hideK (fun W=>banP_spec z b r s y n m (by omega) (by omega) hsm W)
  have HI:=hideK (fun W (hW:Below w.heap.size w W)=>banP_impl z b r s y n m (by omega) (by omega) hsm W (hh_keep hh hW) (vars_keepF hV hW))
  have HQ:Hid (∀ W (a' a'':Option Addr) (c' c'':Nat) (m' m'':List MO),Oths W W.heap.size a' m'->Oths W W.heap.size a'' m''->oths m'=oths m->oths m''=oths m->m'.length=n->Calls Tryz.prog 20 #[peerV z b r s y (.slice a' n c'),peerV z b r s y (.slice a'' n c'')] W fun e w'=>e=.returned (.bool true)/\Below W.heap.size W w'):=fun W a' a'' c' c'' m' m'' h1 h2 h3 h4 h5=>eqP_any z b r s y a' a'' n c' c'' m' m'' W h1 h2 (h3.trans h4.symm) h5 (by omega) (small_of h3 hsm)
  have HMP:Hid (∀ W lo hi (v:Value) (m':List MO),RowM W lo hi v m'->oths m'=oths m->∃ K:Nat,Calls Tryz.prog 24 #[peerV z b r s y v,.int .i64 1] W fun e w'=>e=.returned (.int .i64 (K:Int))/\Chg lo hi W w'):=fun W lo hi v m' hr hq=>by
   have hln:m'.length=n:=by rw[<-oths_length,hq,oths_length,hm]
   have hbd:=mkE_bd (oths m) 1
   rw[oths_length,hm]at hbd
   have hmk:=markP_any z b r s y 1 lo hi v m' W hr (by omega) (fun x hx=>(small_of hq hsm x hx).1) (by omega) (by rw[hq];omega)
   refine⟨mkE 1 (oths m'),Calls.mono (R':=fun e w'=>e=.returned (.int .i64 (mkE 1 (oths m'):Nat))/\Chg lo hi W w') hmk ?_⟩
   rintro e w' ⟨rfl,_,hc⟩
   exact⟨rfl,hc⟩
  have HQN:Hid ((banV (fitR z b r) z b r s y (oths m)).length<=1048576):=by
   have:=banV_le (fitR z b r) z b r s y (oths m)
   rw[oths_length,hm]at this
   unfold Hid
   omega
  generalize banV (fitR z b r) z b r s y (oths m)=x at HI HS HQN
  generalize r.size+s.size+(n+tot (oths m))=K at HZ h1
  clear hos hsm hl
  unfold lpV at HZ HT ⊢
  unfold peerV at HT HS HI HQ HMP
  go_enter Tryz.func8,Tryz.ntmps8
  go_wp2_with fail
  generalize w.alloc _=wa at C0 ⊢
  refine(HZ.out _ C0.out.low).mono ?_
  rintro e w1 ⟨rfl,hb⟩
  have C1:=hideK (C0.out.call hb)
  clear hb C0 HZ
  obtain⟨c0,c1,c2,c3,c4,c5⟩:=cellsP6 (C1.out.get 0 rfl)
  go_wp2_with fail
  refine(HT.out _ C1.out.low).mono ?_
  rintro e w2 ⟨g2,m2,rfl,hmo,hb⟩
  obtain⟨ho2,hl2⟩:=hmo.oths
  have HS2:=hideK (HS.out w2 (some ⟨g2,0,none⟩) n m2 ho2 hl2 hmo.os)
  have C2:=hideK (C1.out.call hb)
  clear hb C1 c0 c1 c2 c3 c4 c5 hmo ho2 hl2
  go_wp2_with fail
  refine(HS2.out).mono ?_
  rintro e w3 ⟨v6,rfl,ho6,hb⟩
  have V6:=hideK ho6.inn
  have z2:=lt_rowK (C2.out.get 0 rfl)
  have z3:=hb.size
  have C3:=hideK ((C2.out.call hb))
  clear hb C2 HS HS2 ho6
  obtain⟨c0,c1,c2,c3,c4,c5⟩:=cellsP6 (C3.out.get 0 rfl)
  go_wp2_with fail
  refine(HT.out _ C3.out.low).mono ?_
  rintro e w4 ⟨g4,m4,rfl,hmo,hb⟩
  have V6b:=hideK (V6.out.below hb (Nat.le_refl _))
  have z4:=hb.size
  have R4:=hideK (hmo.rowM)
  have M4:=hideK (hmo.call ((Below.refl _ _).alloc (Nat.le_refl _) (peerO z b r s y (.slice (some ⟨g4,0,none⟩) n n))))
  have C4:=hideK ((C3.out.call hb).new (peerO z b r s y (.slice (some ⟨g4,0,none⟩) n n)))
  have R5:=hideK (R4.out.call ((Below.refl _ _).alloc (Nat.le_refl _) (peerO z b r s y (.slice (some ⟨g4,0,none⟩) n n))))
  have V6c:=hideK (V6b.out.below ((Below.refl _ _).alloc (Nat.le_refl _) (peerO z b r s y (.slice (some ⟨g4,0,none⟩) n n))) z4)
  clear hb C3 c0 c1 c2 c3 c4 c5 hmo R4 V6b V6
  unfold peerO at C4 M4 R5 V6c
  go_upto_region 7 with fail
  have z5:w4.heap.size<(w4.alloc (.cells #[.int .i64 z,.int .i64 b,.string r,.string s,.int .i64 y,.slice (some ⟨g4,0,none⟩) n n] 43)).heap.size:=lt_rowK (C4.out.get 0 rfl)
  generalize w4.alloc _=W4 at C4 M4 R5 V6c z5 ⊢
  obtain⟨ho4,hl4⟩:=M4.out.oths
  have HI4:=hideK (HI.out W4 C4.out.low (some ⟨g4,0,none⟩) n m4 ho4 hl4 M4.out.os)
  clear ho4 hl4
  obtain⟨d0,d1,d2,d3,d4,d5⟩:=cellsP6 (C4.out.get 0 rfl)
  go_wp2_with fail
  refine(HI4.out).mono ?_
  rintro e w5 ⟨v8,rfl,ho8,hb⟩
  have V8:=hideK ho8.inn
  have V6d:=hideK (V6c.out.below hb (by omega))
  have C5:=hideK (C4.out.call hb)
  have M5:=hideK (M4.out.call hb)
  have R6:=hideK (R5.out.call hb)
  have z6:=hb.size
  clear hb C4 M4 HI4 d0 d1 d2 d3 d4 d5 ho8 V6c R5
  go_wp2_with fail
  refine(St.eq_in V8.out V6d.out HQN.out).mono ?_
  rintro e w6 ⟨rfl,hb⟩
  have V8b:=hideK (V8.out.below hb (Nat.le_refl _))
  have V6e:=hideK (V6d.out.below hb (by omega))
  have C6:=hideK (C5.out.call hb)
  have M6:=hideK (M5.out.call hb)
  have R7:=hideK (R6.out.call hb)
  have z7:=hb.size
  clear hb C5 M5 V8 V6d R6
  obtain⟨d0,d1,d2,d3,d4,d5⟩:=cellsP6 (C6.out.get 0 rfl)
  obtain⟨c0,c1,c2,c3,c4,c5⟩:=cellsP6 (C6.out.get 1 rfl)
  go_upto_region 10 with fail
  go_cut [31] from 27 to 30 (fun s31 wx=>s31=.bool false/\Below w6.heap.size w6 wx)
  case first =>
   go_region_with ((first|(go_at_call 18;refine(HT.out _ (C6.out.low.drew)).mono ?_;rintro e w7 ⟨g7,m7,rfl,hmo,hb⟩;have M7:=hideK hmo;have C7:=hideK (C6.out.drew.call hb);have B7:=hideK (lowL ((Below.refl w6.heap.size w6).drew) hb);have MM7:=hideK ((M6.out.call ((Below.refl _ w6).drew)).call hb);clear hb hmo;obtain⟨f0,f1,f2,f3,f4,f5⟩:=cellsP6 (C7.out.get 0 rfl))|(go_at_call 20;refine(HQ.out _ _ _ _ _ _ _ MM7.out.oths.1 M7.out.oths.1 MM7.out.os M7.out.os MM7.out.oths.2).mono ?_;rintro e w8 ⟨rfl,hb⟩;have B8:=hideK (lowL B7.out hb);clear hb)))
   all_goals (try go_wp2_with fail)
   all_goals go_meet
   all_goals exact⟨rfl,B8.out⟩
  case rest =>
   obtain⟨rfl,hbx⟩:=hcut
   have V8c:=hideK (V8b.out.below hbx (by omega))
   have V6f:=hideK (V6e.out.below hbx (by omega))
   have C8:=hideK (C6.out.call hbx)
   have R8:=hideK (R7.out.call hbx)
   have z8:=hbx.size
   clear hbx C6 V8b V6e R7 d0 d1 d2 d3 d4 d5 c0 c1 c2 c3 c4 c5
   obtain⟨d0,d1,d2,d3,d4,d5⟩:=cellsP6 (C8.out.get 0 rfl)
   obtain⟨KM,hKM⟩:=HMP.out wc _ _ _ _ R8.out M6.out.os
   have HKM:=hideK hKM
   clear hKM HMP
   have hk1:¬(KM:Int)<0:=by omega
   have hk2:decide ((KM:Int)<0)=false:=by simp
   go_wp2_with fail
   refine HKM.out.mono ?_
   rintro e w9 ⟨rfl,hc9⟩
   have V8d:=hideK (in_chg V8c.out hc9 (by omega) (by omega))
   have V6g:=hideK (in_chg V6f.out hc9 (by omega) (by omega))
   have C9:=hideK (cx_chg C8.out hc9 (by have:=C8.out.low.size;omega) (fun x hx=>by
    rcases List.mem_cons.1 hx with rfl|hx
    ·show w4.heap.size<w3.heap.size∨w4.heap.size<=w4.heap.size;omega
    ·rw[List.mem_singleton.1 hx];show w.heap.size<w3.heap.size∨w4.heap.size<=w.heap.size;omega))
   have z9:=hc9.size
   clear hc9 C8 V8c V6f R8 d0 d1 d2 d3 d4 d5
   go_wp2_with fail
   refine(St.eq_in V8d.out V6g.out HQN.out).mono ?_
   rintro e w10 ⟨rfl,hb⟩
   have V8e:=hideK (V8d.out.below hb (by omega))
   have V6h:=hideK (V6g.out.below hb (by omega))
   have C10:=hideK (C9.out.call hb)
   have z10:=hb.size
   clear hb C9 V8d V6g
   go_wp2_with fail
   refine(St.mark_in V8e.out HQN.out).mono ?_
   rintro e w11 ⟨rfl,hm11,g11,hg11,ha11⟩
   have Q11:=hideK hm11
   have V6i:=hideK (V6h.out.aft ha11 (by omega) (by omega))
   have C11:=hideK (cx_aft C10.out ha11 (by omega) (fun x hx=>by
    rcases List.mem_cons.1 hx with rfl|hx
    ·show w4.heap.size≠g11;omega
    ·rw[List.mem_singleton.1 hx];show w.heap.size≠g11;omega))
   have z11:=ha11.2.2.2.1
   clear ha11 hm11 V8e V6h C10
   generalize hql:x.length=ql at HQN Q11 ⊢
   have hpos2:¬(1+(ql:Int))<0:=by omega
   go_wp2_with fail
   refine(St.held_in Q11.out HQN.out).mono ?_
   rintro e w12 ⟨rfl,hb⟩
   have Q12:=hideK (Q11.out.below hb (by omega))
   have V6j:=hideK (V6i.out.below hb (by omega))
   have C12:=hideK (C11.out.call hb)
   have z12:=hb.size
   clear hb C11 Q11 V6i
   obtain⟨c0,c1,c2,c3,c4,c5⟩:=cellsP6 (C12.out.get 1 rfl)
   go_wp2_with fail
   refine(HT.out _ C12.out.low).mono ?_
   rintro e w13 ⟨g13,m13,rfl,hmo,hb⟩
   obtain⟨ho13,hl13⟩:=hmo.oths
   have C13:=hideK (C12.out.call hb)
   have HI13:=hideK (HI.out w13 C13.out.low (some ⟨g13,0,none⟩) n m13 ho13 hl13 hmo.os)
   have Q13:=hideK (Q12.out.below hb (by omega))
   have V6k:=hideK (V6j.out.below hb (by omega))
   have z13:=hb.size
   clear hb C12 c0 c1 c2 c3 c4 c5 hmo ho13 hl13 Q12 V6j
   go_wp2_with fail
   refine HI13.out.mono ?_
   rintro e w14 ⟨v14,rfl,ho14,hb⟩
   have V14:=hideK ho14.inn
   have Q14:=hideK (Q13.out.below hb (by omega))
   have V6l:=hideK (V6k.out.below hb (by omega))
   have C14:=hideK (C13.out.call hb)
   have z14:=hb.size
   clear hb C13 ho14 Q13 V6k
   go_wp2_with fail
   refine(St.eq_in V14.out V6l.out (by rw[hql];exact HQN.out)).mono ?_
   rintro e w15 ⟨rfl,hb⟩
   have Q15:=hideK (Q14.out.below hb (by omega))
   have C15:=hideK (C14.out.call hb)
   clear hb C14 Q14 V14 V6l
   go_wp2_with fail
   refine(St.held_in Q15.out HQN.out).mono ?_
   rintro e w16 ⟨rfl,hb⟩
   have C16:=hideK (C15.out.call hb)
   clear hb C15
   go_wp2_with fail
   go_ret
   exact⟨rfl,C16.out.low⟩
 ·rw[szV_no (by omega)]at HZ
  unfold lpV at HZ ⊢
  go_enter Tryz.func8,Tryz.ntmps8
  go_wp2_with fail
  generalize w.alloc _=wa at C0 ⊢
  refine(HZ.out _ C0.out.low).mono ?_
  rintro e w1 ⟨rfl,hb⟩
  have C1:=hideK (C0.out.call hb)
  clear hb C0
  go_wp2_with fail
  go_ret
  exact⟨rfl,C1.out.low⟩
end Go.Proofs.YtikiihjabbmkcaaGreatDoor.fnExactBanned

