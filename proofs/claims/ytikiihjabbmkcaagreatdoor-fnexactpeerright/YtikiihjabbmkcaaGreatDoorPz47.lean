/- Texts put together: PeerRightLaw. -/
import Derived.Test.YtikiihjabbmkcaaGreatDoorPz45
import Derived.Test.YtikiihjabbmkcaaGreatDoorPz46
set_option maxRecDepth 100000
set_option maxHeartbeats 8000000
namespace Go.Proofs.YtikiihjabbmkcaaGreatDoor.fnExactPeerRight
open Go.RowKit
open Kp
open Pe
open Ls (HH hh_keep lV rightB vars_keepF lowL)
open Sh (Vars)
theorem walk (z b:Int) (r s:ByteArray) (y:Int) (a:Option Addr) (n cap:Nat) (m:List MO) (hr:r.size<=maxLen) (hs:s.size<=maxLen) (hm:m.length=n) (hn:n<=maxLen) (hl:Lens m) (w:World) (hos:Oths w w.heap.size a m) (hh:HH w) (hV:Vars w) :
  Calls Tryz.prog 4 #[lpV z b r s y (.slice a n cap)] w fun e w'=>e=.returned (.bool true)/\Below w.heap.size w w':=by
 have C0:=hideK ((Cx.nil w).new (lpO z b r s y (.slice a n cap)))
 unfold lpO at C0
 have HZ:=hideK (fun W (hW:Below w.heap.size w W)=>szP_any z b r s y a n cap m W ((hos.below hW).mono hW.size) hm hr hs hn hl)
 by_cases h:r.size+s.size+(n+tot (oths m))<=1048576
 ·have hsm:Small m:=small_lens (K:=r.size+s.size+n) (by omega) hl
  rw[szV_yes (by omega)]at HZ
  have h1:¬(1048576-((r.size+s.size+(n+tot (oths m)):Nat):Int))<0:=by omega
  have HT:=hideK (fun W (hW:Below w.heap.size w W)=>toP_any z b r s y a n cap m W ((hos.below hW).mono hW.size) hm (by omega) hsm)
  have HS:=hideK (fun W=>right_specP z b r s y n m (by omega) (by omega) hsm W)
  have HI:=hideK (fun W (hW:Below w.heap.size w W)=>right_implP z b r s y n m (by omega) (by omega) hsm W (hh_keep hh hW) (vars_keepF hV hW))
  have HQ:Hid (∀ W (a' a'':Option Addr) (c' c'':Nat) (m' m'':List MO),Oths W W.heap.size a' m'->Oths W W.heap.size a'' m''->oths m'=oths m->oths m''=oths m->m'.length=n->Calls Tryz.prog 20 #[peerV z b r s y (.slice a' n c'),peerV z b r s y (.slice a'' n c'')] W fun e w'=>e=.returned (.bool true)/\Below W.heap.size W w'):=fun W a' a'' c' c'' m' m'' h1 h2 h3 h4 h5=>eqP_any z b r s y a' a'' n c' c'' m' m'' W h1 h2 (h3.trans h4.symm) h5 (by omega) (small_of h3 hsm)
  generalize peerB (fitR z b r) z b r s y (oths m)=x at HI HS
  have hcmp:(x != x)=false:=by simp
  generalize r.size+s.size+(n+tot (oths m))=K at HZ h1
  clear hos hsm hl
  unfold lpV at HZ HT ⊢
  unfold peerV at HT HS HI HQ
  go_enter Tryz.func4,Tryz.ntmps4
  go_wp2_with fail
  generalize w.alloc _=wa at C0 ⊢
  refine(HZ.out _ C0.out.low).mono ?_
  rintro e w1 ⟨rfl,hb⟩
  have C1:=hideK (C0.out.call hb)
  clear hb C0 HZ
  obtain⟨c0,c1,c2,c3,c4,c5⟩:=cellsP6 (C1.out.get 0 rfl)
  go_wp2_with fail
  refine(HT.out _ C1.out.low).mono ?_
  rintro e w2 ⟨g2,m2,rfl,hmo,hb⟩
  obtain⟨ho2,hl2⟩:=hmo.oths
  have HS2:=hideK (HS.out w2 (some ⟨g2,0,none⟩) n m2 ho2 hl2 hmo.os)
  have C2:=hideK (C1.out.call hb)
  clear hb C1 c0 c1 c2 c3 c4 c5 hmo ho2 hl2
  go_wp2_with fail
  refine(HS2.out).mono ?_
  rintro e w3 ⟨rfl,hb⟩
  have C3:=hideK ((C2.out.call hb))
  clear hb C2 HS HS2
  obtain⟨c0,c1,c2,c3,c4,c5⟩:=cellsP6 (C3.out.get 0 rfl)
  go_wp2_with fail
  refine(HT.out _ C3.out.low).mono ?_
  rintro e w4 ⟨g4,m4,rfl,hmo,hb⟩
  have M4:=hideK (hmo.call ((Below.refl _ _).alloc (Nat.le_refl _) (peerO z b r s y (.slice (some ⟨g4,0,none⟩) n n))))
  have C4:=hideK ((C3.out.call hb).new (peerO z b r s y (.slice (some ⟨g4,0,none⟩) n n)))
  clear hb C3 c0 c1 c2 c3 c4 c5 hmo
  unfold peerO at C4 M4
  go_upto_region 7 with fail
  generalize w4.alloc _=W4 at C4 M4 ⊢
  generalize w4.heap.size=g5 at C4 ⊢
  obtain⟨ho4,hl4⟩:=M4.out.oths
  have HI4:=hideK (HI.out W4 C4.out.low (some ⟨g4,0,none⟩) n m4 ho4 hl4 M4.out.os)
  clear ho4 hl4
  obtain⟨d0,d1,d2,d3,d4,d5⟩:=cellsP6 (C4.out.get 0 rfl)
  go_wp2_with fail
  refine(HI4.out).mono ?_
  rintro e w5 ⟨rfl,hb⟩
  have C5:=hideK (C4.out.call hb)
  have M5:=hideK (M4.out.call hb)
  clear hb C4 M4 HI HI4 d0 d1 d2 d3 d4 d5
  obtain⟨d0,d1,d2,d3,d4,d5⟩:=cellsP6 (C5.out.get 0 rfl)
  obtain⟨c0,c1,c2,c3,c4,c5⟩:=cellsP6 (C5.out.get 1 rfl)
  go_wp2_with fail
  go_region_with ((first|(go_at_call 18;refine(HT.out _ (C5.out.low.drew)).mono ?_;rintro e w6 ⟨g6,m6,rfl,hmo,hb⟩;have M6:=hideK hmo;have C6:=hideK (C5.out.drew.call hb);have MM6:=hideK ((M5.out.call ((Below.refl _ w5).drew)).call hb);clear hb hmo;obtain⟨f0,f1,f2,f3,f4,f5⟩:=cellsP6 (C6.out.get 0 rfl))|(go_at_call 20;refine(HQ.out _ _ _ _ _ _ _ MM6.out.oths.1 M6.out.oths.1 MM6.out.os M6.out.os MM6.out.oths.2).mono ?_;rintro e w7 ⟨rfl,hb⟩;have C7:=hideK (C6.out.call hb);clear hb)))
  all_goals (try go_wp2_with fail)
  all_goals (
   go_ret
   exact⟨rfl,C7.out.low⟩)
 ·rw[szV_no (by omega)]at HZ
  unfold lpV at HZ ⊢
  go_enter Tryz.func4,Tryz.ntmps4
  go_wp2_with fail
  generalize w.alloc _=wa at C0 ⊢
  refine(HZ.out _ C0.out.low).mono ?_
  rintro e w1 ⟨rfl,hb⟩
  have C1:=hideK (C0.out.call hb)
  clear hb C0
  go_wp2_with fail
  go_ret
  exact⟨rfl,C1.out.low⟩
end Go.Proofs.YtikiihjabbmkcaaGreatDoor.fnExactPeerRight

