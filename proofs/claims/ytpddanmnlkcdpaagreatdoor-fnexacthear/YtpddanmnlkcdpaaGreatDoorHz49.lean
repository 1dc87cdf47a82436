/- Texts put together: HrTake, HrAddS. -/
import Derived.Test.YtpddanmnlkcdpaaGreatDoorHz45
import Derived.Test.YtpddanmnlkcdpaaGreatDoorHz39
import Derived.Test.YtpddanmnlkcdpaaGreatDoorHz47
import Derived.Test.YtpddanmnlkcdpaaGreatDoorHz41
set_option maxRecDepth 100000
set_option maxHeartbeats 8000000
namespace Go.Proofs.YtpddanmnlkcdpaaGreatDoor.Tk
open Go.RowKit
open Kp
open Pe
open Pl
open Hr
open In (Ints OwnI)
open Ls (lowL blk_alloc lm_alloc lm_drew cells3 HH hh_keep)
open St (Strs)
def FitA (fit:Rec->Bool):Prop:=∀ x,fit x=true->RecS x/\(innerT x).size<=7996
theorem wp_set7s {W:World} {g:Nat} {u:Value} {e z b:Int} {r s:ByteArray} {y:Int} {vo vs:Value} (h:W.heap[g]? = some (wpB u e z b r s y vo vs)) (u2:Value) (e2 z2 b2:Int) (r2 s2:ByteArray) (y2:Int) :
  (((((((W.setCell ⟨g,0,none⟩ u2).setCell ⟨g,1,none⟩ (.int .i64 e2)).setCell ⟨g,2,none⟩ (.int .i64 z2)).setCell ⟨g,3,none⟩ (.int .i64 b2)).setCell ⟨g,4,none⟩ (.string r2)).setCell ⟨g,5,none⟩ (.string s2)).setCell ⟨g,6,none⟩ (.int .i64 y2)).heap[g]? = some (wpB u2 e2 z2 b2 r2 s2 y2 vo vs):=by
 unfold wpB at h ⊢
 have h0:(W.setCell ⟨g,0,none⟩ u2).heap[g]? = some (.cells #[u2,.int .i64 e,.int .i64 z,.int .i64 b,.string r,.string s,.int .i64 y,vo,vs] 78 (0,0)):=by rw[heap_setCell_same _ g 0 _ _ _ h];rfl
 have h1:((W.setCell ⟨g,0,none⟩ u2).setCell ⟨g,1,none⟩ (.int .i64 e2)).heap[g]? = some (.cells #[u2,.int .i64 e2,.int .i64 z,.int .i64 b,.string r,.string s,.int .i64 y,vo,vs] 78 (0,0)):=by rw[heap_setCell_same _ g 1 _ _ _ h0];rfl
 have h2:(((W.setCell ⟨g,0,none⟩ u2).setCell ⟨g,1,none⟩ (.int .i64 e2)).setCell ⟨g,2,none⟩ (.int .i64 z2)).heap[g]? = some (.cells #[u2,.int .i64 e2,.int .i64 z2,.int .i64 b,.string r,.string s,.int .i64 y,vo,vs] 78 (0,0)):=by rw[heap_setCell_same _ g 2 _ _ _ h1];rfl
 have h3:((((W.setCell ⟨g,0,none⟩ u2).setCell ⟨g,1,none⟩ (.int .i64 e2)).setCell ⟨g,2,none⟩ (.int .i64 z2)).setCell ⟨g,3,none⟩ (.int .i64 b2)).heap[g]? = some (.cells #[u2,.int .i64 e2,.int .i64 z2,.int .i64 b2,.string r,.string s,.int .i64 y,vo,vs] 78 (0,0)):=by rw[heap_setCell_same _ g 3 _ _ _ h2];rfl
 have h4:(((((W.setCell ⟨g,0,none⟩ u2).setCell ⟨g,1,none⟩ (.int .i64 e2)).setCell ⟨g,2,none⟩ (.int .i64 z2)).setCell ⟨g,3,none⟩ (.int .i64 b2)).setCell ⟨g,4,none⟩ (.string r2)).heap[g]? = some (.cells #[u2,.int .i64 e2,.int .i64 z2,.int .i64 b2,.string r2,.string s,.int .i64 y,vo,vs] 78 (0,0)):=by rw[heap_setCell_same _ g 4 _ _ _ h3];rfl
 have h5:((((((W.setCell ⟨g,0,none⟩ u2).setCell ⟨g,1,none⟩ (.int .i64 e2)).setCell ⟨g,2,none⟩ (.int .i64 z2)).setCell ⟨g,3,none⟩ (.int .i64 b2)).setCell ⟨g,4,none⟩ (.string r2)).setCell ⟨g,5,none⟩ (.string s2)).heap[g]? = some (.cells #[u2,.int .i64 e2,.int .i64 z2,.int .i64 b2,.string r2,.string s2,.int .i64 y,vo,vs] 78 (0,0)):=by rw[heap_setCell_same _ g 5 _ _ _ h4];rfl
 have h6:(((((((W.setCell ⟨g,0,none⟩ u2).setCell ⟨g,1,none⟩ (.int .i64 e2)).setCell ⟨g,2,none⟩ (.int .i64 z2)).setCell ⟨g,3,none⟩ (.int .i64 b2)).setCell ⟨g,4,none⟩ (.string r2)).setCell ⟨g,5,none⟩ (.string s2)).setCell ⟨g,6,none⟩ (.int .i64 y2)).heap[g]? = some (.cells #[u2,.int .i64 e2,.int .i64 z2,.int .i64 b2,.string r2,.string s2,.int .i64 y2,vo,vs] 78 (0,0)):=by rw[heap_setCell_same _ g 6 _ _ _ h5];rfl
 exact h6
theorem WS.putK {w W:World} {gw:Nat} {u:Value} {e z b:Int} {r s:ByteArray} {y:Int} {vo vs:Value} {mo:List MO} {ms:List ML} {mr:List MR} (h:WS w W gw u e z b r s y vo vs mo ms mr) (u2:Value) (e2 z2 b2:Int) (r2 s2:ByteArray) (y2:Int) (m2:List MR) (ho:OwnR W w.heap.size u2 m2) (hsl:∀ x∈m2,∃ a n cap,x.2=.slice a n cap) :
  WS w (((((((W.setCell ⟨gw,0,none⟩ u2).setCell ⟨gw,1,none⟩ (.int .i64 e2)).setCell ⟨gw,2,none⟩ (.int .i64 z2)).setCell ⟨gw,3,none⟩ (.int .i64 b2)).setCell ⟨gw,4,none⟩ (.string r2)).setCell ⟨gw,5,none⟩ (.string s2)).setCell ⟨gw,6,none⟩ (.int .i64 y2)) gw u2 e2 z2 b2 r2 s2 y2 vo vs mo ms m2 /\
  KeepH W (((((((W.setCell ⟨gw,0,none⟩ u2).setCell ⟨gw,1,none⟩ (.int .i64 e2)).setCell ⟨gw,2,none⟩ (.int .i64 z2)).setCell ⟨gw,3,none⟩ (.int .i64 b2)).setCell ⟨gw,4,none⟩ (.string r2)).setCell ⟨gw,5,none⟩ (.string s2)).setCell ⟨gw,6,none⟩ (.int .i64 y2)):=by
 have hgw:=h.gwb
 have hb:=wp_set7s h.gwb u2 e2 z2 b2 r2 s2 y2
 have hg:=h.gw0
 have hlow:=((((((h.low.setCell (p:=⟨gw,0,none⟩) hg u2).setCell (p:=⟨gw,1,none⟩) hg (.int .i64 e2)).setCell (p:=⟨gw,2,none⟩) hg (.int .i64 z2)).setCell (p:=⟨gw,3,none⟩) hg (.int .i64 b2)).setCell (p:=⟨gw,4,none⟩) hg (.string r2)).setCell (p:=⟨gw,5,none⟩) hg (.string s2)).setCell (p:=⟨gw,6,none⟩) hg (.int .i64 y2)
 have hk:∀ k o,W.heap[k]? = some o->k≠gw->(((((((W.setCell ⟨gw,0,none⟩ u2).setCell ⟨gw,1,none⟩ (.int .i64 e2)).setCell ⟨gw,2,none⟩ (.int .i64 z2)).setCell ⟨gw,3,none⟩ (.int .i64 b2)).setCell ⟨gw,4,none⟩ (.string r2)).setCell ⟨gw,5,none⟩ (.string s2)).setCell ⟨gw,6,none⟩ (.int .i64 y2)).heap[k]? = some o:=fun k o hk hne=>by
  rw[heap_setCell_other _ _ k _ (by exact hne),heap_setCell_other _ _ k _ (by exact hne),heap_setCell_other _ _ k _ (by exact hne),heap_setCell_other _ _ k _ (by exact hne),heap_setCell_other _ _ k _ (by exact hne),heap_setCell_other _ _ k _ (by exact hne),heap_setCell_other _ _ k _ (by exact hne)]
  exact hk
 have hz:W.heap.size<=(((((((W.setCell ⟨gw,0,none⟩ u2).setCell ⟨gw,1,none⟩ (.int .i64 e2)).setCell ⟨gw,2,none⟩ (.int .i64 z2)).setCell ⟨gw,3,none⟩ (.int .i64 b2)).setCell ⟨gw,4,none⟩ (.string r2)).setCell ⟨gw,5,none⟩ (.string s2)).setCell ⟨gw,6,none⟩ (.int .i64 y2)).heap.size:=by simp
 generalize (((((((W.setCell ⟨gw,0,none⟩ u2).setCell ⟨gw,1,none⟩ (.int .i64 e2)).setCell ⟨gw,2,none⟩ (.int .i64 z2)).setCell ⟨gw,3,none⟩ (.int .i64 b2)).setCell ⟨gw,4,none⟩ (.string r2)).setCell ⟨gw,5,none⟩ (.string s2)).setCell ⟨gw,6,none⟩ (.int .i64 y2))=W2 at hb hlow hk hz ⊢
 unfold wpB at hgw
 refine⟨⟨hlow,hg,hb,own_others h.orow hgw (by decide) hk,fun x hx=>own_others (h.has x hx) hgw (by decide) hk,h.ap,own_others h.srow hgw (by decide) hk,h.nl,own_others ho hgw (by decide) hk,hsl⟩,hz,fun k o hko hne=>hk k o hko fun e'=>?_⟩
 subst e'
 rw[hgw]at hko
 cases hko
 exact(hne _ _ rfl).1 rfl
def takeH (fit:Rec->Bool) (s:ByteArray) (y:Int) (l:List Oth) (x:Rec):HO:=if fullB fit s x=true then ⟨s,y,l,[]⟩ else ⟨s++recT x,(s++recT x).size,l,tellL l x.1⟩
theorem add_full {fit:Rec->Bool} {z b:Int} {r s:ByteArray} {y:Int} {x:Rec} (hk:keepB fit z b r s y=true) (h1:x.2.1.size<=8000) (h2:x.2.2.length<=400) (hf:fullB fit s x=true):∃ c:Int,(c=0->False)/\addV fit z b r s y x=koV 0 0 ⟨#[]⟩ ⟨#[]⟩ 0 c:=by
 unfold addV
 rw[if_neg (by omega),if_neg (by rw[hk];decide)]
 unfold fullB at hf
 by_cases h3:fit x=false
 ·rw[if_pos h3]
  exact⟨5,by decide,rfl⟩
 ·rw[if_neg h3]
  by_cases h4:hasR (allR fit s).1 x.1=true
  ·rw[if_pos h4]
   exact⟨7,by decide,rfl⟩
  ·rw[if_neg h4]
   by_cases h5:8000<(s++recT x).size
   ·rw[if_pos h5]
    exact⟨9,by decide,rfl⟩
   ·have h3':fit x=true:=by simpa using h3
    have h4':hasR (allR fit s).1 x.1=false:=by simpa using h4
    rw[h3',h4',decide_eq_false h5]at hf
    exact absurd hf (by decide)
theorem add_room {fit:Rec->Bool} {z b:Int} {r s:ByteArray} {y:Int} {x:Rec} (hk:keepB fit z b r s y=true) (h1:x.2.1.size<=8000) (h2:x.2.2.length<=400) (hf:fullB fit s x=false) (ha:FitA fit):addV fit z b r s y x=koV z b r (s++recT x) y 0/\keepB fit z b r (s++recT x) y=true/\(s++recT x).size<=8000:=by
 unfold fullB at hf
 simp only[Bool.or_eq_false_iff,Bool.not_eq_false',decide_eq_false_iff_not]at hf
 obtain⟨⟨h3,h4⟩,h5⟩:=hf
 refine⟨?_,?_,by omega⟩
 ·unfold addV
  rw[if_neg (by omega),if_neg (by rw[hk];decide),if_neg (by rw[h3];decide),if_neg (by rw[h4];decide),if_neg h5]
 ·unfold keepB atB mayB spanB at hk ⊢
  simp only[Bool.and_eq_true,decide_eq_true_eq]at hk ⊢
  obtain⟨⟨⟨k1,k2⟩,k3⟩,k4,k5⟩:=hk
  obtain⟨ra,ri⟩:=ha x h3
  have hall:=allR_add (fit:=fit) (s:=s) (x:=x) k3 ra ri h3 h4 (by omega)
  have hz:(s++recT x).size=s.size+(recT x).size:=ByteArray.size_append
  exact⟨⟨⟨k1,by omega⟩,by rw[hall]⟩,k4,by omega⟩
theorem take_any (fit:Rec->Bool) (w W:World) (gw:Nat) (u:Value) (e z b:Int) (r s:ByteArray) (y:Int) (go n co:Nat) (mo:List MO) (mr:List MR) (hw:WS w W gw u e z b r s y (.slice (some ⟨go,0,none⟩) n co) (.slice none 0 0) mo [] mr) (hn:n<=1048576) (k i:Int) (t:ByteArray) (p:List ByteArray) (ap:Option Addr) (cp:Nat) (hcp:p.length<=cp) (hp:Strs W W.heap.size ap p)
  (hk:keepB fit z b r s y=true) (hsz:s.size<=1048576) (h1:t.size<=8000) (h2:p.length<=400) (hh:HH W) (hf:FitC fit z b r W) (hff:FitF fit) (ha:FitA fit) :
  Calls Tryz.prog 159 #[.pointer (some ⟨gw,0,none⟩),sayV k i t (.slice ap p.length cp)] W fun q w'=>q=.returned (.tuple #[])/\HrEnd w W gw z b r (takeH fit s y (Pe.oths mo) (i,t,p)) w':=by
 have B1:=(Below.refl W.heap.size W).alloc (Nat.le_refl _) (sayO k i t (.slice ap p.length cp))
 have W1S:=hideK (hw.call B1)
 have K1:=hideK (KeepH.below B1)
 have XB:=hideK (heap_alloc_new W (sayO k i t (.slice ap p.length cp)))
 have HKA:=hideK (fun V (hV:Below W.heap.size W V)=>keepAdd_impl fit z b r s y ((i,t,p),.slice ap p.length cp) V hsz (by dsimp only;omega) (by dsimp only;omega) ⟨ap,cp,rfl,hcp,(hp.below hV).mono hV.size⟩ (hh_keep hh hV) (hf.later hV) hff)
 have HSY:=hideK (fun V (hV:Below W.heap.size W V) (hs8:(s++recT (i,t,p)).size<=8000)=>keepSync_impl fit z b r (s++recT (i,t,p)) y V (by omega) (hh_keep hh hV) (hf.later hV))
 have HOP:=hideK (fun V (hV:Below W.heap.size W V) (hs8:(s++recT (i,t,p)).size<=8000)=>openKeep_any fit z b r (s++recT (i,t,p)) (s++recT (i,t,p)).size V (by omega) (hh_keep hh hV) (hf.later hV))
 have HTK:Hid (takeH fit s y (Pe.oths mo) (i,t,p)=if fullB fit s (i,t,p)=true then ⟨s,y,Pe.oths mo,[]⟩ else ⟨s++recT (i,t,p),(s++recT (i,t,p)).size,Pe.oths mo,tellL (Pe.oths mo) i⟩):=rfl
 have HBW:=hideK B1
 have HAF:=hideK (fun hq:fullB fit s (i,t,p)=true=>add_full (x:=(i,t,p)) hk h1 h2 hq)
 have HAR:=hideK (fun hq:fullB fit s (i,t,p)=false=>add_room (x:=(i,t,p)) hk h1 h2 hq ha)
 dsimp only at HKA
 clear hw B1 hh hf hff ha hp
 unfold OpenOut at HOP
 unfold syncV at HSY
 unfold kV at HKA HSY HOP
 unfold koV at HAF HAR
 generalize addV fit z b r s y (i,t,p)=AV at HKA HAF HAR
 unfold sayV
 unfold sayO at XB W1S K1 HBW
 go_enter Tryz.func159,Tryz.ntmps159
 go_upto_region 1 with fail
 generalize W.alloc (.cells #[.int .i64 k,.int .i64 i,.string t,.slice ap p.length cp] 51)=W1 at W1S K1 XB HBW ⊢
 generalize W.heap.size=gm at XB ⊢
 obtain⟨x0,x1,x2,x3⟩:=cells4 XB.out
 obtain⟨az,ab,ar,as0,ay,ac,hav⟩:∃ (az ab:Int) (ar as0:ByteArray) (ay ac:Int),AV=.agg #[.int .i64 az,.int .i64 ab,.string ar,.string as0,.int .i64 ay,.int .i64 ac]:=by
  cases hq:fullB fit s (i,t,p) with
  |true=>obtain⟨c,_,h⟩:=HAF.out hq;exact⟨_,_,_,_,_,_,h⟩
  |false=>exact⟨_,_,_,_,_,_,(HAR.out hq).1⟩
 subst hav
 have HKA1:=hideK (fun V (hV:Below W1.heap.size W1 V)=>HKA.out V (lowL HBW.out hV))
 have GB:=hideK W1S.out.gwb
 unfold wpB at GB
 have CW:Hid (∀ V,Below W1.heap.size W1 V->V.cell? ⟨gm,1,none⟩=some (.int .i64 i)/\V.cell? ⟨gm,2,none⟩=some (.string t)/\V.cell? ⟨gm,3,none⟩=some (.slice ap p.length cp)/\V.cell? ⟨gw,2,none⟩=some (.int .i64 z)/\V.cell? ⟨gw,3,none⟩=some (.int .i64 b)/\V.cell? ⟨gw,4,none⟩=some (.string r)/\V.cell? ⟨gw,5,none⟩=some (.string s)/\V.cell? ⟨gw,6,none⟩=some (.int .i64 y)):=fun V h=>by
  obtain⟨_,q1,q2,q3⟩:=cells4 ((h.block gm (lt_rowK XB.out)).trans XB.out)
  obtain⟨_,_,r2,r3,r4,r5,r6,_,_⟩:=cellsP9 ((h.block gw (lt_rowK GB.out)).trans GB.out)
  exact⟨q1,q2,q3,r2,r3,r4,r5,r6⟩
 go_cut [4] from 5 to 16 (fun s4 wx=>∃ g4:Nat,s4=.pointer (some ⟨g4,0,none⟩)/\Below W1.heap.size W1 wx/\wx.heap[g4]? = some (.cells #[.int .i64 az,.int .i64 ab,.string ar,.string as0,.int .i64 ay,.int .i64 ac] 171 (0,0)))
 case first =>
  clear W1S K1 XB HBW HSY HOP HTK HAF HAR GB x0 x1 x2 x3 HKA
  have hS0:=CW.out _ (lm_drew (Below.refl W1.heap.size W1))
  go_region_held3 (fun V=>V.cell? ⟨gm,1,none⟩=some (.int .i64 i)/\V.cell? ⟨gm,2,none⟩=some (.string t)/\V.cell? ⟨gm,3,none⟩=some (.slice ap p.length cp)/\V.cell? ⟨gw,2,none⟩=some (.int .i64 z)/\V.cell? ⟨gw,3,none⟩=some (.int .i64 b)/\V.cell? ⟨gw,4,none⟩=some (.string r)/\V.cell? ⟨gw,5,none⟩=some (.string s)/\V.cell? ⟨gw,6,none⟩=some (.int .i64 y)) (first|(with_reducible assumption)|exact CW.out _ (by repeat (first|with_reducible exact KV.out|with_reducible exact Below.refl _ _|with_reducible refine lm_alloc ?_ _|with_reducible refine lm_drew ?_|with_reducible refine lm_set ?_ (Nat.le_refl _) _)))
   (first
    |(go_at_call 189;(with_reducible refine(HKA1.out ((W1.alloc (.cells #[.int .i64 0,.int .i64 0,.string ⟨#[]⟩,.string ⟨#[]⟩,.int .i64 0,.int .i64 0] 171)).drew) (lm_drew (lm_alloc (Below.refl _ _) _))).mono ?_);rintro q v1 ⟨rfl,hb⟩;have KV:=hideK (lowL (lm_drew (lm_alloc (Below.refl W1.heap.size W1) (.cells #[.int .i64 0,.int .i64 0,.string ⟨#[]⟩,.string ⟨#[]⟩,.int .i64 0,.int .i64 0] 171))) hb);have NZ:Hid (v1.heap[W1.heap.size]? = some (.cells #[.int .i64 0,.int .i64 0,.string ⟨#[]⟩,.string ⟨#[]⟩,.int .i64 0,.int .i64 0] 171 (0,0))):=(hb.block _ (by simp)).trans (heap_alloc_new W1 _);obtain⟨z0,z1,z2,z3,z4,z5⟩:=cells6 NZ.out;have zf:=fun o=>frozen_of_row v1 W1.heap.size o _ _ NZ.out;clear hb)
    |(go_at_call 189;(with_reducible refine(HKA1.out (W1.drew) (lm_drew (Below.refl _ _))).mono ?_);rintro q v1 ⟨rfl,hb⟩;have KV:=hideK (lowL (lm_drew (Below.refl W1.heap.size W1)) hb);clear hb))
  all_goals (try go_wp2_with fail)
  all_goals (first|(have hz:=ans6 NZ.out KV.out (Nat.le_refl _) (.int .i64 az) (.int .i64 ab) (.string ar) (.string as0) (.int .i64 ay) (.int .i64 ac);go_meet;exact⟨W1.heap.size,rfl,hz.1,hz.2⟩)|(go_meet;exact⟨v1.heap.size,rfl,lm_alloc KV.out _,heap_alloc_new v1 _⟩))
 case rest =>
  obtain⟨g4,rfl,hlo,hg4⟩:=hcut
  have WC:=hideK (W1S.out.call hlo)
  have KC:=hideK (K1.out.trans (KeepH.below hlo))
  have XC:=hideK ((hlo.block gm (lt_rowK XB.out)).trans XB.out)
  have G4:=hideK hg4
  have LC:=hideK (lowL HBW.out hlo)
  clear hlo hg4 W1S K1 XB x0 x1 x2 x3 HKA HKA1 CW GB HBW
  obtain⟨y0,y1,y2,y3,y4,y5⟩:=cells6 G4.out
  cases hq:fullB fit s (i,t,p) with
  |true =>
   obtain⟨c,hc0,hav⟩:=HAF.out hq
   simp only[Value.agg.injEq,Array.mk.injEq,List.cons.injEq,Value.int.injEq,Value.string.injEq,and_true,true_and]at hav
   obtain⟨_,_,_,_,_,hacc⟩:=hav
   have hne:(ac != 0)=true:=by simp;exact fun e'=>hc0 (by rw[<-hacc];exact e')
   have HE:Hid (HrEnd w W gw z b r (takeH fit s y (Pe.oths mo) (i,t,p)) wc):=by
    unfold Hid
    rw[HTK.out,if_pos hq]
    exact WC.out.hrEnd KC.out
   clear hc0 hacc HAF HAR hq WC KC XC G4 LC HTK HSY HOP
   go_wp2_with fail
   exact bodyPost_ret (results_none rfl _ _ _) rfl ⟨rfl,HE.out⟩
  |false =>
   obtain⟨hav,hkB,hs8⟩:=HAR.out hq
   rw[hq,if_neg (by decide)]at HTK
   simp only[Value.agg.injEq,Array.mk.injEq,List.cons.injEq,Value.int.injEq,Value.string.injEq,and_true,true_and]at hav
   obtain⟨rfl,rfl,rfl,rfl,rfl,rfl⟩:=hav
   rw[hkB]at HSY
   simp only[if_true]at HSY
   have HSY1:=hideK (fun V (hV:Below wc.heap.size wc V)=>HSY.out V (lowL LC.out hV) hs8)
   have HOP1:=hideK (fun V (hV:Below wc.heap.size wc V)=>HOP.out V (lowL LC.out hV) hs8)
   clear HSY HOP HAF HAR hkB
   generalize s++recT (i,t,p)=L at *
   generalize hLZ:((L.size:Nat):Int)=Lz at *
   clear hLZ
   go_wp2_with fail
   refine(HSY1.out _ (Below.refl _ _)).mono ?_
   rintro q5 w5 ⟨rfl,hb5⟩
   have W5:=hideK (WC.out.call hb5)
   have K5:=hideK (KC.out.trans (KeepH.below hb5))
   have X5:=hideK ((hb5.block gm (lt_rowK XC.out)).trans XC.out)
   have HOP2:=hideK (HOP1.out w5 hb5)
   clear hb5 HSY1 HOP1 WC KC XC G4 y0 y1 y2 y3 y4 y5
   go_wp2_with fail
   refine HOP2.out.mono ?_
   rintro q6 w6 ⟨⟨v6,m6,rfl,hr6,ho6,hp6⟩,hb6⟩
   obtain⟨a6,c6,hv6⟩:=ho6.one
   have W6:=hideK (W5.out.call hb6)
   have K6:=hideK (K5.out.trans (KeepH.below hb6))
   have X6:=hideK ((hb6.block gm (lt_rowK X5.out)).trans X5.out)
   obtain⟨pk1,pk2⟩:=W6.out.putK v6 ((allR fit L).2:Nat) az ab ar L Lz m6 (ho6.mono W5.out.low.size) hp6.slices
   have W7:=hideK pk1
   have K7:=hideK (K6.out.trans pk2)
   have X7:=hideK (pk2.say (k:=k) (i:=i) (t:=t) (v:=.slice ap p.length cp) X6.out)
   have GB6:=W6.out.gwb
   unfold wpB at GB6
   obtain⟨r0,r1,r2,r3,r4,r5,r6,_,_⟩:=cellsP9 GB6
   have ff:=fun o=>frozen_of_row w6 gw o _ _ GB6
   subst hv6
   have HSH:=hideK (sendHave_any w _ gw (.slice a6 m6.length c6) ((allR fit L).2:Nat) az ab ar L Lz (some ⟨go,0,none⟩) n co (.slice none 0 0) mo [] m6 i W7.out (by simp;omega))
   have HEND:Hid (∀ w8,(∃ vs' ms',WS w w8 gw (.slice a6 m6.length c6) ((allR fit L).2:Nat) az ab ar L Lz (.slice (some ⟨go,0,none⟩) n co) vs' mo ms' m6/\snts ms'=snts []++tellL (Pe.oths mo) i/\KeepY (((((((w6.setCell ⟨gw,0,none⟩ (.slice a6 m6.length c6)).setCell ⟨gw,1,none⟩ (.int .i64 ((allR fit L).2:Nat))).setCell ⟨gw,2,none⟩ (.int .i64 az)).setCell ⟨gw,3,none⟩ (.int .i64 ab)).setCell ⟨gw,4,none⟩ (.string ar)).setCell ⟨gw,5,none⟩ (.string L)).setCell ⟨gw,6,none⟩ (.int .i64 Lz)) w8)->HrEnd w W gw az ab ar (takeH fit s ay (Pe.oths mo) (i,t,p)) w8):=fun w8 ⟨vs',ms',h1,h2,h3⟩=>by
    rw[HTK.out]
    have h4:=h1.hrEnd (K7.out.trans (KeepY.keepH h3))
    rw[h2]at h4
    exact h4
   clear pk1 pk2 hr6 ho6 hp6 hb6 GB6 W5 K5 X5 W6 K6 X6 K7 W7 HOP2 HTK hq
   go_upto_region 4 with fail
   generalize (((((((w6.setCell ⟨gw,0,none⟩ (.slice a6 m6.length c6)).setCell ⟨gw,1,none⟩ (.int .i64 ((allR fit L).2:Nat))).setCell ⟨gw,2,none⟩ (.int .i64 az)).setCell ⟨gw,3,none⟩ (.int .i64 ab)).setCell ⟨gw,4,none⟩ (.string ar)).setCell ⟨gw,5,none⟩ (.string L)).setCell ⟨gw,6,none⟩ (.int .i64 Lz))=W7 at HSH HEND X7 ⊢
   clear r0 r1 r2 r3 r4 r5 r6 ff
   obtain⟨x0,x1,x2,x3⟩:=cells4 X7.out
   go_wp2_with fail
   refine HSH.out.mono ?_
   rintro q8 w8 ⟨rfl,h8⟩
   have HE8:=hideK (HEND.out w8 h8)
   clear h8 HSH HEND
   go_wp2_with fail
   refine bodyPost_end (v:=.tuple #[]) (by simp[results,Tryz.results159,go_sem]) rfl ⟨rfl,?_⟩
   exact HE8.out
end Go.Proofs.YtpddanmnlkcdpaaGreatDoor.Tk


/- The specification: what is put away, in a game. -/
namespace Go.Proofs.YtpddanmnlkcdpaaGreatDoor.Tk
open Go.RowKit
open Kp
open Pe
open Pl
open Hr
open Ap (Own0 KeepE)
open In (Ints OwnI)
open Ls (lowL blk_alloc lm_alloc)
theorem addS_full {fit:Rec->Bool} {z b:Int} {r s:ByteArray} {y:Int} {x:Rec} (hf:fullB fit s x=true):∃ c:Int,(c=0->False)/\addS fit z b r s y (allR fit s).1 x=koV 0 0 ⟨#[]⟩ ⟨#[]⟩ 0 c:=by
 unfold addS
 unfold fullB at hf
 by_cases h3:fit x=false
 ·rw[if_pos h3]
  exact⟨5,by decide,rfl⟩
 ·rw[if_neg h3]
  by_cases h4:hasR (allR fit s).1 x.1=true
  ·rw[if_pos h4]
   exact⟨7,by decide,rfl⟩
  ·rw[if_neg h4]
   by_cases h5:8000<(s++recT x).size
   ·rw[if_pos h5]
    exact⟨9,by decide,rfl⟩
   ·have h3':fit x=true:=by simpa using h3
    have h4':hasR (allR fit s).1 x.1=false:=by simpa using h4
    rw[h3',h4',decide_eq_false h5]at hf
    exact absurd hf (by decide)
theorem addS_room {fit:Rec->Bool} {z b:Int} {r s:ByteArray} {y:Int} {x:Rec} (hf:fullB fit s x=false):addS fit z b r s y (allR fit s).1 x=koV z b r (s++recT x) y 0/\(s++recT x).size<=8000:=by
 unfold fullB at hf
 simp only[Bool.or_eq_false_iff,Bool.not_eq_false',decide_eq_false_iff_not]at hf
 obtain⟨⟨h3,h4⟩,h5⟩:=hf
 refine⟨?_,by omega⟩
 unfold addS
 rw[if_neg (by rw[h3];decide),if_neg (by rw[h4];decide),if_neg h5]
theorem gm_setK {W:World} {gg:Nat} {z b:Int} {r s:ByteArray} {y:Int} {vo va:Value} (h:W.heap[gg]? = some (gmB z b r s y vo va)) (z2 b2:Int) (r2 s2:ByteArray) (y2:Int) :
  (((((W.setCell ⟨gg,0,none⟩ (.int .i64 z2)).setCell ⟨gg,1,none⟩ (.int .i64 b2)).setCell ⟨gg,2,none⟩ (.string r2)).setCell ⟨gg,3,none⟩ (.string s2)).setCell ⟨gg,4,none⟩ (.int .i64 y2)).heap[gg]? = some (gmB z2 b2 r2 s2 y2 vo va):=by
 unfold gmB at h ⊢
 have h0:(W.setCell ⟨gg,0,none⟩ (.int .i64 z2)).heap[gg]? = some (.cells #[.int .i64 z2,.int .i64 b,.string r,.string s,.int .i64 y,vo,va] 69 (0,0)):=by rw[heap_setCell_same _ gg 0 _ _ _ h];rfl
 have h1:((W.setCell ⟨gg,0,none⟩ (.int .i64 z2)).setCell ⟨gg,1,none⟩ (.int .i64 b2)).heap[gg]? = some (.cells #[.int .i64 z2,.int .i64 b2,.string r,.string s,.int .i64 y,vo,va] 69 (0,0)):=by rw[heap_setCell_same _ gg 1 _ _ _ h0];rfl
 have h2:(((W.setCell ⟨gg,0,none⟩ (.int .i64 z2)).setCell ⟨gg,1,none⟩ (.int .i64 b2)).setCell ⟨gg,2,none⟩ (.string r2)).heap[gg]? = some (.cells #[.int .i64 z2,.int .i64 b2,.string r2,.string s,.int .i64 y,vo,va] 69 (0,0)):=by rw[heap_setCell_same _ gg 2 _ _ _ h1];rfl
 have h3:((((W.setCell ⟨gg,0,none⟩ (.int .i64 z2)).setCell ⟨gg,1,none⟩ (.int .i64 b2)).setCell ⟨gg,2,none⟩ (.string r2)).setCell ⟨gg,3,none⟩ (.string s2)).heap[gg]? = some (.cells #[.int .i64 z2,.int .i64 b2,.string r2,.string s2,.int .i64 y,vo,va] 69 (0,0)):=by rw[heap_setCell_same _ gg 3 _ _ _ h2];rfl
 have h4:(((((W.setCell ⟨gg,0,none⟩ (.int .i64 z2)).setCell ⟨gg,1,none⟩ (.int .i64 b2)).setCell ⟨gg,2,none⟩ (.string r2)).setCell ⟨gg,3,none⟩ (.string s2)).setCell ⟨gg,4,none⟩ (.int .i64 y2)).heap[gg]? = some (.cells #[.int .i64 z2,.int .i64 b2,.string r2,.string s2,.int .i64 y2,vo,va] 69 (0,0)):=by rw[heap_setCell_same _ gg 4 _ _ _ h3];rfl
 exact h4
theorem game_putK {w W:World} {gg:Nat} {z b:Int} {r s:ByteArray} {y:Int} {ao:Option Addr} {no co:Nat} {va:Value} {mo:List MO} {mr:List MR} (h:Game w W gg z b r s y ao no co va mo mr) (z2 b2:Int) (r2 s2:ByteArray) (y2:Int) :
  Game w (((((W.setCell ⟨gg,0,none⟩ (.int .i64 z2)).setCell ⟨gg,1,none⟩ (.int .i64 b2)).setCell ⟨gg,2,none⟩ (.string r2)).setCell ⟨gg,3,none⟩ (.string s2)).setCell ⟨gg,4,none⟩ (.int .i64 y2)) gg z2 b2 r2 s2 y2 ao no co va mo mr:=by
 have hg:=h.blk
 have hb:=gm_setK h.blk z2 b2 r2 s2 y2
 have h0:=h.gg0
 have hlow:=((((h.low.setCell (p:=⟨gg,0,none⟩) h0 (.int .i64 z2)).setCell (p:=⟨gg,1,none⟩) h0 (.int .i64 b2)).setCell (p:=⟨gg,2,none⟩) h0 (.string r2)).setCell (p:=⟨gg,3,none⟩) h0 (.string s2)).setCell (p:=⟨gg,4,none⟩) h0 (.int .i64 y2)
 have hk:∀ k o,W.heap[k]? = some o->k≠gg->(((((W.setCell ⟨gg,0,none⟩ (.int .i64 z2)).setCell ⟨gg,1,none⟩ (.int .i64 b2)).setCell ⟨gg,2,none⟩ (.string r2)).setCell ⟨gg,3,none⟩ (.string s2)).setCell ⟨gg,4,none⟩ (.int .i64 y2)).heap[k]? = some o:=fun k o hk hne=>by
  rw[heap_setCell_other _ _ k _ (by exact hne),heap_setCell_other _ _ k _ (by exact hne),heap_setCell_other _ _ k _ (by exact hne),heap_setCell_other _ _ k _ (by exact hne),heap_setCell_other _ _ k _ (by exact hne)]
  exact hk
 generalize (((((W.setCell ⟨gg,0,none⟩ (.int .i64 z2)).setCell ⟨gg,1,none⟩ (.int .i64 b2)).setCell ⟨gg,2,none⟩ (.string r2)).setCell ⟨gg,3,none⟩ (.string s2)).setCell ⟨gg,4,none⟩ (.int .i64 y2))=W2 at hb hlow hk ⊢
 unfold gmB at hg
 exact⟨hlow,h0,hb,own_others h.orow hg (by decide) hk,fun x hx=>own_others (h.has x hx) hg (by decide) hk,h.ap,rowQ_others h.rrow hg (by decide) hk,h.ps.keeps (KeepsS.others hg (by decide) hk)⟩
theorem game_setG {w W:World} {gg g10:Nat} {z b:Int} {r s:ByteArray} {y:Int} {ao:Option Addr} {no co:Nat} {va:Value} {mo:List MO} {mr:List MR} {cs:Array Value} (h:Game w W gg z b r s y ao no co va mo mr) (hg:W.heap[g10]? = some (.cells cs 171 (0,0))) (hl:w.heap.size<=g10) (z2 b2:Int) (r2 s2:ByteArray) (y2:Int) :
  Game w ((((((W.setCell ⟨g10,4,none⟩ (.int .i64 y2)).setCell ⟨gg,0,none⟩ (.int .i64 z2)).setCell ⟨gg,1,none⟩ (.int .i64 b2)).setCell ⟨gg,2,none⟩ (.string r2)).setCell ⟨gg,3,none⟩ (.string s2)).setCell ⟨gg,4,none⟩ (.int .i64 y2)) gg z2 b2 r2 s2 y2 ao no co va mo mr :=
 game_putK (game_others h (h.low.setCell (p:=⟨g10,4,none⟩) hl _) hg (by decide) (by decide) (by decide) (by decide) (by decide) (fun k o hk hne=>(heap_setCell_other _ _ k _ (by exact hne)).trans hk)) z2 b2 r2 s2 y2
theorem setG_keep {W:World} {gg g10 k:Nat} {q:Obj} (hk:W.heap[k]? = some q) (h1:k≠g10) (h2:k≠gg) (z2 b2:Int) (r2 s2:ByteArray) (y2:Int):((((((W.setCell ⟨g10,4,none⟩ (.int .i64 y2)).setCell ⟨gg,0,none⟩ (.int .i64 z2)).setCell ⟨gg,1,none⟩ (.int .i64 b2)).setCell ⟨gg,2,none⟩ (.string r2)).setCell ⟨gg,3,none⟩ (.string s2)).setCell ⟨gg,4,none⟩ (.int .i64 y2)).heap[k]? = some q:=by
 rw[heap_setCell_other _ _ k _ (by exact h2),heap_setCell_other _ _ k _ (by exact h2),heap_setCell_other _ _ k _ (by exact h2),heap_setCell_other _ _ k _ (by exact h2),heap_setCell_other _ _ k _ (by exact h2),heap_setCell_other _ _ k _ (by exact h1)]
 exact hk
theorem gm_set6 {W:World} {g:Nat} {z b:Int} {r s:ByteArray} {y:Int} {vo va:Value} (h:W.heap[g]? = some (gmB z b r s y vo va)) (v:Value):(W.setCell ⟨g,6,none⟩ v).heap[g]? = some (gmB z b r s y vo v):=by
 unfold gmB at h ⊢
 rw[heap_setCell_same W g 6 _ _ v h]
 rfl
theorem game_putA {w W W8:World} {gg:Nat} {z b:Int} {r s:ByteArray} {y:Int} {ao:Option Addr} {no co:Nat} {va v8 xv:Value} {mo:List MO} {mr:List MR} {x:Rec} (h:Game w W gg z b r s y ao no co va mo mr) (hp:PathIn W xv x.2.2)
  (h2:W8.ownsRow w.heap.size 139 3 v8 (mr.length+1) (cellsR mr++[.int .i64 x.1,.string x.2.1,xv])) (h3:∀ B,B<=w.heap.size->Below B W W8) (h4:KeepE 139 W W8):Game w (W8.setCell ⟨gg,6,none⟩ v8) gg z b r s y ao no co v8 mo (mr++[(x,xv)]):=by
 have hks:KeepsS W W8:=fun g cur hg=>h4 g cur _ (by decide) hg
 have hb8:W8.heap[gg]? = some (gmB z b r s y (.slice ao no co) va):=h4 gg _ _ (by decide) h.blk
 have hlow:Below w.heap.size w W8:=h.low.trans (h3 _ (Nat.le_refl _))
 have hs6:=gm_set6 hb8 v8
 have h0:=h.gg0
 have hk:∀ k o,W8.heap[k]? = some o->k≠gg->(W8.setCell ⟨gg,6,none⟩ v8).heap[k]? = some o:=fun k o hk hne=>by
  rw[heap_setCell_other _ _ k _ (by exact hne)]
  exact hk
 have hp8:Paths W8 (mr++[(x,xv)]):=by
  intro q hq
  rcases List.mem_append.1 hq with hq|hq
  ·exact(h.ps q hq).keeps hks
  ·rw[List.mem_singleton.1 hq]
   exact hp.keeps hks
 have hr8:RowQ W8 w.heap.size v8 (mr++[(x,xv)]):=.inr (by
  rw[List.length_append,cellsR_append]
  exact h2)
 unfold gmB at hb8
 exact⟨hlow.setCell (p:=⟨gg,6,none⟩) h0 v8,h0,hs6,own_others (h.orow.keepE h4 (by decide)) hb8 (by decide) hk,fun x hx=>own_others (ownI_keep (h.has x hx) h4 (by decide)) hb8 (by decide) hk,h.ap,rowQ_others hr8 hb8 (by decide) hk,hp8.keeps (KeepsS.others hb8 (by decide) hk)⟩
theorem game_lets {w W W':World} {gg:Nat} {z b:Int} {r s:ByteArray} {y:Int} {ao:Option Addr} {no co:Nat} {va vs:Value} {mo:List MO} {mr:List MR} {ms:List ML} (h:Game w W gg z b r s y ao no co va mo mr) (hb:Below W.heap.size W W') (hl:Lets W' W.heap.size vs ms):GEnd w gg z b r ⟨s,y,Pe.oths mo,snts ms⟩ (.returned vs) W':=by
 obtain⟨as',cs,rfl,_,_⟩:=hl.row.one
 have h':=h.call hb
 exact⟨va,ao,no,co,as',ms.length,cs,mo,ms,rfl,h'.blk,rfl,rfl,h'.poIn (hl.row.mono h.low.size) hl.nl,h'.low,.inl hl.nl⟩
end Go.Proofs.YtpddanmnlkcdpaaGreatDoor.Tk

