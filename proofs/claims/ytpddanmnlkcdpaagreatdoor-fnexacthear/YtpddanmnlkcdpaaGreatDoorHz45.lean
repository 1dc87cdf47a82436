/- Texts put together: HrAsk. -/
import Derived.Test.YtpddanmnlkcdpaaGreatDoorHz44
import Derived.Deep.RegionLaw
set_option maxRecDepth 100000
set_option maxHeartbeats 8000000
namespace Go.Proofs.YtpddanmnlkcdpaaGreatDoor.Tk
open Go.RowKit
open Kp
open Pe
open Pl
open Hr
open In (Ints OwnI)
open Ls (lowL blk_alloc lm_alloc lm_drew cells3 set3_all set_j3)
def OwnPF (W:World) (base:Nat) (e:Ending) (p:PO):Prop:=∃ vo vs mo ms,e=.returned (poV p.z p.b p.r p.s p.y vo vs p.c)/\Pe.oths mo=p.os/\snts ms=p.ss/\PoIn W base vo vs mo ms/\FewL ms
theorem own_illF (W:World) (base:Nat) (c:Int):OwnPF W base (.returned (poV 0 0 ⟨#[]⟩ ⟨#[]⟩ 0 (.slice none 0 0) (.slice none 0 0) c)) (ill c):=⟨_,_,[],[],rfl,rfl,rfl,poIn_nil _ _,.inl fun _ hx=>absurd hx List.not_mem_nil⟩
def HrEnd (w W0:World) (gw:Nat) (z b:Int) (r:ByteArray) (h:HO) (W:World):Prop :=
 ∃ (u:Value) (e:Int) (ao:Option Addr) (no co:Nat) (as':Option Addr) (ns cs:Nat) (mo:List MO) (ms:List ML),W.heap[gw]? = some (wpB u e z b r h.s h.y (.slice ao no co) (.slice as' ns cs))/\Pe.oths mo=h.os/\snts ms=h.ss/\PoIn W w.heap.size (.slice ao no co) (.slice as' ns cs) mo ms/\Below w.heap.size w W/\KeepH W0 W/\FewL ms
theorem WS.hrEnd {w W W0:World} {gw:Nat} {u:Value} {e z b:Int} {r s:ByteArray} {y:Int} {vo vs:Value} {mo:List MO} {ms:List ML} {mr:List MR} (h:WS w W gw u e z b r s y vo vs mo ms mr) (hk:KeepH W0 W):HrEnd w W0 gw z b r ⟨s,y,Pe.oths mo,snts ms⟩ W:=by
 obtain⟨ao,co,h1,_,_⟩:=h.orow.one
 obtain⟨as',cs,h2,_,_⟩:=h.srow.one
 have hp:=h.poIn
 have hg:=h.gwb
 rw[h1,h2]at hp hg
 exact⟨u,e,ao,_,co,as',_,cs,mo,ms,hg,rfl,rfl,hp,h.low,hk,.inl h.nl⟩
theorem SetPost.hrEnd {w W w':World} {gw:Nat} {u:Value} {e z b:Int} {r s:ByteArray} {y:Int} {vo vs:Value} {mo:List MO} {ms:List ML} {mr:List MR} {j:Nat} {x:Oth} (h:SetPost w W gw u e z b r s y vo vs mo ms mr j x w'):HrEnd w W gw z b r ⟨s,y,(Pe.oths mo).set j x,snts ms⟩ w':=by
 obtain⟨mo',h1,h2,h3⟩:=h
 rw[<-h2]
 exact h1.hrEnd h3
theorem KeepX.keepsS {W W':World} (h:KeepX W W'):KeepsS W W':=fun g cur e=>h g cur _ e (by decide) (by decide)
theorem WS.sendP {w W W' W0:World} {gw:Nat} {u:Value} {e z b:Int} {r s:ByteArray} {y:Int} {vo:Value} {mo:List MO} {mr:List MR} {x:ML} (h:WS w W gw u e z b r s y vo (.slice none 0 0) mo [] mr) (hx:PathO w.heap.size W x.2 x.1.path) (hs:SendPost gw w.heap.size x u e z b r s y vo (.slice none 0 0) [] W W') (hk0:KeepH W0 W):HrEnd w W0 gw z b r ⟨s,y,Pe.oths mo,[x.1]⟩ W':=by
 have hk:=hs.keep h.gwb h.srow
 have hky:=KeepY.send hs h.gwb h.srow
 obtain⟨v',h1,h2,h3,h4⟩:=hs
 obtain⟨ao,co,e1,_,_⟩:=h.orow.one
 obtain⟨as',cs,e2,_,_⟩:=h2.one
 have ho:=own_keepX h.orow hk (by decide) (by decide)
 subst e1 e2
 refine⟨u,e,ao,_,co,as',_,cs,mo,[x],h1,rfl,rfl,⟨ho,fun q hq=>own_keepX (h.has q hq) hk (by decide) (by decide),h.ap,h2,fun q hq=>?_,List.pairwise_singleton ..⟩,h.low.trans (h4 _ (Nat.le_refl _) h.gw0),hk0.trans (KeepY.keepH hky),.inr rfl⟩
 rw[List.mem_singleton.1 hq]
 exact hx.keeps (KeepX.keepsS hk)
theorem lm_set {w W:World} {g i:Nat} (h:Below w.heap.size w W) (hg:w.heap.size<=g) (v:Value):Below w.heap.size w (W.setCell ⟨g,i,none⟩ v):=h.setCell (p:=⟨g,i,none⟩) hg v
def FoundR (mr:List MR) (i:Int) (th:Bool) (x:MR):Prop :=
 (th=true/\x∈mr/\findR (recs mr) i=some x.1/\x.1.1=i)∨(th=false/\x=((0,⟨#[]⟩,[]),.slice none 0 0)/\findR (recs mr) i=none)
theorem find_first {m:List MR} {i:Int} {j:Nat} (hj:j<m.length) (he:m[j].1.1=i) (hf:∀ k (hk:k<j),¬(m[k]'(Nat.lt_trans hk hj)).1.1=i):findR (recs m) i=some m[j].1:=by
 unfold findR recs
 rw[List.find?_eq_some_iff_getElem]
 refine⟨by simp[he],j,by rw[List.length_map];exact hj,by simp,fun k hk=>?_⟩
 have:=hf k hk
 simpa using this
theorem find_nothing {m:List MR} {i:Int} (h:∀ j (hj:j<m.length),¬m[j].1.1=i):findR (recs m) i=none:=by
 unfold findR recs
 rw[List.find?_eq_none]
 intro x hx
 obtain⟨y,hy,rfl⟩:=List.mem_map.1 hx
 obtain⟨j,hj,rfl⟩:=List.getElem_of_mem hy
 simpa using h j hj
def FindPost (mr:List MR) (i:Int) (W:World) (q:Ending) (w':World):Prop:=∃ (th:Bool) (xi:Int) (xt:ByteArray) (xp:List ByteArray) (a:Option Addr) (n c:Nat),q=.returned (.tuple #[.agg #[.int .i64 xi,.string xt,.slice a n c],.bool th])/\FoundR mr i th ((xi,xt,xp),.slice a n c)/\Below W.heap.size W w'
theorem findP_any (gw:Nat) (base:Nat) (i:Int) (v:Value) (m:List MR) (w:World) (hc:w.cell? ⟨gw,0,none⟩=some v) (hg:gw<w.heap.size) (ho:OwnR w base v m) (hsl:∀ x∈m,∃ a n cap,x.2=.slice a n cap) (hm:m.length<=1048576) :
  Calls Tryz.prog 129 #[.pointer (some ⟨gw,0,none⟩),.int .i64 i] w fun q w'=>FindPost m i w q w':=by
 refine(find_any gw base m.length i v m w hc hg ho hsl rfl hm).mono ?_
 rintro q w' ⟨⟨j,hj,he,hf,rfl⟩|⟨hno,rfl⟩,hb⟩
 ·obtain⟨a,n,c,hv⟩:=hsl m[j] (List.getElem_mem hj)
  refine⟨true,i,m[j].1.2.1,m[j].1.2.2,a,n,c,by rw[hv],.inl ⟨rfl,?_,?_,rfl⟩,hb⟩
  ·rw[<-hv,<-he]
   exact List.getElem_mem hj
  ·rw[find_first hj he hf,<-he]
 ·exact⟨false,0,⟨#[]⟩,[],none,0,0,rfl,.inr ⟨rfl,rfl,find_nothing hno⟩,hb⟩
theorem hearAsk_any (w W:World) (gw:Nat) (u:Value) (e z b:Int) (r s:ByteArray) (y:Int) (go n co j:Nat) (mo:List MO) (mr:List MR) (hw:WS w W gw u e z b r s y (.slice (some ⟨go,0,none⟩) n co) (.slice none 0 0) mo [] mr) (hps:PathsO w.heap.size W mr) (hj:j<mo.length) (hm:mr.length<=1048576) (k i:Int) (t:ByteArray) (ap:Option Addr) (np cp:Nat) :
  Calls Tryz.prog 122 #[.pointer (some ⟨gw,0,none⟩),.pointer (some ⟨go,j*5,none⟩),sayV k i t (.slice ap np cp)] W fun q w'=>q=.returned (.tuple #[])/\HrEnd w W gw z b r ⟨s,y,Pe.oths mo,[askL mo[j].1.name i (findR (recs mr) i)]⟩ w':=by
 have hmx:=mixedK
 have B1:=(Below.refl W.heap.size W).alloc (Nat.le_refl _) (sayO k i t (.slice ap np cp))
 have W1S:=hideK (hw.call B1)
 have K1:=hideK (KeepH.below B1)
 have P1:=hideK (hps.keeps (KeepsS.below B1))
 have XB:=hideK (heap_alloc_new W (sayO k i t (.slice ap np cp)))
 clear hw hps B1
 unfold sayV
 unfold sayO at XB W1S K1 P1
 go_enter Tryz.func122,Tryz.ntmps122
 go_upto_region 1 with fail
 generalize W.alloc (.cells #[.int .i64 k,.int .i64 i,.string t,.slice ap np cp] 51)=W1 at W1S K1 XB P1 ⊢
 generalize W.heap.size=gm at XB ⊢
 obtain⟨x0,x1,x2,x3⟩:=cells4 XB.out
 have HFD:Hid (∀ V,Below W1.heap.size W1 V->Calls Tryz.prog 129 #[.pointer (some ⟨gw,0,none⟩),.int .i64 i] V fun q w'=>FindPost mr i V q w'):=fun V hV =>
  findP_any gw w.heap.size i u mr V (cell_of_row V gw 0 _ _ _ (by have:=(W1S.out.call hV).gwb;unfold wpB at this;exact this)) (lt_rowK (W1S.out.call hV).gwb) (W1S.out.call hV).rrow W1S.out.rsl hm
 go_cut [6,7] from 8 to 17 (fun s6 s7 wx=>∃ (g6:Nat) (th:Bool) (xi:Int) (xt:ByteArray) (xp:List ByteArray) (a:Option Addr) (n c:Nat),s6=.pointer (some ⟨g6,0,none⟩)/\s7=.bool th/\FoundR mr i th ((xi,xt,xp),.slice a n c)/\Below W1.heap.size W1 wx/\wx.heap[g6]? = some (.cells #[.int .i64 xi,.string xt,.slice a n c] 129 (0,0)))
 case first =>
  have CW:Hid (∀ V,Below W1.heap.size W1 V->V.cell? ⟨gm,1,none⟩=some (.int .i64 i)):=fun V h=>(h.cell (p:=⟨gm,1,none⟩) (lt_rowK XB.out)).trans x1
  clear W1S K1 XB P1 x0 x1 x2 x3
  have hS0:=CW.out _ (lm_drew (Below.refl W1.heap.size W1))
  go_region_held3 (fun V=>V.cell? ⟨gm,1,none⟩=some (.int .i64 i)) (first|(with_reducible assumption)|exact CW.out _ (by repeat (first|with_reducible exact KV.out|with_reducible exact Below.refl _ _|with_reducible refine lm_alloc ?_ _|with_reducible refine lm_drew ?_|with_reducible refine lm_set ?_ (Nat.le_refl _) _)))
   (first
    |(go_at_call 129;(with_reducible refine(HFD.out ((W1.alloc (.cells #[.int .i64 0,.string ⟨#[]⟩,.slice none 0 0] 129)).drew) (lm_drew (lm_alloc (Below.refl _ _) _))).mono ?_);rintro q v1 ⟨th,xi,xt,xp,a5,n5,c5,rfl,hfr,hb⟩;have FR:=hideK hfr;have KV:=hideK (lowL (lm_drew (lm_alloc (Below.refl W1.heap.size W1) (.cells #[.int .i64 0,.string ⟨#[]⟩,.slice none 0 0] 129))) hb);have NZ:Hid (v1.heap[W1.heap.size]? = some (.cells #[.int .i64 0,.string ⟨#[]⟩,.slice none 0 0] 129 (0,0))):=(hb.block _ (by simp)).trans (heap_alloc_new W1 _);obtain⟨z0,z1,z2⟩:=cells3 NZ.out;have zf:=fun o=>frozen_of_row v1 W1.heap.size o _ _ NZ.out;clear hfr hb)
    |(go_at_call 129;(with_reducible refine(HFD.out (W1.drew) (lm_drew (Below.refl _ _))).mono ?_);rintro q v1 ⟨th,xi,xt,xp,a5,n5,c5,rfl,hfr,hb⟩;have FR:=hideK hfr;have KV:=hideK (lowL (lm_drew (Below.refl W1.heap.size W1)) hb);clear hfr hb))
  all_goals (try go_wp2_with fail)
  all_goals (first|(go_meet;exact⟨W1.heap.size,th,xi,xt,xp,a5,n5,c5,rfl,rfl,FR.out,set3_low KV.out (Nat.le_refl _) _ _ _,(set_j3 (set_j3 (set_j3 NZ.out _).1 _).2.1 _).2.2⟩)|(go_meet;exact⟨v1.heap.size,th,xi,xt,xp,a5,n5,c5,rfl,rfl,FR.out,lm_alloc KV.out _,heap_alloc_new v1 _⟩))
 case rest =>
  obtain⟨g6,th,xi,xt,xp,a5,n5,c5,rfl,rfl,hfr,hlo,hg6⟩:=hcut
  have WC:=hideK (W1S.out.call hlo)
  have KC:=hideK (K1.out.trans (KeepH.below hlo))
  have PC:=hideK (P1.out.keeps (KeepsS.below hlo))
  have XC:=hideK ((hlo.block gm (lt_rowK XB.out)).trans XB.out)
  have FR:=hideK hfr
  have G6:=hideK hg6
  clear hfr hlo hg6 W1S K1 P1 XB x0 x1 x2 x3 HFD
  obtain⟨x0,x1,x2,x3⟩:=cells4 XC.out
  obtain⟨y0,y1,y2⟩:=cells3 G6.out
  obtain⟨⟨d0,_,_,_,_⟩,_,_⟩:=WC.out.five hj
  have HSD:=hideK (fun (x:ML) (hx:∃ a n cap,x.2=.slice a n cap)=>send_any gw w.heap.size 0 x u e z b r s y (.slice (some ⟨go,0,none⟩) n co) (.slice none 0 0) [] wc.drew (WC.out.call ((Below.refl _ wc).drew)).gwb (WC.out.call ((Below.refl _ wc).drew)).srow (WC.out.call ((Below.refl _ wc).drew)).low.size rfl (by omega) hx)
  have HEND:=hideK (fun (x:ML) (hx:PathO w.heap.size wc x.2 x.1.path) w5 (hs:SendPost gw w.heap.size x u e z b r s y (.slice (some ⟨go,0,none⟩) n co) (.slice none 0 0) [] wc.drew w5)=>WS.sendP (WC.out.call ((Below.refl _ wc).drew)) hx.drew hs (KC.out.trans (KeepH.below ((Below.refl _ wc).drew))))
  rcases FR.out with⟨rfl,hmem,hfd,he⟩|⟨rfl,hz,hfd⟩
  ·have HP:=hideK (PC.out _ hmem)
   dsimp only at he
   subst he
   have HS1:=hideK (HSD.out (⟨mo[j].1.name,3,xi,xt,xp⟩,.slice a5 n5 c5) ⟨_,_,_,rfl⟩)
   have HE1:=hideK (HEND.out (⟨mo[j].1.name,3,xi,xt,xp⟩,.slice a5 n5 c5) HP.out)
   have HL:Hid (askL mo[j].1.name xi (findR (recs mr) xi)=⟨mo[j].1.name,3,xi,xt,xp⟩):=by unfold Hid;rw[hfd];rfl
   clear FR hmem hfd HSD HEND HP WC KC PC XC G6
   dsimp only at HS1
   go_upto_region 4 with fail
   go_region_law (go_simp;go_at_call 38;(with_reducible refine HS1.out.mono ?_);rintro q w5 ⟨rfl,hsp⟩;have HE2:=hideK (HE1.out w5 hsp);clear hsp)
   all_goals (try go_wp2_with fail)
   all_goals (
    refine bodyPost_end (v:=.tuple #[]) (by simp[results,Tryz.results122,go_sem]) rfl ⟨rfl,?_⟩
    rw[HL.out]
    exact HE2.out)
  ·have HS1:=hideK (HSD.out (⟨mo[j].1.name,4,i,⟨#[]⟩,[]⟩,.slice none 0 0) ⟨_,_,_,rfl⟩)
   have HE1:=hideK (HEND.out (⟨mo[j].1.name,4,i,⟨#[]⟩,[]⟩,.slice none 0 0) (St.OwnS.nil _ _))
   have HL:Hid (askL mo[j].1.name i (findR (recs mr) i)=⟨mo[j].1.name,4,i,⟨#[]⟩,[]⟩):=by unfold Hid;rw[hfd];rfl
   clear FR hz hfd HSD HEND WC KC PC XC G6
   dsimp only at HS1
   go_upto_region 3 with fail
   go_region_law (go_simp;go_at_call 38;(with_reducible refine HS1.out.mono ?_);rintro q w5 ⟨rfl,hsp⟩;have HE2:=hideK (HE1.out w5 hsp);clear hsp)
   all_goals (try go_wp2_with fail)
   all_goals (
    refine bodyPost_ret (v:=.tuple #[]) (by simp[results,Tryz.results122,go_sem]) rfl ⟨rfl,?_⟩
    rw[HL.out]
    exact HE2.out)
end Go.Proofs.YtpddanmnlkcdpaaGreatDoor.Tk

