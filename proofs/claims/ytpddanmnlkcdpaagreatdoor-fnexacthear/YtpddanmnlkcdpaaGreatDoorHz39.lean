/- Texts put together: KpOpen, KpMay, PeOths, KpTop, KpCut, KpPiece, PmCmp, NumBack, KaMath. -/
import Derived.Test.YtpddanmnlkcdpaaGreatDoorHz27
import Derived.Test.YtpddanmnlkcdpaaGreatDoorHz31
import Derived.Lib.QuietBelow
import Derived.BigQuiet
import Derived.Deep.RegionHeld3
import Derived.Test.YtpddanmnlkcdpaaGreatDoorHz22
import Derived.Shelf.Small.Strs
import Derived.Ground.NamesProg
import Derived.Shelf.SlGeneric
import Derived.Test.YtpddanmnlkcdpaaGreatDoorHz0
import Derived.Test.YtpddanmnlkcdpaaGreatDoorHz25
import Derived.Test.YtpddanmnlkcdpaaGreatDoorHz18
set_option maxRecDepth 100000
set_option maxHeartbeats 8000000
namespace Go.Proofs.YtpddanmnlkcdpaaGreatDoor.Kp
open Go.RowKit
open Ls (HH hh_keep cells3 lV)
open St (Strs)
theorem set7 {W:World} {g:Nat} {x0 x1 x2 x3 x4 x5 x6:Value} {T:TypeId} (h:W.heap[g]? = some (.cells #[x0,x1,x2,x3,x4,x5,x6] T (0,0))) (a0 a1 a2 a3 a4 a5 a6:Value) :
  (((((((W.setCell ⟨g,0,none⟩ a0).setCell ⟨g,1,none⟩ a1).setCell ⟨g,2,none⟩ a2).setCell ⟨g,3,none⟩ a3).setCell ⟨g,4,none⟩ a4).setCell ⟨g,5,none⟩ a5).setCell ⟨g,6,none⟩ a6).heap[g]? = some (.cells #[a0,a1,a2,a3,a4,a5,a6] T (0,0)):=by
 have h0:(W.setCell ⟨g,0,none⟩ a0).heap[g]? = some (.cells #[a0,x1,x2,x3,x4,x5,x6] T (0,0)):=by rw[heap_setCell_same W g 0 _ T a0 h];rfl
 have h1:=heap_setCell_same _ g 1 _ T a1 h0
 have h2:=heap_setCell_same _ g 2 _ T a2 h1
 have h3:=heap_setCell_same _ g 3 _ T a3 h2
 have h4:=heap_setCell_same _ g 4 _ T a4 h3
 have h5:=heap_setCell_same _ g 5 _ T a5 h4
 have h6:=heap_setCell_same _ g 6 _ T a6 h5
 exact h6
theorem set7_keep {W:World} {g k:Nat} {o:Obj} (h:W.heap[k]? = some o) (hk:k≠g) (a0 a1 a2 a3 a4 a5 a6:Value) :
  (((((((W.setCell ⟨g,0,none⟩ a0).setCell ⟨g,1,none⟩ a1).setCell ⟨g,2,none⟩ a2).setCell ⟨g,3,none⟩ a3).setCell ⟨g,4,none⟩ a4).setCell ⟨g,5,none⟩ a5).setCell ⟨g,6,none⟩ a6).heap[k]? = some o:=by
 rw[heap_setCell_other _ _ k _ (by exact hk),heap_setCell_other _ _ k _ (by exact hk),heap_setCell_other _ _ k _ (by exact hk),heap_setCell_other _ _ k _ (by exact hk),heap_setCell_other _ _ k _ (by exact hk),heap_setCell_other _ _ k _ (by exact hk),heap_setCell_other _ _ k _ (by exact hk)]
 exact h
theorem set7_low {w0 W:World} {g:Nat} (h:Below w0.heap.size w0 W) (hg:w0.heap.size<=g) (a0 a1 a2 a3 a4 a5 a6:Value) :
  Below w0.heap.size w0 (((((((W.setCell ⟨g,0,none⟩ a0).setCell ⟨g,1,none⟩ a1).setCell ⟨g,2,none⟩ a2).setCell ⟨g,3,none⟩ a3).setCell ⟨g,4,none⟩ a4).setCell ⟨g,5,none⟩ a5).setCell ⟨g,6,none⟩ a6) :=
 ((((((h.setCell (p:=⟨g,0,none⟩) hg a0).setCell (p:=⟨g,1,none⟩) hg a1).setCell (p:=⟨g,2,none⟩) hg a2).setCell (p:=⟨g,3,none⟩) hg a3).setCell (p:=⟨g,4,none⟩) hg a4).setCell (p:=⟨g,5,none⟩) hg a5).setCell (p:=⟨g,6,none⟩) hg a6
theorem cells7 {W:World} {g:Nat} {x0 x1 x2 x3 x4 x5 x6:Value} {T:TypeId} (h:W.heap[g]? = some (.cells #[x0,x1,x2,x3,x4,x5,x6] T (0,0))):W.cell? ⟨g,0,none⟩=some x0/\W.cell? ⟨g,1,none⟩=some x1/\W.cell? ⟨g,2,none⟩=some x2/\W.cell? ⟨g,3,none⟩=some x3/\W.cell? ⟨g,4,none⟩=some x4/\W.cell? ⟨g,5,none⟩=some x5/\W.cell? ⟨g,6,none⟩=some x6 :=
 ⟨cell_of_row W g 0 _ _ _ h,cell_of_row W g 1 _ _ _ h,cell_of_row W g 2 _ _ _ h,cell_of_row W g 3 _ _ _ h,cell_of_row W g 4 _ _ _ h,cell_of_row W g 5 _ _ _ h,cell_of_row W g 6 _ _ _ h⟩
theorem OwnR.others {W W':World} {base g:Nat} {v:Value} {m:List MR} {cs:Array Value} {T:TypeId} (h:OwnR W base v m) (hg:W.heap[g]? = some (.cells cs T (0,0))) (hT:T≠129) (hk:∀ k o,W.heap[k]? = some o->k≠g->W'.heap[k]? = some o):OwnR W' base v m:=by
 obtain⟨hl,h⟩:=h
 refine⟨hl,?_⟩
 rcases h with h|⟨k,cap,cur,hv,hkb,hb,rest⟩
 ·exact .inl h
 ·exact .inr ⟨k,cap,cur,hv,hkb,hk k _ hb (ty_ne hb hg (fun e=>hT e.symm)),rest⟩
theorem KeepsS.others {W W':World} {g:Nat} {cs:Array Value} {T:TypeId} (hg:W.heap[g]? = some (.cells cs T (0,0))) (hT:T≠9) (hk:∀ k o,W.heap[k]? = some o->k≠g->W'.heap[k]? = some o):KeepsS W W' :=
 fun k _ e=>hk k _ e (ty_ne e hg (fun e=>hT e.symm))
def PathsO (B:Nat) (W:World) (m:List MR):Prop:=∀ x∈m,PathO B W x.2 x.1.2.2
theorem PathsO.keeps {B:Nat} {W W':World} {m:List MR} (h:PathsO B W m) (k:KeepsS W W'):PathsO B W' m:=fun x hx=>(h x hx).keeps k
theorem PathsO.mono {B C:Nat} {W:World} {m:List MR} (h:PathsO B W m) (hB:C<=B):PathsO C W m:=fun x hx=>(h x hx).mono hB
theorem PathsO.slices {B:Nat} {W:World} {m:List MR} (h:PathsO B W m):∀ x∈m,∃ a n cap,x.2=.slice a n cap:=fun x hx=>by
 obtain⟨a,cap,hv,_⟩:=(h x hx).strs
 exact⟨a,_,cap,hv⟩
def OpenOut (fit:Rec->Bool) (z b:Int) (r s:ByteArray) (y:Int) (base:Nat) (e:Ending) (w':World):Prop :=
 ∃ v m,e=.returned (.agg #[v,.int .i64 (allR fit s).2,.int .i64 z,.int .i64 b,.string r,.string s,.int .i64 y])/\recs m=(allR fit s).1/\OwnR w' base v m/\PathsO base w' m
structure Far (fit:Rec->Bool) (z b:Int) (r s:ByteArray) (y:Int) (gk gr gw:Nat) (w wr:World) (v:Value) (m:List MR) (e:Nat):Prop where
 cx:Cx w wr [(gw,wkB v e z b r s y),(gr,.cells #[.slice none 0 0,.int .i64 0,.int .i64 0,.int .i64 0,.string ⟨#[]⟩,.string ⟨#[]⟩,.int .i64 0] 76),(gk,kB z b r s y)]
 all:goR fit s (s.size-e) (recs m) e=allR fit s
 row:OwnR wr w.heap.size v m
 ps:PathsO w.heap.size wr m
 ml:m.length<=e
 el:e<=s.size
theorem Far.call {fit:Rec->Bool} {z b:Int} {r s:ByteArray} {y:Int} {gk gr gw:Nat} {w wr w':World} {v:Value} {m:List MR} {e:Nat} (h:Far fit z b r s y gk gr gw w wr v m e) (hb:Below wr.heap.size wr w'):Far fit z b r s y gk gr gw w w' v m e :=
 ⟨h.cx.call hb,h.all,h.row.below hb,h.ps.keeps (KeepsS.below hb),h.ml,h.el⟩
theorem Far.new {fit:Rec->Bool} {z b:Int} {r s:ByteArray} {y:Int} {gk gr gw:Nat} {w wr:World} {v:Value} {m:List MR} {e:Nat} (h:Far fit z b r s y gk gr gw w wr v m e) (o:Obj):Far fit z b r s y gk gr gw w (wr.alloc o) v m e:=h.call ((Below.refl _ _).alloc (Nat.le_refl _) o)
theorem Far.put {fit:Rec->Bool} {z b:Int} {r s:ByteArray} {y:Int} {gk gr gw:Nat} {w wr w':World} {v v':Value} {m:List MR} {e:Nat} {x:Rec × Nat} {xv:Value} (h:Far fit z b r s y gk gr gw w wr v m e) (hx:recR s e=some x) (hf:fit x.1=true) (hh:hasR (recs m) x.1.1=false)
  (hgk:w.heap.size<=gw) (hne1:gr≠gw) (hne2:gk≠gw) (hp:PathO w.heap.size wr xv x.1.2.2)
  (h1:w'.heap[gw]? = some (wkB v' x.2 z b r s y)) (h2:OwnR w' w.heap.size v' (m++[(x.1,xv)])) (h3:KeepsS wr w') (h4:∀ k o,wr.heap[k]? = some o->k≠gw->v.ownBlock≠some k->w'.heap[k]? = some o) (h5:∀ B,B<=w.heap.size->B<=gw->Below B wr w'):Far fit z b r s y gk gr gw w w' v' (m++[(x.1,xv)]) x.2:=by
 have hfx:=recR_facts hx
 refine⟨⟨h.cx.low.trans (h5 _ (Nat.le_refl _) hgk),?_⟩,?_,h2,?_,?_,hfx.2.1⟩
 ·intro q hq
  rcases List.mem_cons.1 hq with rfl|hq
  ·exact h1
  ·rcases List.mem_cons.1 hq with rfl|hq
   ·exact h4 _ _ (h.cx.get 1 rfl) hne1 (own_not h.row (h.cx.get 1 rfl) (by decide))
   ·rw[List.mem_singleton.1 hq]
    exact h4 _ _ (h.cx.get 2 rfl) hne2 (own_not h.row (h.cx.get 2 rfl) (by decide))
 ·rw[<-h.all,goR_step hx hf hh]
  unfold recs
  rw[List.map_append]
  rfl
 ·intro q hq
  rcases List.mem_append.1 hq with hq|hq
  ·exact(h.ps q hq).keeps h3
  ·rw[List.mem_singleton.1 hq]
   exact hp.keeps h3
 ·rw[List.length_append]
  have:=h.ml
  simp
  omega
theorem Far.done {fit:Rec->Bool} {z b:Int} {r s:ByteArray} {y:Int} {gk gr gw:Nat} {w wr:World} {v:Value} {m:List MR} {e:Nat} (h:Far fit z b r s y gk gr gw w wr v m e) (hd:goR fit s (s.size-e) (recs m) e=(recs m,e)) (hg:w.heap.size<=gr) (a0 a1 a2 a3 a4 a5 a6:Value) (h0:a0=v) (h1:a1=.int .i64 e) (h2:a2=.int .i64 z) (h3:a3=.int .i64 b) (h4:a4=.string r) (h5:a5=.string s) (h6:a6=.int .i64 y) :
  OpenOut fit z b r s y w.heap.size (.returned (.agg #[a0,a1,a2,a3,a4,a5,a6])) (((((((wr.setCell ⟨gr,0,none⟩ a0).setCell ⟨gr,1,none⟩ a1).setCell ⟨gr,2,none⟩ a2).setCell ⟨gr,3,none⟩ a3).setCell ⟨gr,4,none⟩ a4).setCell ⟨gr,5,none⟩ a5).setCell ⟨gr,6,none⟩ a6) /\
  Below w.heap.size w (((((((wr.setCell ⟨gr,0,none⟩ a0).setCell ⟨gr,1,none⟩ a1).setCell ⟨gr,2,none⟩ a2).setCell ⟨gr,3,none⟩ a3).setCell ⟨gr,4,none⟩ a4).setCell ⟨gr,5,none⟩ a5).setCell ⟨gr,6,none⟩ a6):=by
 subst h0 h1 h2 h3 h4 h5 h6
 have hall:allR fit s=(recs m,e):=by rw[<-h.all,hd]
 have hk:∀ k o,wr.heap[k]? = some o->k≠gr->_:=fun k o hk hne=>set7_keep (g:=gr) hk hne a0 (.int .i64 e) (.int .i64 z) (.int .i64 b) (.string r) (.string s) (.int .i64 y)
 refine⟨⟨a0,m,by rw[hall],by rw[hall],h.row.others (h.cx.get 1 rfl) (by decide) hk,h.ps.keeps (KeepsS.others (h.cx.get 1 rfl) (by decide) hk)⟩,set7_low h.cx.low hg _ _ _ _ _ _ _⟩
def endAt (W:World) (g:Nat):Nat:=match W.cell? ⟨g,1,none⟩ with
 |some (.int _ n)=>n.toNat
 |_=>0
theorem endAt_eq {W:World} {g:Nat} {v:Value} {e:Nat} {z b:Int} {r s:ByteArray} {y:Int} (h:W.heap[g]? = some (wkB v e z b r s y)):endAt W g=e:=by
 unfold endAt
 rw[(wk_cells h).2.1]
 rfl
theorem openKeep_any (fit:Rec->Bool) (z b:Int) (r s:ByteArray) (y:Int) (w:World) (hs:s.size<=1048576) (hh:HH w)
  (hf:∀ (W:World) (x:MR),Below w.heap.size w W->x.1.2.1.size<=8000->x.1.2.2.length<=400->(∃ a cap,x.2=.slice a x.1.2.2.length cap/\x.1.2.2.length<=cap/\Strs W W.heap.size a x.1.2.2)->Calls Tryz.prog 107 #[.agg #[.int .i64 x.1.1,.string x.1.2.1,x.2],lV z b r] W fun e w'=>e=.returned (.bool (fit x.1))/\Below W.heap.size W w') :
  Calls Tryz.prog 65 #[kV z b r s y] w fun e w'=>OpenOut fit z b r s y w.heap.size e w'/\Below w.heap.size w w':=by
 have HHW:Hid (∀ W,Below w.heap.size w W->HH W):=fun W h=>hh_keep hh h
 have HF:=hideK hf
 have C0:=hideK ((((Cx.nil w).new (kB z b r s y)).new (.cells #[.slice none 0 0,.int .i64 0,.int .i64 0,.int .i64 0,.string ⟨#[]⟩,.string ⟨#[]⟩,.int .i64 0] 76)).new (wkB (.slice none 0 0) 0 z b r s y))
 simp only[World.size_alloc]at C0
 unfold kB wkB at C0
 unfold kV
 clear hh hf
 go_enter Tryz.func65,Tryz.ntmps65
 go_wp2_with fail
 generalize ((w.alloc (.cells #[.int .i64 z,.int .i64 b,.string r,.string s,.int .i64 y] 32)).alloc (.cells #[.slice none 0 0,.int .i64 0,.int .i64 0,.int .i64 0,.string ⟨#[]⟩,.string ⟨#[]⟩,.int .i64 0] 76)).alloc (.cells #[.slice none 0 0,.int .i64 0,.int .i64 z,.int .i64 b,.string r,.string s,.int .i64 y] 76)=W0 at C0 ⊢
 obtain⟨gk,hgk⟩:∃ gk,gk=w.heap.size:=⟨_,rfl⟩
 have F0:Hid (Far fit z b r s y gk (gk+1) (gk+1+1) w W0 (.slice none 0 0) [] 0):=⟨by rw[hgk];exact C0.out,rfl,OwnR.nil _ _,fun x hx=>absurd hx List.not_mem_nil,Nat.zero_le _,Nat.zero_le _⟩
 have HGK:=hideK hgk
 rw[<-hgk]
 clear C0 hgk
 go_loopw [4,5,6] (fun _ _ _ wr=>∃ v m e,Far fit z b r s y gk (gk+1) (gk+1+1) w wr v m e) (fun _ _ _ wr=>s.size-(endAt wr (gk+1+1)))
 case atStart=>exact⟨_,_,_,F0.out⟩
 case round =>
  obtain⟨v,m,e,hfar⟩:=hrel
  have F:=hideK hfar
  clear hfar F0
  obtain⟨a0,cap0,hv⟩:=F.out.row.one
  subst hv
  obtain⟨k0,k1,k2,k3,k4,k5,k6⟩:=wk_cells (F.out.cx.get 0 rfl)
  obtain⟨r0,r1,r2,r3,r4,r5,r6⟩:=cells7 (F.out.cx.get 1 rfl)
  obtain⟨l0,l1,l2,l3,l4⟩:=k_cells (F.out.cx.get 2 rfl)
  have fr:=fun o=>frozen_of_row wr (gk+1) o _ _ (F.out.cx.get 1 rfl)
  have HEA:Hid (endAt wr (gk+1+1)=e):=endAt_eq (F.out.cx.get 0 rfl)
  by_cases hlt:e<s.size
  ·have hlt':(e:Int)<(s.size:Int):=by omega
   have HRR:=hideK (readRecord_any s e wr hs (HHW.out _ F.out.cx.low))
   go_wp2_with fail
   refine HRR.out.mono ?_
   rintro e' w1 ⟨hro,hb⟩
   have F1:=hideK (F.out.call hb)
   clear hb HRR k0 k1 k2 k3 k4 k5 k6 r0 r1 r2 r3 r4 r5 r6 l0 l1 l2 l3 l4 fr
   rcases hro with⟨x,xv,hx,rfl,hp⟩|⟨hx,n,rfl⟩
   ·obtain⟨ap,cp,rfl,_,_⟩:=hp.strs
    have hfx:=recR_facts hx
    have HX:=hideK hx
    have F2:=hideK (F1.out.new (.cells #[.int .i64 x.1.1,.string x.1.2.1,.slice ap x.1.2.2.length cp] 129))
    have P2:=hideK ((hp.mono F.out.cx.low.size).keeps (KeepsS.below ((Below.refl _ w1).alloc (Nat.le_refl _) (.cells #[.int .i64 x.1.1,.string x.1.2.1,.slice ap x.1.2.2.length cp] 129))))
    have X2:Hid ((w1.alloc (.cells #[.int .i64 x.1.1,.string x.1.2.1,.slice ap x.1.2.2.length cp] 129)).heap[w1.heap.size]? = some (.cells #[.int .i64 x.1.1,.string x.1.2.1,.slice ap x.1.2.2.length cp] 129 (0,0))):=heap_alloc_new w1 _
    clear hp hx F1 F
    obtain⟨⟨xi,xt,xp⟩,xe⟩:=x
    dsimp only at F2 P2 X2 HX hfx ⊢
    go_upto_region 4 with fail
    generalize w1.alloc (.cells #[.int .i64 xi,.string xt,.slice ap xp.length cp] 129)=W2 at F2 P2 X2 ⊢
    generalize w1.heap.size=gx at X2 ⊢
    obtain⟨x0,x1,x2⟩:=cells3 X2.out
    obtain⟨l0,l1,l2,l3,l4⟩:=k_cells (F2.out.cx.get 2 rfl)
    have HFX:=hideK (HF.out W2 ((xi,xt,xp),.slice ap xp.length cp) F2.out.cx.low hfx.2.2.2.2 (Nat.le_trans hfx.2.2.2.1 (by decide)) P2.out.strs)
    unfold lV at HFX
    dsimp only at HFX
    cases hfit:fit (xi,xt,xp) with
    |false =>
     rw[hfit]at HFX
     have HBD:Hid (goR fit s (s.size-e) (recs m) e=(recs m,e)):=goR_bad HX.out (fun h=>by have:=h.1;rw[hfit]at this;cases this)
     clear hfit
     go_wp2_with fail
     refine HFX.out.mono ?_
     rintro e3 w3 ⟨rfl,hb⟩
     have F3:=hideK (F2.out.call hb)
     clear hb F2 HFX x0 x1 x2 l0 l1 l2 l3 l4
     obtain⟨k0,k1,k2,k3,k4,k5,k6⟩:=wk_cells (F3.out.cx.get 0 rfl)
     obtain⟨r0,r1,r2,r3,r4,r5,r6⟩:=cells7 (F3.out.cx.get 1 rfl)
     have fr:=fun o=>frozen_of_row w3 (gk+1) o _ _ (F3.out.cx.get 1 rfl)
     have s7:=cells7 (set7 (F3.out.cx.get 1 rfl) (.slice a0 m.length cap0) (.int .i64 e) (.int .i64 z) (.int .i64 b) (.string r) (.string s) (.int .i64 y))
     have HD:=hideK (F3.out.done (HBD.out) (by have:=HGK.out;omega) _ _ _ _ _ _ _ rfl rfl rfl rfl rfl rfl rfl)
     go_wp2_with fail
     exact bodyPost_ret (v:=.agg #[.slice a0 m.length cap0,.int .i64 e,.int .i64 z,.int .i64 b,.string r,.string s,.int .i64 y]) (by simp[results,Tryz.results65,go_sem,s7.1,s7.2.1,s7.2.2.1,s7.2.2.2.1,s7.2.2.2.2.1,s7.2.2.2.2.2.1,s7.2.2.2.2.2.2]) rfl HD.out
    |true =>
     rw[hfit]at HFX
     go_wp2_with fail
     refine HFX.out.mono ?_
     rintro e3 w3 ⟨rfl,hb⟩
     have F3:=hideK (F2.out.call hb)
     have P3:=hideK (P2.out.keeps (KeepsS.below hb))
     have X3:=hideK (Ls.blkL X2.out hb)
     clear hb F2 HFX x0 x1 x2 l0 l1 l2 l3 l4 P2 X2
     obtain⟨x0,x1,x2⟩:=cells3 X3.out
     have HHS:=hideK (has_any (gk+1+1) w.heap.size m.length xi _ m w3 (wk_cells (F3.out.cx.get 0 rfl)).1 (lt_rowK (F3.out.cx.get 0 rfl)) F3.out.row F3.out.ps.slices rfl (by have:=F3.out.ml;have:=F3.out.el;omega))
     cases hhas:hasR (recs m) xi with
     |true =>
      rw[hhas]at HHS
      have HBD:Hid (goR fit s (s.size-e) (recs m) e=(recs m,e)):=goR_bad HX.out (fun h=>by have:=h.2;rw[hhas]at this;cases this)
      clear hhas hfit
      go_wp2_with fail
      refine HHS.out.mono ?_
      rintro e4 w4 ⟨rfl,hb⟩
      have F4:=hideK (F3.out.call hb)
      clear hb F3 HHS x0 x1 x2
      obtain⟨k0,k1,k2,k3,k4,k5,k6⟩:=wk_cells (F4.out.cx.get 0 rfl)
      obtain⟨r0,r1,r2,r3,r4,r5,r6⟩:=cells7 (F4.out.cx.get 1 rfl)
      have fr:=fun o=>frozen_of_row w4 (gk+1) o _ _ (F4.out.cx.get 1 rfl)
      have s7:=cells7 (set7 (F4.out.cx.get 1 rfl) (.slice a0 m.length cap0) (.int .i64 e) (.int .i64 z) (.int .i64 b) (.string r) (.string s) (.int .i64 y))
      have HD:=hideK (F4.out.done (HBD.out) (by have:=HGK.out;omega) _ _ _ _ _ _ _ rfl rfl rfl rfl rfl rfl rfl)
      go_wp2_with fail
      exact bodyPost_ret (v:=.agg #[.slice a0 m.length cap0,.int .i64 e,.int .i64 z,.int .i64 b,.string r,.string s,.int .i64 y]) (by simp[results,Tryz.results65,go_sem,s7.1,s7.2.1,s7.2.2.1,s7.2.2.2.1,s7.2.2.2.2.1,s7.2.2.2.2.2.1,s7.2.2.2.2.2.2]) rfl HD.out
     |false =>
      rw[hhas]at HHS
      have FP:=hideK (fun (wa wb:World) (va:Value) (F:Far fit z b r s y gk (gk+1) (gk+1+1) w wa (.slice a0 m.length cap0) m e)=>F.put (w':=wb) (v':=va) (x:=((xi,xt,xp),xe)) (xv:=.slice ap xp.length cp) HX.out hfit hhas (by have:=HGK.out;omega) (by omega) (by omega))
      clear hhas hfit
      go_wp2_with fail
      refine HHS.out.mono ?_
      rintro e4 w4 ⟨rfl,hb⟩
      have F4:=hideK (F3.out.call hb)
      have P4:=hideK (P3.out.keeps (KeepsS.below hb))
      have X4:=hideK (Ls.blkL X3.out hb)
      clear hb F3 HHS x0 x1 x2 P3 X3
      obtain⟨x0,x1,x2⟩:=cells3 X4.out
      have HPU:=hideK (put_any (gk+1+1) w.heap.size m.length ((xi,xt,xp),.slice ap xp.length cp) xe e z b r s y _ m w4 (F4.out.cx.get 0 rfl) F4.out.row F4.out.cx.low.size rfl (by have:=F4.out.ml;have:=F4.out.el;omega) ⟨_,_,_,rfl⟩)
      dsimp only at HPU
      go_wp2_with fail
      refine HPU.out.mono ?_
      rintro e5 w5 ⟨rfl,v',h1,h2,h3,h4,h5⟩
      have F5:=hideK (FP.out w4 w5 v' F4.out P4.out h1 h2 h3 h4 h5)
      clear h1 h2 h3 h4 h5 HPU F4 P4 X4 FP x0 x1 x2
      have HE5:Hid (endAt w5 (gk+1+1)=xe):=endAt_eq (F5.out.cx.get 0 rfl)
      go_wp2_with fail
      go_roundw
      case rel=>exact⟨_,_,_,F5.out⟩
      case measure=>rw[HE5.out,HEA.out];omega
   ·have HBD:Hid (goR fit s (s.size-e) (recs m) e=(recs m,e)):=goR_none hx
    have F2:=hideK (F1.out.new (.cells #[.int .i64 0,.string ⟨#[]⟩,.slice none 0 0] 129))
    clear hx F1 F
    go_upto_region 4 with fail
    generalize w1.alloc (.cells #[.int .i64 0,.string ⟨#[]⟩,.slice none 0 0] 129)=W2 at F2 ⊢
    obtain⟨k0,k1,k2,k3,k4,k5,k6⟩:=wk_cells (F2.out.cx.get 0 rfl)
    obtain⟨r0,r1,r2,r3,r4,r5,r6⟩:=cells7 (F2.out.cx.get 1 rfl)
    have fr:=fun o=>frozen_of_row W2 (gk+1) o _ _ (F2.out.cx.get 1 rfl)
    have s7:=cells7 (set7 (F2.out.cx.get 1 rfl) (.slice a0 m.length cap0) (.int .i64 e) (.int .i64 z) (.int .i64 b) (.string r) (.string s) (.int .i64 y))
    have HD:=hideK (F2.out.done (HBD.out) (by have:=HGK.out;omega) _ _ _ _ _ _ _ rfl rfl rfl rfl rfl rfl rfl)
    go_wp2_with fail
    exact bodyPost_ret (v:=.agg #[.slice a0 m.length cap0,.int .i64 e,.int .i64 z,.int .i64 b,.string r,.string s,.int .i64 y]) (by simp[results,Tryz.results65,go_sem,s7.1,s7.2.1,s7.2.2.1,s7.2.2.2.1,s7.2.2.2.2.1,s7.2.2.2.2.2.1,s7.2.2.2.2.2.2]) rfl HD.out
  ·have hlt':decide ((e:Int)<(s.size:Int))=false:=by simp;omega
   have HBD:Hid (goR fit s (s.size-e) (recs m) e=(recs m,e)):=goR_end (by omega)
   have hlt2:¬((e:Int)<(s.size:Int)):=by omega
   obtain⟨k0,k1,k2,k3,k4,k5,k6⟩:=wk_cells (F.out.cx.get 0 rfl)
   obtain⟨r0,r1,r2,r3,r4,r5,r6⟩:=cells7 (F.out.cx.get 1 rfl)
   have fr:=fun o=>frozen_of_row wr (gk+1) o _ _ (F.out.cx.get 1 rfl)
   have s7:=cells7 (set7 (F.out.cx.get 1 rfl) (.slice a0 m.length cap0) (.int .i64 e) (.int .i64 z) (.int .i64 b) (.string r) (.string s) (.int .i64 y))
   have HD:=hideK (F.out.done (HBD.out) (by have:=HGK.out;omega) _ _ _ _ _ _ _ rfl rfl rfl rfl rfl rfl rfl)
   go_wp2_with fail
   exact bodyPost_ret (v:=.agg #[.slice a0 m.length cap0,.int .i64 e,.int .i64 z,.int .i64 b,.string r,.string s,.int .i64 y]) (by simp[results,Tryz.results65,go_sem,s7.1,s7.2.1,s7.2.2.1,s7.2.2.2.1,s7.2.2.2.2.1,s7.2.2.2.2.2.1,s7.2.2.2.2.2.2]) rfl HD.out
end Go.Proofs.YtpddanmnlkcdpaaGreatDoor.Kp


namespace Go.Proofs.YtpddanmnlkcdpaaGreatDoor.Kp
open Go.RowKit
open Ls (rightB right_impl lV lowL blkL)
def mayB (z b:Int) (r s:ByteArray):Bool:=rightB z b r && decide (s.size<=8000)
def atB (z b:Int) (r s:ByteArray) (y:Int) (e:Nat):Bool:=mayB z b r s && decide (e=s.size) && spanB s y
def keepB (fit:Rec->Bool) (z b:Int) (r s:ByteArray) (y:Int):Bool:=atB z b r s y (allR fit s).2
theorem mayOpen_any (z b:Int) (r s:ByteArray) (y:Int) (w:World) :
  Calls Tryz.prog 109 #[kV z b r s y] w fun e w'=>e=.returned (.bool (mayB z b r s))/\Below w.heap.size w w':=by
 have HR:=hideK (fun W=>right_impl z b r W)
 have C0:=hideK ((Cx.nil w).new (kB z b r s y))
 unfold kV
 unfold kB at C0
 unfold lV at HR
 cases hr:rightB z b r with
 |false =>
  have HM:Hid (mayB z b r s=false):=by unfold Hid mayB;rw[hr];rfl
  rw[HM.out]
  rw[hr]at HR
  clear hr HM
  go_enter Tryz.func109,Tryz.ntmps109
  go_wp2_with fail
  refine(HR.out _).mono ?_
  rintro e w1 ⟨rfl,hb⟩
  have C1:=hideK (C0.out.call hb)
  obtain⟨l0,l1,l2,l3,l4⟩:=k_cells (C1.out.get 0 rfl)
  clear hb C0
  go_wp2_with fail
  go_ret
  exact⟨rfl,C1.out.low⟩
 |true =>
  have HM:Hid (mayB z b r s=decide (((s.size:Nat):Int)<=8000)):=by unfold Hid mayB;rw[hr,Bool.true_and,decide_eq_decide];omega
  rw[HM.out]
  rw[hr]at HR
  clear hr HM
  go_enter Tryz.func109,Tryz.ntmps109
  go_wp2_with fail
  refine(HR.out _).mono ?_
  rintro e w1 ⟨rfl,hb⟩
  have C1:=hideK (C0.out.call hb)
  obtain⟨l0,l1,l2,l3,l4⟩:=k_cells (C1.out.get 0 rfl)
  clear hb C0
  go_wp2_with fail
  go_ret
  exact⟨rfl,C1.out.low⟩
theorem mixedK:Tryz.prog.follows .mixedOrders=true:=by kernel_rfl
theorem right_run (g:Nat) (v:Value) (e:Nat) (z b:Int) (r s:ByteArray) (y:Int) (w:World) (A B Q:Bool) (hg:w.heap[g]? = some (wkB v e z b r s y)) (hA:mayB z b r s=A) (hB:((e:Int)==(s.size:Int))=B) (hQ:(A && B && spanB s y)=Q) :
  Calls Tryz.prog 66 #[.pointer (some ⟨g,0,none⟩)] w fun q w'=>q=.returned (.bool Q)/\Below w.heap.size w w':=by
 have HM:=hideK (fun W=>mayOpen_any z b r s y W)
 have HS:=hideK (fun W=>synced_any z b r s y W)
 obtain⟨c0,c1,c2,c3,c4,c5,c6⟩:=wk_cells hg
 unfold kV at HM HS
 rw[hA]at HM
 clear hA hg
 have g1:=fun d os=>cell_regrown c1 d os
 have g2:=fun d os=>cell_regrown c2 d os
 have g3:=fun d os=>cell_regrown c3 d os
 have g4:=fun d os=>cell_regrown c4 d os
 have g5:=fun d os=>cell_regrown c5 d os
 have g6:=fun d os=>cell_regrown c6 d os
 have hmx:=mixedK
 cases A with
 |false =>
  have HQ:Hid (Q=false):=by unfold Hid;rw[<-hQ];rfl
  clear hQ hB
  go_enter Tryz.func66,Tryz.ntmps66
  go_upto_region 1 with fail
  refine wp_region_quiet_below (by assumption) (by kernel_rfl) ?_
  repeat (go_big_quiet_step ((go_at_call 109;exact Calls.regrown_of (HM.out _))))
  refine wpQuiet_nil ?_
  intro _ hw'
  obtain⟨⟨dq,osq⟩,hw''⟩:=hw'
  subst hw''
  have K1:=hideK (below_regrown w dq osq)
  generalize Go.Sort.grow (redrawn w dq) osq=w8 at K1 ⊢
  clear g1 g2 g3 g4 g5 g6 c1 c2 c3 c4 c5 c6
  go_wp2_with fail
  go_ret
  exact⟨by rw[HQ.out];rfl,K1.out⟩
 |true =>
  cases B with
  |false =>
   have HQ:Hid (Q=false):=by unfold Hid;rw[<-hQ];rfl
   have hB2:¬(e:Int)=(s.size:Int):=by simpa using hB
   clear hQ
   go_enter Tryz.func66,Tryz.ntmps66
   go_upto_region 1 with fail
   refine wp_region_quiet_below (by assumption) (by kernel_rfl) ?_
   repeat (go_big_quiet_step ((go_at_call 109;exact Calls.regrown_of (HM.out _))))
   refine wpQuiet_nil ?_
   intro _ hw'
   obtain⟨⟨dq,osq⟩,hw''⟩:=hw'
   subst hw''
   have K1:=hideK (below_regrown w dq osq)
   generalize Go.Sort.grow (redrawn w dq) osq=w8 at K1 ⊢
   clear g1 g2 g3 g4 g5 g6 c1 c2 c3 c4 c5 c6
   go_wp2_with fail
   go_ret
   exact⟨by rw[HQ.out];rfl,K1.out⟩
  |true =>
   have HQ:Hid (Q=spanB s y):=by unfold Hid;rw[<-hQ];rfl
   clear hQ
   generalize spanB s y=S at HS HQ
   go_enter Tryz.func66,Tryz.ntmps66
   go_upto_region 1 with fail
   refine wp_region_quiet_below (by assumption) (by kernel_rfl) ?_
   repeat (go_big_quiet_step ((first|(go_at_call 109;exact Calls.regrown_of (HM.out _))|(go_at_call 110;exact Calls.regrown_of (HS.out _)))))
   refine wpQuiet_nil ?_
   intro _ hw'
   obtain⟨⟨dq,osq⟩,hw''⟩:=hw'
   subst hw''
   have K1:=hideK (below_regrown w dq osq)
   generalize Go.Sort.grow (redrawn w dq) osq=w8 at K1 ⊢
   clear g1 g2 g3 g4 g5 g6 c1 c2 c3 c4 c5 c6
   go_wp2_with fail
   go_ret
   exact⟨by rw[HQ.out];rfl,K1.out⟩
theorem right_any (g:Nat) (v:Value) (e:Nat) (z b:Int) (r s:ByteArray) (y:Int) (w:World) (hg:w.heap[g]? = some (wkB v e z b r s y)) :
  Calls Tryz.prog 66 #[.pointer (some ⟨g,0,none⟩)] w fun q w'=>q=.returned (.bool (atB z b r s y e))/\Below w.heap.size w w' :=
 right_run g v e z b r s y w _ _ _ hg rfl rfl (by
  unfold atB
  congr 2
  by_cases h:e=s.size
  ·rw[decide_eq_true h,h];simp
  ·rw[decide_eq_false h];simp;omega)
end Go.Proofs.YtpddanmnlkcdpaaGreatDoor.Kp


namespace Go.Proofs.YtpddanmnlkcdpaaGreatDoor.Pe
open Go.RowKit
open Kp
open Ls (lowL)
def Small (m:List MO):Prop:=∀ x∈m,x.1.has.length<=1048576/\x.1.name.size<=maxLen
theorem others_impl (a:Option Addr) (n cap:Nat) (m:List MO) (c:Int) (w:World) (h:Oths w w.heap.size a m) (hm:m.length=n) (hn:n<=1048576) (hsm:Small m) :
  Calls Tryz.prog 67 #[.slice a n cap,.int .i64 c] w fun e w'=>e=.returned (.bool (othsB (oths m) c))/\Below w.heap.size w w':=by
 have HS:=hideK h
 have HM:=hideK hm
 have HSM:=hideK hsm
 have HLONG:Hid (4<n->othsB (oths m) c=false):=fun h=>othsB_long (by rw[oths_length,HM.out];exact h)
 have HYE:Hid (n<=4->OthsTo (oths m) c n->othsB (oths m) c=true):=fun h1 h2=>othsB_yes (by rw[oths_length,HM.out];exact h1) (by rw[oths_length,HM.out];exact h2)
 have HNO1:Hid (∀ j (hj:j<m.length),othB m[j].1 c=false->othsB (oths m) c=false):=fun j hj h=>othsB_no (fun hh=>by
  have:=(hh j (by rw[oths_length];exact hj) (by rw[oths_length];exact hj)).1
  rw[oths_get m j hj,h]at this
  cases this)
 have HNO2:Hid (∀ j (hj:j+1<m.length),ltN (m[j]'(Nat.lt_of_succ_lt hj)).1.name m[j+1].1.name=false->othsB (oths m) c=false):=fun j hj h=>othsB_no (fun hh=>by
  have:=(hh (j+1) (by rw[oths_length];exact hj) (by rw[oths_length];exact hj)).2 j (by rw[oths_length];omega) rfl
  rw[oths_get m j (by omega),oths_get m (j+1) hj,h]at this
  cases this)
 have hmx:=mixedK
 clear h hm hsm
 generalize othsB (oths m) c=R at HLONG HYE HNO1 HNO2 ⊢
 by_cases h4:4<n
 ·have h4':(4:Int)<(n:Int):=by omega
  have HE:=hideK (HLONG.out h4)
  go_enter Tryz.func67,Tryz.ntmps67
  go_wp2_with fail
  go_ret
  exact⟨ret_boolP HE.out.symm,Below.refl _ _⟩
 ·have h4':¬(4:Int)<(n:Int):=by omega
  go_enter Tryz.func67,Tryz.ntmps67
  go_wp2_with fail
  go_loopw [12] (fun jv wr=>∃ j:Nat,jv=.int .i64 j/\j<=n/\OthsTo (oths m) c j/\Below w.heap.size w wr) (fun jv _=>n-(intOf jv).toNat)
  case atStart=>exact⟨0,rfl,Nat.zero_le _,oths_zero _ _,Below.refl _ _⟩
  case round =>
   obtain⟨j,rfl,hj,hr,hbel⟩:=hrel
   have HR:=hideK hr
   have GB:=hideK hbel
   clear hr hbel
   by_cases hlt:j<n
   ·have hlt':(j:Int)<(n:Int):=by omega
    have hjl:j<m.length:=by rw[HM.out];exact hlt
    obtain⟨b,off,rfl,hb,hc⟩:=HS.out.some (by omega)
    have F1:=hideK ((hc j hjl).below GB.out hb)
    have HA:=hideK (HS.out.2 m[j] (List.getElem_mem hjl))
    have HSX:=hideK (HSM.out m[j] (List.getElem_mem hjl))
    have HB1:=hideK (HNO1.out j hjl)
    have HST:Hid (othB m[j].1 c=true->(∀ i (hi:i<m.length),i+1=j->ltN m[i].1.name m[j].1.name=true)->OthsTo (oths m) c (j+1)):=fun h1 h2=>oths_step (by rw[oths_length];exact hjl) HR.out (by rw[oths_get m j hjl];exact h1) (fun i hi hij=>by rw[oths_length]at hi;rw[oths_get m i hi,oths_get m j hjl];exact h2 i hi hij)
    have HPR:Hid (∀ j' (_:j=j' + 1),∃ nm':ByteArray,wr.cell? ⟨b,off+j' * 5,none⟩=some (.string nm')/\(ltN nm' m[j].1.name=false->R=false)/\(ltN nm' m[j].1.name=true->∀ i (hi:i<m.length),i+1=j->ltN m[i].1.name m[j].1.name=true)):=fun j' e=>by
     subst e
     refine⟨(m[j']'(by omega)).1.name,((hc j' (by omega)).below GB.out hb).1,fun h=>HNO2.out j' hjl h,fun h i hi hij=>?_⟩
     obtain rfl:i=j':=by omega
     exact h
    have HHA:=hideK (fun W (hW:Below w.heap.size w W)=>other_any m[j] c W ((HA.out.below hW).mono hW.size) HSX.out.1 HSX.out.2)
    obtain⟨ax,cx,hxv,_,_,_⟩:=HA.out
    unfold othV at HHA
    obtain⟨d0,d1,d2,d3,d4⟩:=F1.out
    rw[hxv]at d1 HHA
    generalize othB m[j].1 c=Q at HB1 HST HHA
    generalize m[j].1.name=nm at d0 HPR HHA HST
    generalize m[j].1.has.length=k at d1 HHA
    generalize m[j].1.asked=q at d2 HHA
    generalize m[j].1.age=g at d3 HHA
    generalize m[j].1.strikes=t at d4 HHA
    clear hc hxv HA HSX F1
    have C1:=hideK (Cx.new (l:=[]) ⟨GB.out,fun _ h=>absurd h List.not_mem_nil⟩ (.cells #[.string nm,.slice ax k cx,.int .i64 q,.int .i64 g,.int .i64 t] 86))
    have hbz:b<wr.heap.size:=Nat.lt_of_lt_of_le hb GB.out.size
    have BA:Hid (Below wr.heap.size wr (wr.alloc (.cells #[.string nm,.slice ax k cx,.int .i64 q,.int .i64 g,.int .i64 t] 86))):=(Below.refl _ _).alloc (Nat.le_refl _) _
    go_upto_region 6 with fail
    generalize wr.alloc (.cells #[.string nm,.slice ax k cx,.int .i64 q,.int .i64 g,.int .i64 t] 86)=W1 at C1 BA ⊢
    have HPR2:Hid (∀ j' (_:j=j' + 1),∃ nm':ByteArray,W1.cell? ⟨b,off+j' * 5,none⟩=some (.string nm')/\(ltN nm' nm=false->R=false)/\(ltN nm' nm=true->∀ i (hi:i<m.length),i+1=j->ltN m[i].1.name nm=true)):=fun j' e=>by
     obtain⟨nm',h1,h2⟩:=HPR.out j' e
     exact⟨nm',(BA.out.cell (p:=⟨b,off+j' * 5,none⟩) hbz).trans h1,h2⟩
    generalize wr.heap.size=g1 at C1 ⊢
    obtain⟨q0,q1,q2,q3,q4⟩:=cells5 (C1.out.get 0 rfl)
    have r0:=fun d os=>cell_regrown q0 d os
    have r1:=fun d os=>cell_regrown q1 d os
    have r2:=fun d os=>cell_regrown q2 d os
    have r3:=fun d os=>cell_regrown q3 d os
    have r4:=fun d os=>cell_regrown q4 d os
    clear d0 d1 d2 d3 d4 HPR BA hbz
    cases Q with
    |false =>
     have HE:=hideK (HB1.out rfl)
     refine wp_region_quiet_below (by assumption) (by kernel_rfl) ?_
     repeat (go_big_quiet_step ((go_at_call 111;exact Calls.regrown_of (HHA.out _ (lowL C1.out.low (below_regrown _ _ _))))))
     refine wpQuiet_nil ?_
     intro _ hw'
     obtain⟨⟨dq,osq⟩,hw''⟩:=hw'
     subst hw''
     have K1:=hideK (lowL C1.out.low (below_regrown W1 dq osq))
     generalize Go.Sort.grow (redrawn W1 dq) osq=w8 at K1 ⊢
     clear r0 r1 r2 r3 r4 q0 q1 q2 q3 q4
     go_wp2_with fail
     go_ret
     exact⟨ret_boolP HE.out.symm,K1.out⟩
    |true =>
     rcases Nat.eq_zero_or_pos j with h0|h0
     ·subst h0
      have HNX:=hideK (HST.out rfl (fun i hi e=>by omega))
      have hd:decide ((0:Int)<((0:Nat):Int))=false:=by simp
      refine wp_region_quiet_below (by assumption) (by kernel_rfl) ?_
      repeat (go_big_quiet_step ((go_at_call 111;exact Calls.regrown_of (HHA.out _ (lowL C1.out.low (below_regrown _ _ _))))))
      refine wpQuiet_nil ?_
      intro _ hw'
      obtain⟨⟨dq,osq⟩,hw''⟩:=hw'
      subst hw''
      have K1:=hideK (lowL C1.out.low (below_regrown W1 dq osq))
      generalize Go.Sort.grow (redrawn W1 dq) osq=w8 at K1 ⊢
      clear r0 r1 r2 r3 r4 q0 q1 q2 q3 q4
      go_wp2_with fail
      go_roundw
      case rel=>exact⟨1,by go_num,by omega,HNX.out,K1.out⟩
      case measure=>simp[intOf];omega
     ·obtain⟨j',rfl⟩:∃ j',j=j' + 1:=⟨j-1,by omega⟩
      obtain⟨nm',hcn,hbad,hgood⟩:=HPR2.out j' rfl
      have r5:=fun d os=>cell_regrown hcn d os
      have hd:decide ((0:Int)<((j' + 1:Nat):Int))=true:=decide_eq_true (by omega)
      have hj3:(j':Int)<(n:Int):=by omega
      unfold ltN at hbad hgood
      cases hL:Op.bytesLess nm'.toList nm.toList with
      |false =>
       have HE:=hideK (hbad hL)
       clear hbad hgood HB1
       refine wp_region_quiet_below (by assumption) (by kernel_rfl) ?_
       repeat (go_big_quiet_step ((go_at_call 111;exact Calls.regrown_of (HHA.out _ (lowL C1.out.low (below_regrown _ _ _))))))
       refine wpQuiet_nil ?_
       intro _ hw'
       obtain⟨⟨dq,osq⟩,hw''⟩:=hw'
       subst hw''
       have K1:=hideK (lowL C1.out.low (below_regrown W1 dq osq))
       generalize Go.Sort.grow (redrawn W1 dq) osq=w8 at K1 ⊢
       clear r0 r1 r2 r3 r4 q0 q1 q2 q3 q4 r5 hcn
       go_wp2_with fail
       go_ret
       exact⟨ret_boolP HE.out.symm,K1.out⟩
      |true =>
       have HNX:=hideK (HST.out rfl (hgood hL))
       clear hbad hgood HB1
       refine wp_region_quiet_below (by assumption) (by kernel_rfl) ?_
       repeat (go_big_quiet_step ((go_at_call 111;exact Calls.regrown_of (HHA.out _ (lowL C1.out.low (below_regrown _ _ _))))))
       refine wpQuiet_nil ?_
       intro _ hw'
       obtain⟨⟨dq,osq⟩,hw''⟩:=hw'
       subst hw''
       have K1:=hideK (lowL C1.out.low (below_regrown W1 dq osq))
       generalize Go.Sort.grow (redrawn W1 dq) osq=w8 at K1 ⊢
       clear r0 r1 r2 r3 r4 q0 q1 q2 q3 q4 r5 hcn
       go_wp2_with fail
       go_roundw
       case rel=>exact⟨j' + 1+1,by go_num,by omega,HNX.out,K1.out⟩
       case measure=>simp[intOf];omega
   ·have HE:=hideK (HYE.out (by omega) (by have:=HR.out;rwa[show j=n by omega]at this))
    go_wp2_with fail
    go_ret
    exact⟨ret_boolP HE.out.symm,GB.out⟩
end Go.Proofs.YtpddanmnlkcdpaaGreatDoor.Pe


/- KeepRight, KeepSync, KeepRecover of the program. -/
namespace Go.Proofs.YtpddanmnlkcdpaaGreatDoor.Kp
open Go.RowKit
open Ls (HH hh_keep lV lowL blkL)
open St (Strs)
def FitC (fit:Rec->Bool) (z b:Int) (r:ByteArray) (w:World):Prop :=
 ∀ (W:World) (x:MR),Below w.heap.size w W->x.1.2.1.size<=8000->x.1.2.2.length<=400->(∃ a cap,x.2=.slice a x.1.2.2.length cap/\x.1.2.2.length<=cap/\Strs W W.heap.size a x.1.2.2)->Calls Tryz.prog 107 #[.agg #[.int .i64 x.1.1,.string x.1.2.1,x.2],lV z b r] W fun e w'=>e=.returned (.bool (fit x.1))/\Below W.heap.size W w'
theorem FitC.later {fit:Rec->Bool} {z b:Int} {r:ByteArray} {w w':World} (h:FitC fit z b r w) (hb:Below w.heap.size w w'):FitC fit z b r w':=fun W x hW=>h W x (lowL hb hW)
structure Opn (fit:Rec->Bool) (z b:Int) (r s:ByteArray) (y:Int) (w W:World) (g gw:Nat) (v:Value) (m:List MR):Prop where
 cx:Cx w W [(gw,wkB v (allR fit s).2 z b r s y),(g,kB z b r s y)]
 rs:recs m=(allR fit s).1
 row:OwnR W w.heap.size v m
 ps:PathsO w.heap.size W m
end Go.Proofs.YtpddanmnlkcdpaaGreatDoor.Kp


namespace Go.Proofs.YtpddanmnlkcdpaaGreatDoor.Kp
open Go.RowKit
open Ls (HH hh_keep lV lowL blkL)
def syncV (fit:Rec->Bool) (z b:Int) (r s:ByteArray) (y:Int):Value:=if keepB fit z b r s y=true then kV z b r s s.size else kV z b r s y
def recoverV (fit:Rec->Bool) (z b:Int) (r s:ByteArray) (y:Int):Value:=if mayB z b r s=true then kV z b r (s.extract 0 (allR fit s).2) (allR fit s).2 else kV z b r s y
theorem keepB_yes {fit:Rec->Bool} {z b:Int} {r s:ByteArray} {y:Int} (h:keepB fit z b r s y=true):mayB z b r s=true/\(allR fit s).2=s.size/\spanB s y=true:=by
 unfold keepB atB at h
 simp only[Bool.and_eq_true,decide_eq_true_eq]at h
 exact⟨h.1.1,h.1.2,h.2⟩
theorem keepSync_impl (fit:Rec->Bool) (z b:Int) (r s:ByteArray) (y:Int) (w:World) (hs:s.size<=1048576) (hh:HH w) (hf:FitC fit z b r w) :
  Calls Tryz.prog 190 #[kV z b r s y] w fun e w'=>e=.returned (syncV fit z b r s y)/\Below w.heap.size w w':=by
 have C0:=hideK (((Cx.nil w).new (kB z b r s y)).new kZ)
 simp only[World.size_alloc]at C0
 have HO:=hideK (fun W (h:Below w.heap.size w W)=>openKeep_any fit z b r s y W hs (hh_keep hh h) (hf.later h))
 have HR:=hideK (fun g v W h=>right_any g v (allR fit s).2 z b r s y W h)
 have HCK:=hideK (fun e W he=>cutKeep_any z b r s y e W hs he)
 change Hid (∀ g v W h,Calls _ _ _ W fun e w'=>e=.returned (.bool (keepB fit z b r s y))/\_) at HR
 have HY:Hid (keepB fit z b r s y=true->(allR fit s).2=s.size/\syncV fit z b r s y=kV z b r s s.size):=fun h=>⟨(keepB_yes h).2.1,if_pos h⟩
 have HN:Hid (keepB fit z b r s y=false->syncV fit z b r s y=kV z b r s y):=fun h=>if_neg (by rw[h];exact Bool.false_ne_true)
 clear hh hf
 generalize syncV fit z b r s y=A at HY HN ⊢
 have HLE:=hideK (allR_le fit s)
 unfold OpenOut at HO
 unfold kV at HO HCK HY HN ⊢
 unfold kB kZ at C0
 go_enter Tryz.func190,Tryz.ntmps190
 go_wp2_with fail
 generalize (w.alloc _).alloc _=W0 at C0 ⊢
 generalize hgk:w.heap.size=gk at C0 ⊢
 have HGK:=hideK hgk
 clear hgk
 refine(HO.out _ C0.out.low).mono ?_
 rintro e w1 ⟨⟨v,m,rfl,h1,h2,h3⟩,hb⟩
 obtain⟨a0,cap0,hv⟩:=h2.one
 subst hv
 have C1:=hideK ((C0.out.call hb).new (wkB (.slice a0 m.length cap0) (allR fit s).2 z b r s y))
 clear hb h1 h2 h3 HO C0
 unfold wkB at C1
 go_wp2_with fail
 generalize w1.alloc _=W1 at C1 ⊢
 generalize w1.heap.size=gw at C1 ⊢
 refine(HR.out gw _ W1 (C1.out.get 0 rfl)).mono ?_
 rintro e w2 ⟨rfl,hb⟩
 have C2:=hideK (C1.out.call hb)
 clear hb C1
 obtain⟨k0,k1,k2,k3,k4⟩:=k_cells (C2.out.get 2 rfl)
 obtain⟨q0,q1,q2,q3,q4⟩:=cells5 (C2.out.get 1 rfl)
 have ff:=fun o=>frozen_of_row w2 (gk+1) o _ _ (C2.out.get 1 rfl)
 obtain⟨d0,d1,d2,d3,d4,d5,d6⟩:=wk_cells (C2.out.get 0 rfl)
 cases hk:keepB fit z b r s y with
 |false =>
  have HE:=hideK (HN.out hk)
  clear hk HY HN HR HCK
  have HF:=hideK (ans5 (C2.out.get 1 rfl) C2.out.low (by have:=HGK.out;omega) (.int .i64 z) (.int .i64 b) (.string r) (.string s) (.int .i64 y))
  have s5:=cells5 HF.out.2
  have HF1:=HF.out.1
  go_wp2_with fail
  exact bodyPost_ret (v:=.agg #[.int .i64 z,.int .i64 b,.string r,.string s,.int .i64 y]) (by simp[results,Tryz.results190,go_sem,s5.1,s5.2.1,s5.2.2.1,s5.2.2.2.1,s5.2.2.2.2]) rfl ⟨by rw[HE.out],HF1⟩
 |true =>
  have HE:=hideK (HY.out hk).2
  have HX:=hideK (HY.out hk).1
  clear hk HY HN HR
  have HCK1:Hid (∀ W,Calls Tryz.prog 206 #[.agg #[.int .i64 z,.int .i64 b,.string r,.string s,.int .i64 y],.int .i64 ((allR fit s).2:Nat)] W fun q w'=>q=.returned (.agg #[.int .i64 z,.int .i64 b,.string r,.string s,.int .i64 s.size])/\Below W.heap.size W w'):=fun W=>by
   have:=HCK.out (allR fit s).2 W HLE.out
   rw[HX.out]at this ⊢
   rw[ByteArray.extract_zero_size]at this
   exact this
  clear HCK
  generalize (allR fit s).2=e at HCK1 C2 d1 HX HLE ⊢
  go_wp2_with fail
  refine(HCK1.out _).mono ?_
  rintro q w3 ⟨rfl,hb⟩
  have C3:=hideK (C2.out.call hb)
  clear hb C2 HCK1 k0 k1 k2 k3 k4 q0 q1 q2 q3 q4 ff d0 d1 d2 d3 d4 d5 d6
  obtain⟨q0,q1,q2,q3,q4⟩:=cells5 (C3.out.get 1 rfl)
  have ff:=fun o=>frozen_of_row w3 (gk+1) o _ _ (C3.out.get 1 rfl)
  have HF:=hideK (ans5 (C3.out.get 1 rfl) C3.out.low (by have:=HGK.out;omega) (.int .i64 z) (.int .i64 b) (.string r) (.string s) (.int .i64 s.size))
  have s5:=cells5 HF.out.2
  have HF1:=HF.out.1
  go_wp2_with fail
  exact bodyPost_ret (v:=.agg #[.int .i64 z,.int .i64 b,.string r,.string s,.int .i64 s.size]) (by simp[results,Tryz.results190,go_sem,s5.1,s5.2.1,s5.2.2.1,s5.2.2.2.1,s5.2.2.2.2]) rfl ⟨by rw[HE.out],HF1⟩
end Go.Proofs.YtpddanmnlkcdpaaGreatDoor.Kp


/- PieceOf of the program. -/
namespace Go.Proofs.YtpddanmnlkcdpaaGreatDoor.Kp
open Go.RowKit
open Ls (HH hh_keep lV lowL blkL cells3 set3_all)
def pieceR (out:List Rec) (i:Int):Option ByteArray:=(out.find? fun x=>x.1==i).map (·.2.1)
def pieceV (fit:Rec->Bool) (z b:Int) (r s:ByteArray) (y i:Int):Value :=
 if keepB fit z b r s y=true then
  match pieceR (allR fit s).1 i with
  |some t=>.agg #[.string t,.int .i64 0,.int .i64 0]
  |none=>.agg #[.string ⟨#[]⟩,.int .i64 0,.int .i64 6]
 else .agg #[.string ⟨#[]⟩,.int .i64 0,.int .i64 1]
def tZ:Obj:=.cells #[.string ⟨#[]⟩,.int .i64 0,.int .i64 0] 179
end Go.Proofs.YtpddanmnlkcdpaaGreatDoor.Kp


/- Names compared: what strings.Compare says of two texts. -/
namespace Go.Proofs.YtpddanmnlkcdpaaGreatDoor.Pm
open Go.RowKit Go.Shelf
open Pe (ltN)
shelf_lay_g Lays.n106 Nm 106 at Tryz 74 as Tryz.cmpS
def cmpZ (a b:ByteArray):Int:=Lib.compareBytes a.data.toList b.data.toList
theorem cmp_any (a b:ByteArray) (w:World):Calls Tryz.prog 74 #[.string a,.string b] w fun e w'=>e=.returned (.int .i64 (cmpZ a b))/\w'=w :=
 Any.strings_Compare Tryz.cmpS a b w
theorem cmp_less:∀ a b:List UInt8,Lib.compareBytes a b<0↔Op.bytesLess a b=true
 |[],[]=>by simp[Lib.compareBytes,Op.bytesLess]
 |[],_ :: _=>by simp[Lib.compareBytes,Op.bytesLess]
 |_ :: _,[]=>by simp[Lib.compareBytes,Op.bytesLess]
 |x :: xs,y :: ys=>by
  rw[Lib.compareBytes,Op.bytesLess]
  by_cases h1:x<y
  ·simp[h1]
  ·by_cases h2:y<x
   ·have hne:¬x=y:=fun e=>by subst e;exact absurd h2 (by simp)
    simp[h1,h2,hne]
   ·have hxy:x=y:=UInt8.toNat_inj.1 (by rw[UInt8.lt_iff_toNat_lt]at h1 h2;omega)
    subst hxy
    simp[cmp_less xs ys]
theorem cmp_zero:∀ a b:List UInt8,Lib.compareBytes a b=0↔a=b
 |[],[]=>by simp[Lib.compareBytes]
 |[],_ :: _=>by simp[Lib.compareBytes]
 |_ :: _,[]=>by simp[Lib.compareBytes]
 |x :: xs,y :: ys=>by
  rw[Lib.compareBytes]
  by_cases h1:x<y
  ·have:x≠y:=fun e=>by subst e;exact absurd h1 (by simp)
   simp[h1,this]
  ·by_cases h2:y<x
   ·have:x≠y:=fun e=>by subst e;exact absurd h2 (by simp)
    simp[h1,h2,this]
   ·have hxy:x=y:=UInt8.toNat_inj.1 (by rw[UInt8.lt_iff_toNat_lt]at h1 h2;omega)
    subst hxy
    simp[cmp_zero xs ys]
theorem cmpZ_less (a b:ByteArray):cmpZ a b<0↔ltN a b=true:=by
 unfold cmpZ ltN
 rw[Lib.toList_data,Lib.toList_data]
 exact cmp_less _ _
theorem cmpZ_zero (a b:ByteArray):cmpZ a b=0↔a=b:=by
 unfold cmpZ
 rw[cmp_zero]
 exact⟨fun h=>ByteArray.ext (Array.toList_inj.1 h),fun h=>by rw[h]⟩
theorem less_trans:∀ a b c:List UInt8,Op.bytesLess a b=true->Op.bytesLess b c=true->Op.bytesLess a c=true
 |[],[],_,h,_=>by simp[Op.bytesLess]at h
 |_ :: _,[],_,h,_=>by simp[Op.bytesLess]at h
 |_,_ :: _,[],_,h=>by simp[Op.bytesLess]at h
 |[],_ :: _,_ :: _,_,_=>by simp[Op.bytesLess]
 |x :: xs,y :: ys,z :: zs,h1,h2=>by
  simp only[Op.bytesLess,Bool.or_eq_true,Bool.and_eq_true,decide_eq_true_eq,beq_iff_eq]at h1 h2 ⊢
  rcases h1 with h1|⟨rfl,h1⟩
  ·rcases h2 with h2|⟨rfl,h2⟩
   ·exact .inl (UInt8.lt_trans h1 h2)
   ·exact .inl h1
  ·rcases h2 with h2|⟨rfl,h2⟩
   ·exact .inl h2
   ·exact .inr ⟨rfl,less_trans xs ys zs h1 h2⟩
theorem ltN_trans {a b c:ByteArray} (h1:ltN a b=true) (h2:ltN b c=true):ltN a c=true:=less_trans _ _ _ h1 h2
theorem ltN_self (a:ByteArray):ltN a a=false:=by
 cases h:ltN a a with
 |false=>rfl
 |true =>
  have:=(cmpZ_less a a).2 h
  rw[(cmpZ_zero a a).2 rfl]at this
  omega
end Go.Proofs.YtpddanmnlkcdpaaGreatDoor.Pm


/- Numbers and texts there and back, said of what PutNum, GetNum, PutText and GetText answer. -/
namespace Go.Proofs.YtpddanmnlkcdpaaGreatDoor.Nm2
open Nu Go.Proofs.YtpddanmnlkcdpaaGreatDoor.Gn
theorem getD_mid (pre l post:List UInt8) (j:Nat) (h:j<l.length):(pre++(l++post)).getD (pre.length+j) 0=l.getD j 0:=by
 rw[List.getD_eq_getElem?_getD,List.getD_eq_getElem?_getD,List.getElem?_append_right (by omega),List.getElem?_append_left (by omega)]
 congr 2
 omega
theorem numH_get (U K j:Nat) (hj:j<K):(numH U K).getD j 0=UInt8.ofNat (U/128 ^ j%128+128):=by
 rw[List.getD_eq_getElem?_getD]
 simp[numH,hj]
theorem numL_get (U K j:Nat) (hj:j<K):(numL U K).getD j 0=UInt8.ofNat (U/128 ^ j%128+128):=by
 rw[<-numH_get U K j hj,List.getD_eq_getElem?_getD,List.getD_eq_getElem?_getD]
 unfold numL
 rw[List.getElem?_append_left (by rw[numH_length];exact hj)]
theorem numL_last (U K:Nat):(numL U K).getD K 0=UInt8.ofNat (U/128 ^ K):=by
 rw[List.getD_eq_getElem?_getD]
 unfold numL
 rw[List.getElem?_append_right (by rw[numH_length];omega),numH_length]
 simp
theorem size_of (s:ByteArray):s.size=s.data.toList.length:=by rw[Array.length_toList];rfl
theorem mid (s:ByteArray) (U:Nat) (pre post:List UInt8) (hU:U<18446744073709551616) (h:s.data.toList=pre++(numB U++post)) :
  numR s pre.length=(U,pre.length+(numB U).length,0):=by
 obtain⟨hK,hall,hlast⟩:=cnt_spec U hU
 have hn:numB U=numL U (cnt 9 U):=rfl
 have hlen:(numB U).length=cnt 9 U+1:=by rw[hn,numL_length]
 have hsz:s.size=pre.length+(cnt 9 U+1)+post.length:=by rw[size_of,h];simp[hlen];omega
 have hd:=dec s U pre.length (cnt 9 U) hU hK hall hlast (by omega)
  (fun j hj=>by
   unfold byteN
   rw[h,getD_mid pre _ post j (by omega),hn,numL_get _ _ _ hj,UInt8.toNat_ofNat',Nat.mod_eq_of_lt (by omega)])
  (by
   unfold byteN
   rw[h,getD_mid pre _ post _ (by omega),hn,numL_last,UInt8.toNat_ofNat',Nat.mod_eq_of_lt (by omega)])
  (cnt 9 U) 0 (by omega) (by omega)
 rw[Nat.pow_zero,Nat.mod_one]at hd
 rw[hlen]
 exact hd
theorem putS_list (n:Int):(putS n).data.toList=numB (zz n):=rfl
theorem putS_len (n:Int):(putS n).size=(numB (zz n)).length:=by rw[size_of,putS_list]
theorem rd_of (s:ByteArray) (a u p:Nat) (c:Int) (hs:s.size<=8000) (h:numR s a=(u,p,c)):rd s (a:Int)=(unz u,p,c):=by
 unfold rd
 rw[if_neg (by omega),if_neg (by omega),Int.toNat_natCast,h]
theorem num_back (s:ByteArray) (n:Int) (pre post:List UInt8) (h1:-9223372036854775808<=n) (h2:n<=9223372036854775807) (hs:s.size<=8000)
  (h:s.data.toList=pre++(numB (zz n)++post)):rd s (pre.length:Int)=(n,pre.length+(putS n).size,0):=by
 rw[rd_of s pre.length _ _ _ hs (mid s (zz n) pre post (zz_lt n h1 h2) h),unz_zz,putS_len]
theorem extract_list (s:ByteArray) (a b:Nat):(s.extract a b).data.toList=(s.data.toList.drop a).take (b-a):=by
 rw[ByteArray.data_extract,Array.toList_extract,List.extract_eq_take_drop]
theorem putT_some (u:ByteArray) (h:u.size<=8000):putT u=putS (u.size:Int)++u:=by unfold putT;rw[if_pos h]
theorem putT_list (u:ByteArray) (h:u.size<=8000):(putT u).data.toList=numB (zz (u.size:Int))++u.data.toList:=by
 rw[putT_some u h,ByteArray.data_append,Array.toList_append,putS_list]
theorem putT_size (u:ByteArray) (h:u.size<=8000):(putT u).size=(putS (u.size:Int)).size+u.size:=by
 rw[putT_some u h,ByteArray.size_append]
theorem ba_ext {a b:ByteArray} (h:a.data.toList=b.data.toList):a=b:=by
 cases a;cases b
 simp only[ByteArray.mk.injEq]
 exact Array.toList_inj.1 h
end Go.Proofs.YtpddanmnlkcdpaaGreatDoor.Nm2


/- A record comes back from a log, and what stands ahead of it too: plain mathematics. -/
namespace Go.Proofs.YtpddanmnlkcdpaaGreatDoor.Kp
open Go.RowKit
open Gn (rd rt run numR byteN rt_ok)
open Nm2 (num_back putS_list putT_list extract_list ba_ext size_of)
open Nu (putS putT zz numB)
open Pk (cat)
theorem byteN_app (s t:ByteArray) (p:Nat) (h:p<s.size):byteN (s++t) p=byteN s p:=by
 unfold byteN
 have hl:p<s.data.toList.length:=by rw[Array.length_toList];exact h
 rw[ByteArray.data_append,Array.toList_append]
 simp only[List.getD]
 rw[List.getElem?_append_left hl]
theorem run_app (s t:ByteArray):∀ f k p u,(run s f k p u).2.2=0->run (s++t) f k p u=run s f k p u:=by
 intro f
 induction f with
 |zero=>intro k p u h;exact absurd h (by rw[run];decide)
 |succ f ih =>
  intro k p u h
  by_cases hp:s.size<=p
  ·rw[Gn.run_end s f k p u hp]at h
   exact absurd h (by decide)
  ·have hz:(s++t).size=s.size+t.size:=ByteArray.size_append
   rw[run,run,byteN_app s t p (by omega),if_neg (show ¬(s++t).size<=p by omega),if_neg hp]
   rw[run,if_neg hp]at h
   split
   ·rfl
   ·rename_i h1
    rw[if_neg h1]at h
    split
    ·rfl
    ·rename_i h2
     rw[if_neg h2]at h
     exact ih _ _ _ h
theorem rd_app {s t:ByteArray} {a:Int} (h8:(s++t).size<=8000) (h:(rd s a).2.2=0):rd (s++t) a=rd s a:=by
 have hz:(s++t).size=s.size+t.size:=ByteArray.size_append
 unfold rd at h ⊢
 rw[if_neg (show ¬8000<s.size by omega)]at h ⊢
 rw[if_neg (show ¬8000<(s++t).size by omega)]
 split
 ·rfl
 ·rename_i ha
  rw[if_neg ha]at h
  unfold numR at h ⊢
  rw[run_app s t 10 0 a.toNat 0 h]
theorem ext_app (s t:ByteArray) (a b:Nat) (h:b<=s.size):(s++t).extract a b=s.extract a b:=by
 apply ba_ext
 have hl:s.data.toList.length=s.size:=by rw[Array.length_toList];rfl
 rw[extract_list,extract_list,ByteArray.data_append,Array.toList_append]
 by_cases hab:a<=b
 ·rw[List.drop_append_of_le_length (by omega),List.take_append_of_le_length (by rw[List.length_drop];omega)]
 ·rw[show b-a=0 by omega]
  simp
theorem rt_app {s t:ByteArray} {a:Int} (h8:(s++t).size<=8000) (h:(rt s a).2.2=0):rt (s++t) a=rt s a:=by
 have hz:(s++t).size=s.size+t.size:=ByteArray.size_append
 unfold rt at h ⊢
 split at h
 ·rename_i hc
  exact absurd h hc
 ·rename_i hc
  have hc0:(rd s a).2.2=0:=by
   by_cases q:(rd s a).2.2=0
   ·exact q
   ·exact absurd q hc
  rw[rd_app h8 hc0,if_neg hc,if_neg hc]
  split at h
  ·exact absurd h (by decide)
  ·rename_i h1
   rw[if_neg h1,if_neg h1]
   split at h
   ·exact absurd h (by decide)
   ·rename_i h2
    rw[if_neg h2,if_neg (by omega),ext_app s t _ _ (by omega)]
theorem recR_app {s t:ByteArray} {e:Nat} {x:Rec × Nat} (h8:(s++t).size<=8000) (h:recR s e=some x):recR (s++t) e=some x:=by
 have h0:(rt s e).2.2=0:=by
  unfold recR at h
  split at h
  ·rename_i hc
   exact hc.1
  ·cases h
 unfold recR at h ⊢
 rw[rt_app h8 h0]
 exact h
theorem goR_app {fit:Rec->Bool} {s t:ByteArray} (h8:(s++t).size<=8000):∀ (f e:Nat) (out:List Rec),e<=s.size->s.size-e<=f->(goR fit s f out e).2=s.size->goR fit (s++t) ((s++t).size-e) out e=goR fit (s++t) ((s++t).size-s.size) (goR fit s f out e).1 s.size:=by
 have hz:(s++t).size=s.size+t.size:=ByteArray.size_append
 intro f
 induction f with
 |zero =>
  intro e out h1 h2 h3
  obtain rfl:e=s.size:=by omega
  rw[goR_end (Nat.le_refl _)]
 |succ f ih =>
  intro e out h1 h2 h3
  by_cases he:s.size<=e
  ·obtain rfl:e=s.size:=by omega
   rw[goR_end (Nat.le_refl _)]
  ·cases hr:recR s e with
   |none=>rw[goR_none hr]at h3;exact absurd h3 (by show ¬e=s.size;omega)
   |some x =>
    by_cases hb:fit x.1=true/\hasR out x.1.1=false
    ·have hf:=recR_facts hr
     have e1:goR fit s (f+1) out e=goR fit s f (out++[x.1]) x.2:=by
      rw[goR,if_pos (by omega),hr]
      exact if_pos hb
     rw[e1]at h3 ⊢
     rw[goR_step (recR_app h8 hr) hb.1 hb.2]
     exact ih x.2 _ (by omega) (by omega) h3
    ·rw[goR_bad hr hb]at h3;exact absurd h3 (by show ¬e=s.size;omega)
theorem rt_mid (s u:ByteArray) (pre post:List UInt8) (hu:u.size<=8000) (hs:s.size<=8000) (h:s.data.toList=pre++((putT u).data.toList++post)):rt s (pre.length:Nat)=(u,pre.length+(putT u).size,0):=by
 have hl:s.data.toList=pre++(numB (zz (u.size:Int))++(u.data.toList++post)):=by rw[h,putT_list u hu,List.append_assoc]
 have hr:=num_back s (u.size:Int) pre (u.data.toList++post) (by omega) (by omega) hs hl
 have hul:u.data.toList.length=u.size:=by rw[Array.length_toList];rfl
 have hz:pre.length+(putS (u.size:Int)).size+u.size<=s.size:=by
  rw[size_of s,hl,Nm2.putS_len]
  simp only[List.length_append]
  omega
 have he:s.extract (pre.length+(putS (u.size:Int)).size) (pre.length+(putS (u.size:Int)).size+u.size)=u:=by
  apply ba_ext
  rw[extract_list,hl,<-List.append_assoc,List.drop_left' (by rw[List.length_append,Nm2.putS_len]),show pre.length+(putS (u.size:Int)).size+u.size-(pre.length+(putS (u.size:Int)).size)=u.size by omega,List.take_append_of_le_length (by omega),List.take_of_length_le (by omega)]
 rw[rt_ok s _ u.size _ hr hu (by omega),he,Nm2.putT_size u hu,Nat.add_assoc]
theorem cat_cons (a:ByteArray) (l:List ByteArray):cat (a :: l)=a.data.toList++cat l:=by simp[cat]
theorem pathR_mid {s:ByteArray} (hs:s.size<=8000):∀ (q:List ByteArray) (pre post:List UInt8) (l:List ByteArray),(∀ x∈q,x.size<=8000)->s.data.toList=pre++(cat (q.map putT)++post)->pathR s q.length pre.length l=some (l++q,pre.length+(cat (q.map putT)).length)
 |[],pre,post,l,hq,h=>by
  show some (l,pre.length)=_
  simp[cat]
 |a :: q,pre,post,l,hq,h=>by
  rw[List.map_cons,cat_cons]at h ⊢
  have hr:=rt_mid s a pre (cat (q.map putT)++post) (hq a List.mem_cons_self) hs (by rw[h,List.append_assoc])
  have hc:(putT a).size=(putT a).data.toList.length:=by rw[Array.length_toList];rfl
  rw[List.length_cons,pathR_yes (by rw[hr]),hr]
  have ih:=pathR_mid hs q (pre++(putT a).data.toList) post (l++[a]) (fun x hx=>hq x (List.mem_cons_of_mem _ hx)) (by rw[h];simp only[List.append_assoc])
  rw[List.length_append,<-hc]at ih
  show pathR s q.length (pre.length+(putT a).size) (l++[a])=_
  rw[ih,List.length_append,<-hc,List.append_assoc,Nat.add_assoc]
  rfl
structure RecS (x:Rec):Prop where
 lo:-9223372036854775808<=x.1
 hi:x.1<=9223372036854775807
 pc:x.2.1.size<=8000
 len:x.2.2.length<=20
 all:∀ q∈x.2.2,q.size<=8000
theorem innerT_list (x:Rec):(innerT x).data.toList=numB (zz x.1)++((putT x.2.1).data.toList++(numB (zz (x.2.2.length:Nat))++(cat (x.2.2.map putT)++[]))):=by
 unfold innerT partsR
 show cat _=_
 rw[List.take_length]
 show cat (putS x.1 :: putT x.2.1 :: putS (x.2.2.length:Nat) :: x.2.2.map putT)=_
 rw[cat_cons,cat_cons,cat_cons,putS_list,putS_list,List.append_nil]
theorem innerR_back {x:Rec} (h:RecS x) (hs:(innerT x).size<=8000):innerR (innerT x)=some x:=by
 obtain⟨i,t,p⟩:=x
 have hl:=innerT_list (i,t,p)
 dsimp only at hl
 have e1:(putS i).size=(numB (zz i)).length:=Nm2.putS_len i
 have e2:(putT t).size=(putT t).data.toList.length:=by rw[Array.length_toList];rfl
 have e3:(putS ((p.length:Nat):Int)).size=(numB (zz (p.length:Nat))).length:=Nm2.putS_len _
 have h1:rd (innerT (i,t,p)) 0=(i,(putS i).size,0):=by
  have:=num_back _ i [] _ h.lo h.hi hs (by rw[hl];rfl)
  simpa using this
 have h2:rt (innerT (i,t,p)) ((putS i).size:Nat)=(t,(putS i).size+(putT t).size,0):=by
  have:=rt_mid _ t (numB (zz i)) _ h.pc hs hl
  rw[<-e1]at this
  exact this
 have h3:rd (innerT (i,t,p)) (((putS i).size+(putT t).size:Nat):Int)=(((p.length:Nat):Int),(putS i).size+(putT t).size+(putS ((p.length:Nat):Int)).size,0):=by
  have:=num_back _ ((p.length:Nat):Int) (numB (zz i)++(putT t).data.toList) (cat (p.map putT)++[]) (by omega) (by have:=h.len;dsimp only at this;omega) hs (by rw[hl];simp only[List.append_assoc])
  rw[List.length_append,<-e1,<-e2]at this
  exact this
 have h4:pathR (innerT (i,t,p)) p.length ((putS i).size+(putT t).size+(putS ((p.length:Nat):Int)).size) []=some (p,(putS i).size+(putT t).size+(putS ((p.length:Nat):Int)).size+(cat (p.map putT)).length):=by
  have:=pathR_mid hs p (numB (zz i)++((putT t).data.toList++numB (zz (p.length:Nat)))) [] [] h.all (by rw[hl];simp only[List.append_assoc])
  rw[List.length_append,List.length_append,<-e1,<-e2,<-e3,<-Nat.add_assoc]at this
  simpa using this
 have h5:(innerT (i,t,p)).size=(putS i).size+(putT t).size+(putS ((p.length:Nat):Int)).size+(cat (p.map putT)).length:=by
  rw[size_of,hl]
  simp only[List.length_append,List.length_nil]
  omega
 unfold innerR
 have hok:innerOk (innerT (i,t,p)):=by
  unfold innerOk
  have hlen:=h.len
  dsimp only at hlen
  rw[h1]
  dsimp only
  rw[h2]
  dsimp only
  rw[h3]
  dsimp only
  exact⟨rfl,rfl,rfl,by omega,by omega⟩
 rw[if_pos hok,h1]
 dsimp only
 rw[h2]
 dsimp only
 rw[h3]
 dsimp only
 rw[Int.toNat_natCast,h4]
 dsimp only
 rw[if_pos h5.symm]
theorem us_seal {t:ByteArray} (h:t.size<=7996):usC (Se.sealV t)=0/\usT (Se.sealV t)=t/\(Se.sealV t).size<=8000:=by
 have e:Se.sealV t=t++Se.fourS (Se.crcOf t):=by unfold Se.sealV;rw[if_pos h]
 have hz:(Se.sealV t).size=t.size+4:=by rw[e,ByteArray.size_append,Se.fourS_size]
 have hx:(Se.sealV t).extract 0 ((Se.sealV t).size-4)=t:=by
  rw[hz,Nat.add_sub_cancel,e,ext_app _ _ _ _ (Nat.le_refl _)]
  apply ba_ext
  rw[extract_list]
  have:t.data.toList.length=t.size:=by rw[Array.length_toList];rfl
  simp
  rw[List.take_of_length_le (by omega)]
 unfold usC usT
 have a1:¬8000<(Se.sealV t).size:=by omega
 have a2:¬(Se.sealV t).size<4:=by omega
 simp only[if_neg a1,if_neg a2,hx]
 simp
 omega
theorem recR_back {s:ByteArray} {x:Rec} (h:RecS x) (hi:(innerT x).size<=7996) (hs:s.size<=8000) (pre post:List UInt8) (hl:s.data.toList=pre++((recT x).data.toList++post)):recR s pre.length=some (x,pre.length+(recT x).size):=by
 obtain⟨u1,u2,u3⟩:=us_seal hi
 have hr:=rt_mid s (Se.sealV (innerT x)) pre post u3 hs hl
 unfold recR
 rw[hr]
 dsimp only
 rw[if_pos ⟨rfl,u1⟩,u2,innerR_back h (by omega)]
 rfl
theorem allR_add {fit:Rec->Bool} {s:ByteArray} {x:Rec} (h:(allR fit s).2=s.size) (hr:RecS x) (hi:(innerT x).size<=7996) (hf:fit x=true) (hn:hasR (allR fit s).1 x.1=false) (h8:(s++recT x).size<=8000):allR fit (s++recT x)=((allR fit s).1++[x],(s++recT x).size):=by
 have hz:(s++recT x).size=s.size+(recT x).size:=ByteArray.size_append
 have e:=goR_app h8 (s.size-0) 0 [] (Nat.zero_le _) (Nat.le_refl _) h
 have hsl:s.size=s.data.toList.length:=size_of s
 have hb:=recR_back hr hi h8 s.data.toList [] (by rw[ByteArray.data_append,Array.toList_append,List.append_nil])
 rw[<-hsl]at hb
 unfold allR at hn ⊢
 rw[e,goR_step hb hf hn]
 rw[goR_end (by dsimp only;omega)]
 dsimp only
 rw[hz]
end Go.Proofs.YtpddanmnlkcdpaaGreatDoor.Kp

