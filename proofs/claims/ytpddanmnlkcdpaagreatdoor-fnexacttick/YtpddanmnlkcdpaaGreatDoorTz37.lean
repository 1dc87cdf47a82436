/- Texts put together: KpOpen, KpMay, PeOths. -/
import Derived.Test.YtpddanmnlkcdpaaGreatDoorTz34
import Derived.Test.YtpddanmnlkcdpaaGreatDoorTz35
import Derived.Test.YtpddanmnlkcdpaaGreatDoorTz36
import Derived.Lib.QuietBelow
import Derived.BigQuiet
set_option maxRecDepth 100000
set_option maxHeartbeats 8000000
namespace Go.Proofs.YtpddanmnlkcdpaaGreatDoor.Kp
open Go.RowKit
open Ls (HH hh_keep cells3 lV)
open St (Strs)
theorem set7 {W:World} {g:Nat} {x0 x1 x2 x3 x4 x5 x6:Value} {T:TypeId} (h:W.heap[g]? = some (.cells #[x0,x1,x2,x3,x4,x5,x6] T (0,0))) (a0 a1 a2 a3 a4 a5 a6:Value) :
  (((((((W.setCell ⟨g,0,none⟩ a0).setCell ⟨g,1,none⟩ a1).setCell ⟨g,2,none⟩ a2).setCell ⟨g,3,none⟩ a3).setCell ⟨g,4,none⟩ a4).setCell ⟨g,5,none⟩ a5).setCell ⟨g,6,none⟩ a6).heap[g]? = some (.cells #[a0,a1,a2,a3,a4,a5,a6] T (0,0)):=by
 have h0:(W.setCell ⟨g,0,none⟩ a0).heap[g]? = some (.cells #[a0,x1,x2,x3,x4,x5,x6] T (0,0)):=by rw[heap_setCell_same W g 0 _ T a0 h];rfl
 have h1:=heap_setCell_same _ g 1 _ T a1 h0
 have h2:=heap_setCell_same _ g 2 _ T a2 h1
 have h3:=heap_setCell_same _ g 3 _ T a3 h2
 have h4:=heap_setCell_same _ g 4 _ T a4 h3
 have h5:=heap_setCell_same _ g 5 _ T a5 h4
 have h6:=heap_setCell_same _ g 6 _ T a6 h5
 exact h6
theorem set7_keep {W:World} {g k:Nat} {o:Obj} (h:W.heap[k]? = some o) (hk:k≠g) (a0 a1 a2 a3 a4 a5 a6:Value) :
  (((((((W.setCell ⟨g,0,none⟩ a0).setCell ⟨g,1,none⟩ a1).setCell ⟨g,2,none⟩ a2).setCell ⟨g,3,none⟩ a3).setCell ⟨g,4,none⟩ a4).setCell ⟨g,5,none⟩ a5).setCell ⟨g,6,none⟩ a6).heap[k]? = some o:=by
 rw[heap_setCell_other _ _ k _ (by exact hk),heap_setCell_other _ _ k _ (by exact hk),heap_setCell_other _ _ k _ (by exact hk),heap_setCell_other _ _ k _ (by exact hk),heap_setCell_other _ _ k _ (by exact hk),heap_setCell_other _ _ k _ (by exact hk),heap_setCell_other _ _ k _ (by exact hk)]
 exact h
theorem set7_low {w0 W:World} {g:Nat} (h:Below w0.heap.size w0 W) (hg:w0.heap.size<=g) (a0 a1 a2 a3 a4 a5 a6:Value) :
  Below w0.heap.size w0 (((((((W.setCell ⟨g,0,none⟩ a0).setCell ⟨g,1,none⟩ a1).setCell ⟨g,2,none⟩ a2).setCell ⟨g,3,none⟩ a3).setCell ⟨g,4,none⟩ a4).setCell ⟨g,5,none⟩ a5).setCell ⟨g,6,none⟩ a6) :=
 ((((((h.setCell (p:=⟨g,0,none⟩) hg a0).setCell (p:=⟨g,1,none⟩) hg a1).setCell (p:=⟨g,2,none⟩) hg a2).setCell (p:=⟨g,3,none⟩) hg a3).setCell (p:=⟨g,4,none⟩) hg a4).setCell (p:=⟨g,5,none⟩) hg a5).setCell (p:=⟨g,6,none⟩) hg a6
theorem cells7 {W:World} {g:Nat} {x0 x1 x2 x3 x4 x5 x6:Value} {T:TypeId} (h:W.heap[g]? = some (.cells #[x0,x1,x2,x3,x4,x5,x6] T (0,0))):W.cell? ⟨g,0,none⟩=some x0/\W.cell? ⟨g,1,none⟩=some x1/\W.cell? ⟨g,2,none⟩=some x2/\W.cell? ⟨g,3,none⟩=some x3/\W.cell? ⟨g,4,none⟩=some x4/\W.cell? ⟨g,5,none⟩=some x5/\W.cell? ⟨g,6,none⟩=some x6 :=
 ⟨cell_of_row W g 0 _ _ _ h,cell_of_row W g 1 _ _ _ h,cell_of_row W g 2 _ _ _ h,cell_of_row W g 3 _ _ _ h,cell_of_row W g 4 _ _ _ h,cell_of_row W g 5 _ _ _ h,cell_of_row W g 6 _ _ _ h⟩
theorem OwnR.others {W W':World} {base g:Nat} {v:Value} {m:List MR} {cs:Array Value} {T:TypeId} (h:OwnR W base v m) (hg:W.heap[g]? = some (.cells cs T (0,0))) (hT:T≠129) (hk:∀ k o,W.heap[k]? = some o->k≠g->W'.heap[k]? = some o):OwnR W' base v m:=by
 obtain⟨hl,h⟩:=h
 refine⟨hl,?_⟩
 rcases h with h|⟨k,cap,cur,hv,hkb,hb,rest⟩
 ·exact .inl h
 ·exact .inr ⟨k,cap,cur,hv,hkb,hk k _ hb (ty_ne hb hg (fun e=>hT e.symm)),rest⟩
theorem KeepsS.others {W W':World} {g:Nat} {cs:Array Value} {T:TypeId} (hg:W.heap[g]? = some (.cells cs T (0,0))) (hT:T≠9) (hk:∀ k o,W.heap[k]? = some o->k≠g->W'.heap[k]? = some o):KeepsS W W' :=
 fun k _ e=>hk k _ e (ty_ne e hg (fun e=>hT e.symm))
def PathsO (B:Nat) (W:World) (m:List MR):Prop:=∀ x∈m,PathO B W x.2 x.1.2.2
theorem PathsO.keeps {B:Nat} {W W':World} {m:List MR} (h:PathsO B W m) (k:KeepsS W W'):PathsO B W' m:=fun x hx=>(h x hx).keeps k
theorem PathsO.mono {B C:Nat} {W:World} {m:List MR} (h:PathsO B W m) (hB:C<=B):PathsO C W m:=fun x hx=>(h x hx).mono hB
theorem PathsO.slices {B:Nat} {W:World} {m:List MR} (h:PathsO B W m):∀ x∈m,∃ a n cap,x.2=.slice a n cap:=fun x hx=>by
 obtain⟨a,cap,hv,_⟩:=(h x hx).strs
 exact⟨a,_,cap,hv⟩
def OpenOut (fit:Rec->Bool) (z b:Int) (r s:ByteArray) (y:Int) (base:Nat) (e:Ending) (w':World):Prop :=
 ∃ v m,e=.returned (.agg #[v,.int .i64 (allR fit s).2,.int .i64 z,.int .i64 b,.string r,.string s,.int .i64 y])/\recs m=(allR fit s).1/\OwnR w' base v m/\PathsO base w' m
structure Far (fit:Rec->Bool) (z b:Int) (r s:ByteArray) (y:Int) (gk gr gw:Nat) (w wr:World) (v:Value) (m:List MR) (e:Nat):Prop where
 cx:Cx w wr [(gw,wkB v e z b r s y),(gr,.cells #[.slice none 0 0,.int .i64 0,.int .i64 0,.int .i64 0,.string ⟨#[]⟩,.string ⟨#[]⟩,.int .i64 0] 76),(gk,kB z b r s y)]
 all:goR fit s (s.size-e) (recs m) e=allR fit s
 row:OwnR wr w.heap.size v m
 ps:PathsO w.heap.size wr m
 ml:m.length<=e
 el:e<=s.size
theorem Far.call {fit:Rec->Bool} {z b:Int} {r s:ByteArray} {y:Int} {gk gr gw:Nat} {w wr w':World} {v:Value} {m:List MR} {e:Nat} (h:Far fit z b r s y gk gr gw w wr v m e) (hb:Below wr.heap.size wr w'):Far fit z b r s y gk gr gw w w' v m e :=
 ⟨h.cx.call hb,h.all,h.row.below hb,h.ps.keeps (KeepsS.below hb),h.ml,h.el⟩
theorem Far.new {fit:Rec->Bool} {z b:Int} {r s:ByteArray} {y:Int} {gk gr gw:Nat} {w wr:World} {v:Value} {m:List MR} {e:Nat} (h:Far fit z b r s y gk gr gw w wr v m e) (o:Obj):Far fit z b r s y gk gr gw w (wr.alloc o) v m e:=h.call ((Below.refl _ _).alloc (Nat.le_refl _) o)
theorem Far.put {fit:Rec->Bool} {z b:Int} {r s:ByteArray} {y:Int} {gk gr gw:Nat} {w wr w':World} {v v':Value} {m:List MR} {e:Nat} {x:Rec × Nat} {xv:Value} (h:Far fit z b r s y gk gr gw w wr v m e) (hx:recR s e=some x) (hf:fit x.1=true) (hh:hasR (recs m) x.1.1=false)
  (hgk:w.heap.size<=gw) (hne1:gr≠gw) (hne2:gk≠gw) (hp:PathO w.heap.size wr xv x.1.2.2)
  (h1:w'.heap[gw]? = some (wkB v' x.2 z b r s y)) (h2:OwnR w' w.heap.size v' (m++[(x.1,xv)])) (h3:KeepsS wr w') (h4:∀ k o,wr.heap[k]? = some o->k≠gw->v.ownBlock≠some k->w'.heap[k]? = some o) (h5:∀ B,B<=w.heap.size->B<=gw->Below B wr w'):Far fit z b r s y gk gr gw w w' v' (m++[(x.1,xv)]) x.2:=by
 have hfx:=recR_facts hx
 refine⟨⟨h.cx.low.trans (h5 _ (Nat.le_refl _) hgk),?_⟩,?_,h2,?_,?_,hfx.2.1⟩
 ·intro q hq
  rcases List.mem_cons.1 hq with rfl|hq
  ·exact h1
  ·rcases List.mem_cons.1 hq with rfl|hq
   ·exact h4 _ _ (h.cx.get 1 rfl) hne1 (own_not h.row (h.cx.get 1 rfl) (by decide))
   ·rw[List.mem_singleton.1 hq]
    exact h4 _ _ (h.cx.get 2 rfl) hne2 (own_not h.row (h.cx.get 2 rfl) (by decide))
 ·rw[<-h.all,goR_step hx hf hh]
  unfold recs
  rw[List.map_append]
  rfl
 ·intro q hq
  rcases List.mem_append.1 hq with hq|hq
  ·exact(h.ps q hq).keeps h3
  ·rw[List.mem_singleton.1 hq]
   exact hp.keeps h3
 ·rw[List.length_append]
  have:=h.ml
  simp
  omega
theorem Far.done {fit:Rec->Bool} {z b:Int} {r s:ByteArray} {y:Int} {gk gr gw:Nat} {w wr:World} {v:Value} {m:List MR} {e:Nat} (h:Far fit z b r s y gk gr gw w wr v m e) (hd:goR fit s (s.size-e) (recs m) e=(recs m,e)) (hg:w.heap.size<=gr) (a0 a1 a2 a3 a4 a5 a6:Value) (h0:a0=v) (h1:a1=.int .i64 e) (h2:a2=.int .i64 z) (h3:a3=.int .i64 b) (h4:a4=.string r) (h5:a5=.string s) (h6:a6=.int .i64 y) :
  OpenOut fit z b r s y w.heap.size (.returned (.agg #[a0,a1,a2,a3,a4,a5,a6])) (((((((wr.setCell ⟨gr,0,none⟩ a0).setCell ⟨gr,1,none⟩ a1).setCell ⟨gr,2,none⟩ a2).setCell ⟨gr,3,none⟩ a3).setCell ⟨gr,4,none⟩ a4).setCell ⟨gr,5,none⟩ a5).setCell ⟨gr,6,none⟩ a6) /\
  Below w.heap.size w (((((((wr.setCell ⟨gr,0,none⟩ a0).setCell ⟨gr,1,none⟩ a1).setCell ⟨gr,2,none⟩ a2).setCell ⟨gr,3,none⟩ a3).setCell ⟨gr,4,none⟩ a4).setCell ⟨gr,5,none⟩ a5).setCell ⟨gr,6,none⟩ a6):=by
 subst h0 h1 h2 h3 h4 h5 h6
 have hall:allR fit s=(recs m,e):=by rw[<-h.all,hd]
 have hk:∀ k o,wr.heap[k]? = some o->k≠gr->_:=fun k o hk hne=>set7_keep (g:=gr) hk hne a0 (.int .i64 e) (.int .i64 z) (.int .i64 b) (.string r) (.string s) (.int .i64 y)
 refine⟨⟨a0,m,by rw[hall],by rw[hall],h.row.others (h.cx.get 1 rfl) (by decide) hk,h.ps.keeps (KeepsS.others (h.cx.get 1 rfl) (by decide) hk)⟩,set7_low h.cx.low hg _ _ _ _ _ _ _⟩
def endAt (W:World) (g:Nat):Nat:=match W.cell? ⟨g,1,none⟩ with
 |some (.int _ n)=>n.toNat
 |_=>0
theorem endAt_eq {W:World} {g:Nat} {v:Value} {e:Nat} {z b:Int} {r s:ByteArray} {y:Int} (h:W.heap[g]? = some (wkB v e z b r s y)):endAt W g=e:=by
 unfold endAt
 rw[(wk_cells h).2.1]
 rfl
theorem openKeep_any (fit:Rec->Bool) (z b:Int) (r s:ByteArray) (y:Int) (w:World) (hs:s.size<=1048576) (hh:HH w)
  (hf:∀ (W:World) (x:MR),Below w.heap.size w W->x.1.2.1.size<=8000->x.1.2.2.length<=400->(∃ a cap,x.2=.slice a x.1.2.2.length cap/\x.1.2.2.length<=cap/\Strs W W.heap.size a x.1.2.2)->Calls Tryz.prog 107 #[.agg #[.int .i64 x.1.1,.string x.1.2.1,x.2],lV z b r] W fun e w'=>e=.returned (.bool (fit x.1))/\Below W.heap.size W w') :
  Calls Tryz.prog 65 #[kV z b r s y] w fun e w'=>OpenOut fit z b r s y w.heap.size e w'/\Below w.heap.size w w':=by
 have HHW:Hid (∀ W,Below w.heap.size w W->HH W):=fun W h=>hh_keep hh h
 have HF:=hideK hf
 have C0:=hideK ((((Cx.nil w).new (kB z b r s y)).new (.cells #[.slice none 0 0,.int .i64 0,.int .i64 0,.int .i64 0,.string ⟨#[]⟩,.string ⟨#[]⟩,.int .i64 0] 76)).new (wkB (.slice none 0 0) 0 z b r s y))
 simp only[World.size_alloc]at C0
 unfold kB wkB at C0
 unfold kV
 clear hh hf
 go_enter Tryz.func65,Tryz.ntmps65
 go_wp2_with fail
 generalize ((w.alloc (.cells #[.int .i64 z,.int .i64 b,.string r,.string s,.int .i64 y] 32)).alloc (.cells #[.slice none 0 0,.int .i64 0,.int .i64 0,.int .i64 0,.string ⟨#[]⟩,.string ⟨#[]⟩,.int .i64 0] 76)).alloc (.cells #[.slice none 0 0,.int .i64 0,.int .i64 z,.int .i64 b,.string r,.string s,.int .i64 y] 76)=W0 at C0 ⊢
 obtain⟨gk,hgk⟩:∃ gk,gk=w.heap.size:=⟨_,rfl⟩
 have F0:Hid (Far fit z b r s y gk (gk+1) (gk+1+1) w W0 (.slice none 0 0) [] 0):=⟨by rw[hgk];exact C0.out,rfl,OwnR.nil _ _,fun x hx=>absurd hx List.not_mem_nil,Nat.zero_le _,Nat.zero_le _⟩
 have HGK:=hideK hgk
 rw[<-hgk]
 clear C0 hgk
 go_loopw [4,5,6] (fun _ _ _ wr=>∃ v m e,Far fit z b r s y gk (gk+1) (gk+1+1) w wr v m e) (fun _ _ _ wr=>s.size-(endAt wr (gk+1+1)))
 case atStart=>exact⟨_,_,_,F0.out⟩
 case round =>
  obtain⟨v,m,e,hfar⟩:=hrel
  have F:=hideK hfar
  clear hfar F0
  obtain⟨a0,cap0,hv⟩:=F.out.row.one
  subst hv
  obtain⟨k0,k1,k2,k3,k4,k5,k6⟩:=wk_cells (F.out.cx.get 0 rfl)
  obtain⟨r0,r1,r2,r3,r4,r5,r6⟩:=cells7 (F.out.cx.get 1 rfl)
  obtain⟨l0,l1,l2,l3,l4⟩:=k_cells (F.out.cx.get 2 rfl)
  have fr:=fun o=>frozen_of_row wr (gk+1) o _ _ (F.out.cx.get 1 rfl)
  have HEA:Hid (endAt wr (gk+1+1)=e):=endAt_eq (F.out.cx.get 0 rfl)
  by_cases hlt:e<s.size
  ·have hlt':(e:Int)<(s.size:Int):=by omega
   have HRR:=hideK (readRecord_any s e wr hs (HHW.out _ F.out.cx.low))
   go_wp2_with fail
   refine HRR.out.mono ?_
   rintro e' w1 ⟨hro,hb⟩
   have F1:=hideK (F.out.call hb)
   clear hb HRR k0 k1 k2 k3 k4 k5 k6 r0 r1 r2 r3 r4 r5 r6 l0 l1 l2 l3 l4 fr
   rcases hro with⟨x,xv,hx,rfl,hp⟩|⟨hx,n,rfl⟩
   ·obtain⟨ap,cp,rfl,_,_⟩:=hp.strs
    have hfx:=recR_facts hx
    have HX:=hideK hx
    have F2:=hideK (F1.out.new (.cells #[.int .i64 x.1.1,.string x.1.2.1,.slice ap x.1.2.2.length cp] 129))
    have P2:=hideK ((hp.mono F.out.cx.low.size).keeps (KeepsS.below ((Below.refl _ w1).alloc (Nat.le_refl _) (.cells #[.int .i64 x.1.1,.string x.1.2.1,.slice ap x.1.2.2.length cp] 129))))
    have X2:Hid ((w1.alloc (.cells #[.int .i64 x.1.1,.string x.1.2.1,.slice ap x.1.2.2.length cp] 129)).heap[w1.heap.size]? = some (.cells #[.int .i64 x.1.1,.string x.1.2.1,.slice ap x.1.2.2.length cp] 129 (0,0))):=heap_alloc_new w1 _
    clear hp hx F1 F
    obtain⟨⟨xi,xt,xp⟩,xe⟩:=x
    dsimp only at F2 P2 X2 HX hfx ⊢
    go_upto_region 4 with fail
    generalize w1.alloc (.cells #[.int .i64 xi,.string xt,.slice ap xp.length cp] 129)=W2 at F2 P2 X2 ⊢
    generalize w1.heap.size=gx at X2 ⊢
    obtain⟨x0,x1,x2⟩:=cells3 X2.out
    obtain⟨l0,l1,l2,l3,l4⟩:=k_cells (F2.out.cx.get 2 rfl)
    have HFX:=hideK (HF.out W2 ((xi,xt,xp),.slice ap xp.length cp) F2.out.cx.low hfx.2.2.2.2 (Nat.le_trans hfx.2.2.2.1 (by decide)) P2.out.strs)
    unfold lV at HFX
    dsimp only at HFX
    cases hfit:fit (xi,xt,xp) with
    |false =>
     rw[hfit]at HFX
     have HBD:Hid (goR fit s (s.size-e) (recs m) e=(recs m,e)):=goR_bad HX.out (fun h=>by have:=h.1;rw[hfit]at this;cases this)
     clear hfit
     go_wp2_with fail
     refine HFX.out.mono ?_
     rintro e3 w3 ⟨rfl,hb⟩
     have F3:=hideK (F2.out.call hb)
     clear hb F2 HFX x0 x1 x2 l0 l1 l2 l3 l4
     obtain⟨k0,k1,k2,k3,k4,k5,k6⟩:=wk_cells (F3.out.cx.get 0 rfl)
     obtain⟨r0,r1,r2,r3,r4,r5,r6⟩:=cells7 (F3.out.cx.get 1 rfl)
     have fr:=fun o=>frozen_of_row w3 (gk+1) o _ _ (F3.out.cx.get 1 rfl)
     have s7:=cells7 (set7 (F3.out.cx.get 1 rfl) (.slice a0 m.length cap0) (.int .i64 e) (.int .i64 z) (.int .i64 b) (.string r) (.string s) (.int .i64 y))
     have HD:=hideK (F3.out.done (HBD.out) (by have:=HGK.out;omega) _ _ _ _ _ _ _ rfl rfl rfl rfl rfl rfl rfl)
     go_wp2_with fail
     exact bodyPost_ret (v:=.agg #[.slice a0 m.length cap0,.int .i64 e,.int .i64 z,.int .i64 b,.string r,.string s,.int .i64 y]) (by simp[results,Tryz.results65,go_sem,s7.1,s7.2.1,s7.2.2.1,s7.2.2.2.1,s7.2.2.2.2.1,s7.2.2.2.2.2.1,s7.2.2.2.2.2.2]) rfl HD.out
    |true =>
     rw[hfit]at HFX
     go_wp2_with fail
     refine HFX.out.mono ?_
     rintro e3 w3 ⟨rfl,hb⟩
     have F3:=hideK (F2.out.call hb)
     have P3:=hideK (P2.out.keeps (KeepsS.below hb))
     have X3:=hideK (Ls.blkL X2.out hb)
     clear hb F2 HFX x0 x1 x2 l0 l1 l2 l3 l4 P2 X2
     obtain⟨x0,x1,x2⟩:=cells3 X3.out
     have HHS:=hideK (has_any (gk+1+1) w.heap.size m.length xi _ m w3 (wk_cells (F3.out.cx.get 0 rfl)).1 (lt_rowK (F3.out.cx.get 0 rfl)) F3.out.row F3.out.ps.slices rfl (by have:=F3.out.ml;have:=F3.out.el;omega))
     cases hhas:hasR (recs m) xi with
     |true =>
      rw[hhas]at HHS
      have HBD:Hid (goR fit s (s.size-e) (recs m) e=(recs m,e)):=goR_bad HX.out (fun h=>by have:=h.2;rw[hhas]at this;cases this)
      clear hhas hfit
      go_wp2_with fail
      refine HHS.out.mono ?_
      rintro e4 w4 ⟨rfl,hb⟩
      have F4:=hideK (F3.out.call hb)
      clear hb F3 HHS x0 x1 x2
      obtain⟨k0,k1,k2,k3,k4,k5,k6⟩:=wk_cells (F4.out.cx.get 0 rfl)
      obtain⟨r0,r1,r2,r3,r4,r5,r6⟩:=cells7 (F4.out.cx.get 1 rfl)
      have fr:=fun o=>frozen_of_row w4 (gk+1) o _ _ (F4.out.cx.get 1 rfl)
      have s7:=cells7 (set7 (F4.out.cx.get 1 rfl) (.slice a0 m.length cap0) (.int .i64 e) (.int .i64 z) (.int .i64 b) (.string r) (.string s) (.int .i64 y))
      have HD:=hideK (F4.out.done (HBD.out) (by have:=HGK.out;omega) _ _ _ _ _ _ _ rfl rfl rfl rfl rfl rfl rfl)
      go_wp2_with fail
      exact bodyPost_ret (v:=.agg #[.slice a0 m.length cap0,.int .i64 e,.int .i64 z,.int .i64 b,.string r,.string s,.int .i64 y]) (by simp[results,Tryz.results65,go_sem,s7.1,s7.2.1,s7.2.2.1,s7.2.2.2.1,s7.2.2.2.2.1,s7.2.2.2.2.2.1,s7.2.2.2.2.2.2]) rfl HD.out
     |false =>
      rw[hhas]at HHS
      have FP:=hideK (fun (wa wb:World) (va:Value) (F:Far fit z b r s y gk (gk+1) (gk+1+1) w wa (.slice a0 m.length cap0) m e)=>F.put (w':=wb) (v':=va) (x:=((xi,xt,xp),xe)) (xv:=.slice ap xp.length cp) HX.out hfit hhas (by have:=HGK.out;omega) (by omega) (by omega))
      clear hhas hfit
      go_wp2_with fail
      refine HHS.out.mono ?_
      rintro e4 w4 ⟨rfl,hb⟩
      have F4:=hideK (F3.out.call hb)
      have P4:=hideK (P3.out.keeps (KeepsS.below hb))
      have X4:=hideK (Ls.blkL X3.out hb)
      clear hb F3 HHS x0 x1 x2 P3 X3
      obtain⟨x0,x1,x2⟩:=cells3 X4.out
      have HPU:=hideK (put_any (gk+1+1) w.heap.size m.length ((xi,xt,xp),.slice ap xp.length cp) xe e z b r s y _ m w4 (F4.out.cx.get 0 rfl) F4.out.row F4.out.cx.low.size rfl (by have:=F4.out.ml;have:=F4.out.el;omega) ⟨_,_,_,rfl⟩)
      dsimp only at HPU
      go_wp2_with fail
      refine HPU.out.mono ?_
      rintro e5 w5 ⟨rfl,v',h1,h2,h3,h4,h5⟩
      have F5:=hideK (FP.out w4 w5 v' F4.out P4.out h1 h2 h3 h4 h5)
      clear h1 h2 h3 h4 h5 HPU F4 P4 X4 FP x0 x1 x2
      have HE5:Hid (endAt w5 (gk+1+1)=xe):=endAt_eq (F5.out.cx.get 0 rfl)
      go_wp2_with fail
      go_roundw
      case rel=>exact⟨_,_,_,F5.out⟩
      case measure=>rw[HE5.out,HEA.out];omega
   ·have HBD:Hid (goR fit s (s.size-e) (recs m) e=(recs m,e)):=goR_none hx
    have F2:=hideK (F1.out.new (.cells #[.int .i64 0,.string ⟨#[]⟩,.slice none 0 0] 129))
    clear hx F1 F
    go_upto_region 4 with fail
    generalize w1.alloc (.cells #[.int .i64 0,.string ⟨#[]⟩,.slice none 0 0] 129)=W2 at F2 ⊢
    obtain⟨k0,k1,k2,k3,k4,k5,k6⟩:=wk_cells (F2.out.cx.get 0 rfl)
    obtain⟨r0,r1,r2,r3,r4,r5,r6⟩:=cells7 (F2.out.cx.get 1 rfl)
    have fr:=fun o=>frozen_of_row W2 (gk+1) o _ _ (F2.out.cx.get 1 rfl)
    have s7:=cells7 (set7 (F2.out.cx.get 1 rfl) (.slice a0 m.length cap0) (.int .i64 e) (.int .i64 z) (.int .i64 b) (.string r) (.string s) (.int .i64 y))
    have HD:=hideK (F2.out.done (HBD.out) (by have:=HGK.out;omega) _ _ _ _ _ _ _ rfl rfl rfl rfl rfl rfl rfl)
    go_wp2_with fail
    exact bodyPost_ret (v:=.agg #[.slice a0 m.length cap0,.int .i64 e,.int .i64 z,.int .i64 b,.string r,.string s,.int .i64 y]) (by simp[results,Tryz.results65,go_sem,s7.1,s7.2.1,s7.2.2.1,s7.2.2.2.1,s7.2.2.2.2.1,s7.2.2.2.2.2.1,s7.2.2.2.2.2.2]) rfl HD.out
  ·have hlt':decide ((e:Int)<(s.size:Int))=false:=by simp;omega
   have HBD:Hid (goR fit s (s.size-e) (recs m) e=(recs m,e)):=goR_end (by omega)
   have hlt2:¬((e:Int)<(s.size:Int)):=by omega
   obtain⟨k0,k1,k2,k3,k4,k5,k6⟩:=wk_cells (F.out.cx.get 0 rfl)
   obtain⟨r0,r1,r2,r3,r4,r5,r6⟩:=cells7 (F.out.cx.get 1 rfl)
   have fr:=fun o=>frozen_of_row wr (gk+1) o _ _ (F.out.cx.get 1 rfl)
   have s7:=cells7 (set7 (F.out.cx.get 1 rfl) (.slice a0 m.length cap0) (.int .i64 e) (.int .i64 z) (.int .i64 b) (.string r) (.string s) (.int .i64 y))
   have HD:=hideK (F.out.done (HBD.out) (by have:=HGK.out;omega) _ _ _ _ _ _ _ rfl rfl rfl rfl rfl rfl rfl)
   go_wp2_with fail
   exact bodyPost_ret (v:=.agg #[.slice a0 m.length cap0,.int .i64 e,.int .i64 z,.int .i64 b,.string r,.string s,.int .i64 y]) (by simp[results,Tryz.results65,go_sem,s7.1,s7.2.1,s7.2.2.1,s7.2.2.2.1,s7.2.2.2.2.1,s7.2.2.2.2.2.1,s7.2.2.2.2.2.2]) rfl HD.out
end Go.Proofs.YtpddanmnlkcdpaaGreatDoor.Kp


namespace Go.Proofs.YtpddanmnlkcdpaaGreatDoor.Kp
open Go.RowKit
open Ls (rightB right_impl lV lowL blkL)
def mayB (z b:Int) (r s:ByteArray):Bool:=rightB z b r && decide (s.size<=8000)
def atB (z b:Int) (r s:ByteArray) (y:Int) (e:Nat):Bool:=mayB z b r s && decide (e=s.size) && spanB s y
def keepB (fit:Rec->Bool) (z b:Int) (r s:ByteArray) (y:Int):Bool:=atB z b r s y (allR fit s).2
theorem mayOpen_any (z b:Int) (r s:ByteArray) (y:Int) (w:World) :
  Calls Tryz.prog 109 #[kV z b r s y] w fun e w'=>e=.returned (.bool (mayB z b r s))/\Below w.heap.size w w':=by
 have HR:=hideK (fun W=>right_impl z b r W)
 have C0:=hideK ((Cx.nil w).new (kB z b r s y))
 unfold kV
 unfold kB at C0
 unfold lV at HR
 cases hr:rightB z b r with
 |false =>
  have HM:Hid (mayB z b r s=false):=by unfold Hid mayB;rw[hr];rfl
  rw[HM.out]
  rw[hr]at HR
  clear hr HM
  go_enter Tryz.func109,Tryz.ntmps109
  go_wp2_with fail
  refine(HR.out _).mono ?_
  rintro e w1 ⟨rfl,hb⟩
  have C1:=hideK (C0.out.call hb)
  obtain⟨l0,l1,l2,l3,l4⟩:=k_cells (C1.out.get 0 rfl)
  clear hb C0
  go_wp2_with fail
  go_ret
  exact⟨rfl,C1.out.low⟩
 |true =>
  have HM:Hid (mayB z b r s=decide (((s.size:Nat):Int)<=8000)):=by unfold Hid mayB;rw[hr,Bool.true_and,decide_eq_decide];omega
  rw[HM.out]
  rw[hr]at HR
  clear hr HM
  go_enter Tryz.func109,Tryz.ntmps109
  go_wp2_with fail
  refine(HR.out _).mono ?_
  rintro e w1 ⟨rfl,hb⟩
  have C1:=hideK (C0.out.call hb)
  obtain⟨l0,l1,l2,l3,l4⟩:=k_cells (C1.out.get 0 rfl)
  clear hb C0
  go_wp2_with fail
  go_ret
  exact⟨rfl,C1.out.low⟩
theorem mixedK:Tryz.prog.follows .mixedOrders=true:=by kernel_rfl
theorem right_run (g:Nat) (v:Value) (e:Nat) (z b:Int) (r s:ByteArray) (y:Int) (w:World) (A B Q:Bool) (hg:w.heap[g]? = some (wkB v e z b r s y)) (hA:mayB z b r s=A) (hB:((e:Int)==(s.size:Int))=B) (hQ:(A && B && spanB s y)=Q) :
  Calls Tryz.prog 66 #[.pointer (some ⟨g,0,none⟩)] w fun q w'=>q=.returned (.bool Q)/\Below w.heap.size w w':=by
 have HM:=hideK (fun W=>mayOpen_any z b r s y W)
 have HS:=hideK (fun W=>synced_any z b r s y W)
 obtain⟨c0,c1,c2,c3,c4,c5,c6⟩:=wk_cells hg
 unfold kV at HM HS
 rw[hA]at HM
 clear hA hg
 have g1:=fun d os=>cell_regrown c1 d os
 have g2:=fun d os=>cell_regrown c2 d os
 have g3:=fun d os=>cell_regrown c3 d os
 have g4:=fun d os=>cell_regrown c4 d os
 have g5:=fun d os=>cell_regrown c5 d os
 have g6:=fun d os=>cell_regrown c6 d os
 have hmx:=mixedK
 cases A with
 |false =>
  have HQ:Hid (Q=false):=by unfold Hid;rw[<-hQ];rfl
  clear hQ hB
  go_enter Tryz.func66,Tryz.ntmps66
  go_upto_region 1 with fail
  refine wp_region_quiet_below (by assumption) (by kernel_rfl) ?_
  repeat (go_big_quiet_step ((go_at_call 109;exact Calls.regrown_of (HM.out _))))
  refine wpQuiet_nil ?_
  intro _ hw'
  obtain⟨⟨dq,osq⟩,hw''⟩:=hw'
  subst hw''
  have K1:=hideK (below_regrown w dq osq)
  generalize Go.Sort.grow (redrawn w dq) osq=w8 at K1 ⊢
  clear g1 g2 g3 g4 g5 g6 c1 c2 c3 c4 c5 c6
  go_wp2_with fail
  go_ret
  exact⟨by rw[HQ.out];rfl,K1.out⟩
 |true =>
  cases B with
  |false =>
   have HQ:Hid (Q=false):=by unfold Hid;rw[<-hQ];rfl
   have hB2:¬(e:Int)=(s.size:Int):=by simpa using hB
   clear hQ
   go_enter Tryz.func66,Tryz.ntmps66
   go_upto_region 1 with fail
   refine wp_region_quiet_below (by assumption) (by kernel_rfl) ?_
   repeat (go_big_quiet_step ((go_at_call 109;exact Calls.regrown_of (HM.out _))))
   refine wpQuiet_nil ?_
   intro _ hw'
   obtain⟨⟨dq,osq⟩,hw''⟩:=hw'
   subst hw''
   have K1:=hideK (below_regrown w dq osq)
   generalize Go.Sort.grow (redrawn w dq) osq=w8 at K1 ⊢
   clear g1 g2 g3 g4 g5 g6 c1 c2 c3 c4 c5 c6
   go_wp2_with fail
   go_ret
   exact⟨by rw[HQ.out];rfl,K1.out⟩
  |true =>
   have HQ:Hid (Q=spanB s y):=by unfold Hid;rw[<-hQ];rfl
   clear hQ
   generalize spanB s y=S at HS HQ
   go_enter Tryz.func66,Tryz.ntmps66
   go_upto_region 1 with fail
   refine wp_region_quiet_below (by assumption) (by kernel_rfl) ?_
   repeat (go_big_quiet_step ((first|(go_at_call 109;exact Calls.regrown_of (HM.out _))|(go_at_call 110;exact Calls.regrown_of (HS.out _)))))
   refine wpQuiet_nil ?_
   intro _ hw'
   obtain⟨⟨dq,osq⟩,hw''⟩:=hw'
   subst hw''
   have K1:=hideK (below_regrown w dq osq)
   generalize Go.Sort.grow (redrawn w dq) osq=w8 at K1 ⊢
   clear g1 g2 g3 g4 g5 g6 c1 c2 c3 c4 c5 c6
   go_wp2_with fail
   go_ret
   exact⟨by rw[HQ.out];rfl,K1.out⟩
theorem right_any (g:Nat) (v:Value) (e:Nat) (z b:Int) (r s:ByteArray) (y:Int) (w:World) (hg:w.heap[g]? = some (wkB v e z b r s y)) :
  Calls Tryz.prog 66 #[.pointer (some ⟨g,0,none⟩)] w fun q w'=>q=.returned (.bool (atB z b r s y e))/\Below w.heap.size w w' :=
 right_run g v e z b r s y w _ _ _ hg rfl rfl (by
  unfold atB
  congr 2
  by_cases h:e=s.size
  ·rw[decide_eq_true h,h];simp
  ·rw[decide_eq_false h];simp;omega)
end Go.Proofs.YtpddanmnlkcdpaaGreatDoor.Kp


namespace Go.Proofs.YtpddanmnlkcdpaaGreatDoor.Pe
open Go.RowKit
open Kp
open Ls (lowL)
def Small (m:List MO):Prop:=∀ x∈m,x.1.has.length<=1048576/\x.1.name.size<=maxLen
theorem others_impl (a:Option Addr) (n cap:Nat) (m:List MO) (c:Int) (w:World) (h:Oths w w.heap.size a m) (hm:m.length=n) (hn:n<=1048576) (hsm:Small m) :
  Calls Tryz.prog 67 #[.slice a n cap,.int .i64 c] w fun e w'=>e=.returned (.bool (othsB (oths m) c))/\Below w.heap.size w w':=by
 have HS:=hideK h
 have HM:=hideK hm
 have HSM:=hideK hsm
 have HLONG:Hid (4<n->othsB (oths m) c=false):=fun h=>othsB_long (by rw[oths_length,HM.out];exact h)
 have HYE:Hid (n<=4->OthsTo (oths m) c n->othsB (oths m) c=true):=fun h1 h2=>othsB_yes (by rw[oths_length,HM.out];exact h1) (by rw[oths_length,HM.out];exact h2)
 have HNO1:Hid (∀ j (hj:j<m.length),othB m[j].1 c=false->othsB (oths m) c=false):=fun j hj h=>othsB_no (fun hh=>by
  have:=(hh j (by rw[oths_length];exact hj) (by rw[oths_length];exact hj)).1
  rw[oths_get m j hj,h]at this
  cases this)
 have HNO2:Hid (∀ j (hj:j+1<m.length),ltN (m[j]'(Nat.lt_of_succ_lt hj)).1.name m[j+1].1.name=false->othsB (oths m) c=false):=fun j hj h=>othsB_no (fun hh=>by
  have:=(hh (j+1) (by rw[oths_length];exact hj) (by rw[oths_length];exact hj)).2 j (by rw[oths_length];omega) rfl
  rw[oths_get m j (by omega),oths_get m (j+1) hj,h]at this
  cases this)
 have hmx:=mixedK
 clear h hm hsm
 generalize othsB (oths m) c=R at HLONG HYE HNO1 HNO2 ⊢
 by_cases h4:4<n
 ·have h4':(4:Int)<(n:Int):=by omega
  have HE:=hideK (HLONG.out h4)
  go_enter Tryz.func67,Tryz.ntmps67
  go_wp2_with fail
  go_ret
  exact⟨ret_boolP HE.out.symm,Below.refl _ _⟩
 ·have h4':¬(4:Int)<(n:Int):=by omega
  go_enter Tryz.func67,Tryz.ntmps67
  go_wp2_with fail
  go_loopw [12] (fun jv wr=>∃ j:Nat,jv=.int .i64 j/\j<=n/\OthsTo (oths m) c j/\Below w.heap.size w wr) (fun jv _=>n-(intOf jv).toNat)
  case atStart=>exact⟨0,rfl,Nat.zero_le _,oths_zero _ _,Below.refl _ _⟩
  case round =>
   obtain⟨j,rfl,hj,hr,hbel⟩:=hrel
   have HR:=hideK hr
   have GB:=hideK hbel
   clear hr hbel
   by_cases hlt:j<n
   ·have hlt':(j:Int)<(n:Int):=by omega
    have hjl:j<m.length:=by rw[HM.out];exact hlt
    obtain⟨b,off,rfl,hb,hc⟩:=HS.out.some (by omega)
    have F1:=hideK ((hc j hjl).below GB.out hb)
    have HA:=hideK (HS.out.2 m[j] (List.getElem_mem hjl))
    have HSX:=hideK (HSM.out m[j] (List.getElem_mem hjl))
    have HB1:=hideK (HNO1.out j hjl)
    have HST:Hid (othB m[j].1 c=true->(∀ i (hi:i<m.length),i+1=j->ltN m[i].1.name m[j].1.name=true)->OthsTo (oths m) c (j+1)):=fun h1 h2=>oths_step (by rw[oths_length];exact hjl) HR.out (by rw[oths_get m j hjl];exact h1) (fun i hi hij=>by rw[oths_length]at hi;rw[oths_get m i hi,oths_get m j hjl];exact h2 i hi hij)
    have HPR:Hid (∀ j' (_:j=j' + 1),∃ nm':ByteArray,wr.cell? ⟨b,off+j' * 5,none⟩=some (.string nm')/\(ltN nm' m[j].1.name=false->R=false)/\(ltN nm' m[j].1.name=true->∀ i (hi:i<m.length),i+1=j->ltN m[i].1.name m[j].1.name=true)):=fun j' e=>by
     subst e
     refine⟨(m[j']'(by omega)).1.name,((hc j' (by omega)).below GB.out hb).1,fun h=>HNO2.out j' hjl h,fun h i hi hij=>?_⟩
     obtain rfl:i=j':=by omega
     exact h
    have HHA:=hideK (fun W (hW:Below w.heap.size w W)=>other_any m[j] c W ((HA.out.below hW).mono hW.size) HSX.out.1 HSX.out.2)
    obtain⟨ax,cx,hxv,_,_,_⟩:=HA.out
    unfold othV at HHA
    obtain⟨d0,d1,d2,d3,d4⟩:=F1.out
    rw[hxv]at d1 HHA
    generalize othB m[j].1 c=Q at HB1 HST HHA
    generalize m[j].1.name=nm at d0 HPR HHA HST
    generalize m[j].1.has.length=k at d1 HHA
    generalize m[j].1.asked=q at d2 HHA
    generalize m[j].1.age=g at d3 HHA
    generalize m[j].1.strikes=t at d4 HHA
    clear hc hxv HA HSX F1
    have C1:=hideK (Cx.new (l:=[]) ⟨GB.out,fun _ h=>absurd h List.not_mem_nil⟩ (.cells #[.string nm,.slice ax k cx,.int .i64 q,.int .i64 g,.int .i64 t] 86))
    have hbz:b<wr.heap.size:=Nat.lt_of_lt_of_le hb GB.out.size
    have BA:Hid (Below wr.heap.size wr (wr.alloc (.cells #[.string nm,.slice ax k cx,.int .i64 q,.int .i64 g,.int .i64 t] 86))):=(Below.refl _ _).alloc (Nat.le_refl _) _
    go_upto_region 6 with fail
    generalize wr.alloc (.cells #[.string nm,.slice ax k cx,.int .i64 q,.int .i64 g,.int .i64 t] 86)=W1 at C1 BA ⊢
    have HPR2:Hid (∀ j' (_:j=j' + 1),∃ nm':ByteArray,W1.cell? ⟨b,off+j' * 5,none⟩=some (.string nm')/\(ltN nm' nm=false->R=false)/\(ltN nm' nm=true->∀ i (hi:i<m.length),i+1=j->ltN m[i].1.name nm=true)):=fun j' e=>by
     obtain⟨nm',h1,h2⟩:=HPR.out j' e
     exact⟨nm',(BA.out.cell (p:=⟨b,off+j' * 5,none⟩) hbz).trans h1,h2⟩
    generalize wr.heap.size=g1 at C1 ⊢
    obtain⟨q0,q1,q2,q3,q4⟩:=cells5 (C1.out.get 0 rfl)
    have r0:=fun d os=>cell_regrown q0 d os
    have r1:=fun d os=>cell_regrown q1 d os
    have r2:=fun d os=>cell_regrown q2 d os
    have r3:=fun d os=>cell_regrown q3 d os
    have r4:=fun d os=>cell_regrown q4 d os
    clear d0 d1 d2 d3 d4 HPR BA hbz
    cases Q with
    |false =>
     have HE:=hideK (HB1.out rfl)
     refine wp_region_quiet_below (by assumption) (by kernel_rfl) ?_
     repeat (go_big_quiet_step ((go_at_call 111;exact Calls.regrown_of (HHA.out _ (lowL C1.out.low (below_regrown _ _ _))))))
     refine wpQuiet_nil ?_
     intro _ hw'
     obtain⟨⟨dq,osq⟩,hw''⟩:=hw'
     subst hw''
     have K1:=hideK (lowL C1.out.low (below_regrown W1 dq osq))
     generalize Go.Sort.grow (redrawn W1 dq) osq=w8 at K1 ⊢
     clear r0 r1 r2 r3 r4 q0 q1 q2 q3 q4
     go_wp2_with fail
     go_ret
     exact⟨ret_boolP HE.out.symm,K1.out⟩
    |true =>
     rcases Nat.eq_zero_or_pos j with h0|h0
     ·subst h0
      have HNX:=hideK (HST.out rfl (fun i hi e=>by omega))
      have hd:decide ((0:Int)<((0:Nat):Int))=false:=by simp
      refine wp_region_quiet_below (by assumption) (by kernel_rfl) ?_
      repeat (go_big_quiet_step ((go_at_call 111;exact Calls.regrown_of (HHA.out _ (lowL C1.out.low (below_regrown _ _ _))))))
      refine wpQuiet_nil ?_
      intro _ hw'
      obtain⟨⟨dq,osq⟩,hw''⟩:=hw'
      subst hw''
      have K1:=hideK (lowL C1.out.low (below_regrown W1 dq osq))
      generalize Go.Sort.grow (redrawn W1 dq) osq=w8 at K1 ⊢
      clear r0 r1 r2 r3 r4 q0 q1 q2 q3 q4
      go_wp2_with fail
      go_roundw
      case rel=>exact⟨1,by go_num,by omega,HNX.out,K1.out⟩
      case measure=>simp[intOf];omega
     ·obtain⟨j',rfl⟩:∃ j',j=j' + 1:=⟨j-1,by omega⟩
      obtain⟨nm',hcn,hbad,hgood⟩:=HPR2.out j' rfl
      have r5:=fun d os=>cell_regrown hcn d os
      have hd:decide ((0:Int)<((j' + 1:Nat):Int))=true:=decide_eq_true (by omega)
      have hj3:(j':Int)<(n:Int):=by omega
      unfold ltN at hbad hgood
      cases hL:Op.bytesLess nm'.toList nm.toList with
      |false =>
       have HE:=hideK (hbad hL)
       clear hbad hgood HB1
       refine wp_region_quiet_below (by assumption) (by kernel_rfl) ?_
       repeat (go_big_quiet_step ((go_at_call 111;exact Calls.regrown_of (HHA.out _ (lowL C1.out.low (below_regrown _ _ _))))))
       refine wpQuiet_nil ?_
       intro _ hw'
       obtain⟨⟨dq,osq⟩,hw''⟩:=hw'
       subst hw''
       have K1:=hideK (lowL C1.out.low (below_regrown W1 dq osq))
       generalize Go.Sort.grow (redrawn W1 dq) osq=w8 at K1 ⊢
       clear r0 r1 r2 r3 r4 q0 q1 q2 q3 q4 r5 hcn
       go_wp2_with fail
       go_ret
       exact⟨ret_boolP HE.out.symm,K1.out⟩
      |true =>
       have HNX:=hideK (HST.out rfl (hgood hL))
       clear hbad hgood HB1
       refine wp_region_quiet_below (by assumption) (by kernel_rfl) ?_
       repeat (go_big_quiet_step ((go_at_call 111;exact Calls.regrown_of (HHA.out _ (lowL C1.out.low (below_regrown _ _ _))))))
       refine wpQuiet_nil ?_
       intro _ hw'
       obtain⟨⟨dq,osq⟩,hw''⟩:=hw'
       subst hw''
       have K1:=hideK (lowL C1.out.low (below_regrown W1 dq osq))
       generalize Go.Sort.grow (redrawn W1 dq) osq=w8 at K1 ⊢
       clear r0 r1 r2 r3 r4 q0 q1 q2 q3 q4 r5 hcn
       go_wp2_with fail
       go_roundw
       case rel=>exact⟨j' + 1+1,by go_num,by omega,HNX.out,K1.out⟩
       case measure=>simp[intOf];omega
   ·have HE:=hideK (HYE.out (by omega) (by have:=HR.out;rwa[show j=n by omega]at this))
    go_wp2_with fail
    go_ret
    exact⟨ret_boolP HE.out.symm,GB.out⟩
end Go.Proofs.YtpddanmnlkcdpaaGreatDoor.Pe

