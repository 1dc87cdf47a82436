import Derived.Test.YtbdcffjcogglbaaGreatDoorOz41
import Derived.Test.YtbdcffjcogglbaaGreatDoorOz48
import Derived.Test.YtbdcffjcogglbaaGreatDoorOz43
import Derived.Test.YtbdcffjcogglbaaGreatDoorOz38
set_option maxRecDepth 100000
set_option maxHeartbeats 8000000
namespace Go.Proofs.YtbdcffjcogglbaaGreatDoor
open Go.RowKit
open Go.Proofs.Tryz
namespace Pk
open St (OwnS IsS Strs one_newS one_cellS app_one)
open Bk (blocksR blocksR_length fine_any fineB blks cnt cnt_le l06Blocks_any own_noneS)
theorem l06Pieces_any (s:ByteArray) (k:Nat) (w:World) (hf:fineB s.size (k:Int)=true) :
  Calls prog 21 #[.string s,.int .i64 k] w fun e w'=>∃ v,e=.returned v/\OwnS w' w.heap.size v (piecesR s (k:Int))/\Below w.heap.size w w':=by
 obtain⟨i0,hif,hz0,hz1,hz2⟩:=info_parts St.Tryz.infoS9;have h:=of_decide_eq_true hf;have HR:Hid (blocksR s (k:Int)=blks s k (cnt s.size k)):=if_pos hf
 have HB:Hid (Calls prog 43 #[.string s,.int .i64 k] w fun e w'=>∃ v,e=.returned v/\OwnS w' w.heap.size v (blocksR s (k:Int))/\Below w.heap.size w w'):=by
  rw[HR.o];exact l06Blocks_any s k w h.1 (by omega) (by omega) ((cnt_le (by omega)).2 (by omega))
 have HL:=blocksR_length s (k:Int);have HSZ:=hideP (blocks_size s (k:Int));have HP:Hid (piecesR s (k:Int)=(blocksR s (k:Int)).map packB):=rfl;rw[HP.o];clear HP HR hf h;generalize blocksR s (k:Int)=l at HB HL HSZ ⊢;go_enter func21,ntmps21
 go_wp2_with fail
 refine HB.o.mono ?_;rintro e w1 ⟨v1,rfl,ho1,hb1⟩;obtain⟨a,cap,hv,_,hi1⟩:=ho1.strs;obtain⟨n,hn⟩:∃ n,n=l.length:=⟨_,rfl⟩;rw[<-hn]at hv HL;subst hv;have HN:=hideP hn;have S1:=hideP hi1;have B1:=hideP hb1;have hz1':=hb1.size;clear hn hi1 hb1 ho1
 go_wp2_with fail
 go_loopw [7,6] (fun iv tv wr=>∃ j:Nat,iv=.int .i64 j/\j<=n/\OwnS wr w1.heap.size tv ((l.take j).map packB)/\Below w1.heap.size w1 wr) (fun iv _ _=>n-(intOf iv).toNat)
 case atStart=>exact⟨0,rfl,Nat.zero_le _,own_noneS _,(Below.refl _ _).alloc nl _⟩
 case round =>
  obtain⟨j,rfl,hj,ho,hbw⟩:=hrel;have O:=hideP ho;have BW:=hideP hbw;have hzr:=hbw.size;clear ho hbw;by_cases hlt:j<n
  ·have hjl:j<l.length:=by rw[<-HN.o];exact hlt
   obtain⟨b,off,rfl,hb,hcl⟩:=strs_some (S1.o.below BW.o) (by omega);have ci:=hcl j hjl;have hx:=HSZ.o l[j] (List.getElem_mem hjl)
   have HNX:Hid ((l.take (j+1)).map packB=(l.take j).map packB++[packB l[j]]):=by
    unfold Hid;rw[List.take_add_one,List.getElem?_eq_getElem hjl,List.map_append];rfl
   have HLL:Hid (((l.take j).map packB).length=j):=by
    unfold Hid;rw[List.length_map,List.length_take];omega
   generalize (l.take j).map packB=q at O HNX HLL;generalize l[j]=x at ci hx HNX;have HP:=hideP (fun W=>pack_l06 x W hx);generalize packB x=px at HP HNX
   have hjn:(j:Int)<n:=by omega
   clear hcl hjl
   go_wp2_with fail
   refine(HP.o _).mono ?_;rintro e w3 ⟨rfl,hb3⟩;have O3:=hideP (O.o.below hb3);have B3:=hideP (BW.o.trans (hb3.mono hzr));have hz3:=B3.o.size;clear hb3
   go_wp2_with (at_builtin;refine wpList_append_own _ rfl (.tmp 18) (.tmp 24) 31 rfl w1.heap.size 9 i0 (.string ⟨#[]⟩) 1 16 underlying31 hif hz0 hz1 hz2 rfl (by decide) _ _ _ rfl (World.ownsRow.alloc O3.o _) ⟨w3.heap.size,0,none⟩ 1 1 [.string px] rfl rfl (one_newS w3 _ _) (one_cellS _) (by rw[HLL.o];unfold maxLen;omega) (by rw[HLL.o];omega) (by simp;omega) ?_)
   intro v4 w4 hown hgrow _
   have O4:Hid (OwnS w4 w1.heap.size v4 ((l.take (j+1)).map packB)):=by
    rw[HNX.o];exact OwnS.snoc hown
   have B4:=hideP (app_one B3.o hz3 nl O3.o hgrow);clear hown hgrow O3 O
   go_wp2_with fail
   go_roundw
   case rel=>exact⟨j+1,by go_num,by omega,O4.o,B4.o⟩
   case measure=>simp[intOf];omega
  ·obtain rfl:j=n:=by omega
   have OE:Hid (OwnS wr w1.heap.size u6 (l.map packB)):=by
    have:=O.o
    rw[List.take_of_length_le (by rw[<-HN.o];exact nl)]at this;exact this
   go_wp2_with fail
   go_ret;exact⟨_,rfl,OE.o.mono hz1',B1.o.trans (BW.o.mono hz1')⟩
theorem pieces_spec (s:ByteArray) (size:Int) (w:World) (hs:s.size<=1048576) :
  Calls prog 8 #[.string s,.int .i64 size] w fun e w'=>∃ v,e=.returned v/\OwnS w' w.heap.size v (piecesR s size)/\Below w.heap.size w w':=by
 have HFI:=hideP (fine_any s size w hs)
 cases hf:fineB s.size size with
 |false =>
  have HR:Hid (piecesR s size=[]):=by
   unfold Hid piecesR;rw[show blocksR s size=[] from if_neg (by rw[hf];decide)];rfl
  rw[hf]at HFI;go_enter func8,ntmps8
  go_wp2_with fail
  refine HFI.o.mono ?_;rintro e w1 ⟨rfl,hw⟩;subst w1
  go_wp2_with fail
  go_ret;exact⟨_,rfl,by rw[HR.o];exact own_noneS _,(Below.refl _ _).alloc nl _⟩
 |true =>
  have h:=of_decide_eq_true hf;obtain⟨k,rfl⟩:∃ k:Nat,size=k:=⟨size.toNat,by omega⟩;have HB:=hideP (l06Pieces_any s k w hf);rw[hf]at HFI;generalize piecesR s (k:Int)=R at HB ⊢;clear hf h;go_enter func8,ntmps8
  go_wp2_with fail
  refine HFI.o.mono ?_;rintro e w1 ⟨rfl,hw⟩;subst w1
  go_wp2_with fail
  refine HB.o.mono ?_;rintro e w2 ⟨v2,rfl,ho2,hb2⟩;have O2:=hideP ho2;have B2:=hideP hb2;clear ho2 hb2
  go_wp2_with fail
  go_ret;exact⟨_,rfl,O2.o,B2.o⟩
end Pk
namespace Kp
open Ls (HH hh_keep cells3 lV)
open St (Strs)
theorem set7 {W:World} {g:Nat} {x0 x1 x2 x3 x4 x5 x6:Value} {T:TypeId} (h:W.heap[g]? = some (.cells #[x0,x1,x2,x3,x4,x5,x6] T (0,0))) (a0 a1 a2 a3 a4 a5 a6:Value) :
  (((((((W.setCell ⟨g,0,none⟩ a0).setCell ⟨g,1,none⟩ a1).setCell ⟨g,2,none⟩ a2).setCell ⟨g,3,none⟩ a3).setCell ⟨g,4,none⟩ a4).setCell ⟨g,5,none⟩ a5).setCell ⟨g,6,none⟩ a6).heap[g]? = some (.cells #[a0,a1,a2,a3,a4,a5,a6] T (0,0)):=by
 have h0:(W.setCell ⟨g,0,none⟩ a0).heap[g]? = some (.cells #[a0,x1,x2,x3,x4,x5,x6] T (0,0)):=by rw[heap_setCell_same W g 0 _ T a0 h];rfl
 have h1:=heap_setCell_same _ g 1 _ T a1 h0;have h2:=heap_setCell_same _ g 2 _ T a2 h1;have h3:=heap_setCell_same _ g 3 _ T a3 h2;have h4:=heap_setCell_same _ g 4 _ T a4 h3;have h5:=heap_setCell_same _ g 5 _ T a5 h4;have h6:=heap_setCell_same _ g 6 _ T a6 h5;exact h6
theorem set7_keep {W:World} {g k:Nat} {o:Obj} (h:W.heap[k]? = some o) (hk:k≠g) (a0 a1 a2 a3 a4 a5 a6:Value) :
  (((((((W.setCell ⟨g,0,none⟩ a0).setCell ⟨g,1,none⟩ a1).setCell ⟨g,2,none⟩ a2).setCell ⟨g,3,none⟩ a3).setCell ⟨g,4,none⟩ a4).setCell ⟨g,5,none⟩ a5).setCell ⟨g,6,none⟩ a6).heap[k]? = some o:=by
 rw[heap_setCell_other _ _ k _ (by exact hk),heap_setCell_other _ _ k _ (by exact hk),heap_setCell_other _ _ k _ (by exact hk),heap_setCell_other _ _ k _ (by exact hk),heap_setCell_other _ _ k _ (by exact hk),heap_setCell_other _ _ k _ (by exact hk),heap_setCell_other _ _ k _ (by exact hk)];exact h
theorem set7_low {w0 W:World} {g:Nat} (h:Below w0.heap.size w0 W) (hg:w0.heap.size<=g) (a0 a1 a2 a3 a4 a5 a6:Value) :
  Below w0.heap.size w0 (((((((W.setCell ⟨g,0,none⟩ a0).setCell ⟨g,1,none⟩ a1).setCell ⟨g,2,none⟩ a2).setCell ⟨g,3,none⟩ a3).setCell ⟨g,4,none⟩ a4).setCell ⟨g,5,none⟩ a5).setCell ⟨g,6,none⟩ a6) :=
 ((((((h.setCell (p:=⟨g,0,none⟩) hg a0).setCell (p:=⟨g,1,none⟩) hg a1).setCell (p:=⟨g,2,none⟩) hg a2).setCell (p:=⟨g,3,none⟩) hg a3).setCell (p:=⟨g,4,none⟩) hg a4).setCell (p:=⟨g,5,none⟩) hg a5).setCell (p:=⟨g,6,none⟩) hg a6
theorem cells7 {W:World} {g:Nat} {x0 x1 x2 x3 x4 x5 x6:Value} {T:TypeId} (h:W.heap[g]? = some (.cells #[x0,x1,x2,x3,x4,x5,x6] T (0,0))):W.cell? ⟨g,0,none⟩=some x0/\W.cell? ⟨g,1,none⟩=some x1/\W.cell? ⟨g,2,none⟩=some x2/\W.cell? ⟨g,3,none⟩=some x3/\W.cell? ⟨g,4,none⟩=some x4/\W.cell? ⟨g,5,none⟩=some x5/\W.cell? ⟨g,6,none⟩=some x6 :=
 ⟨cell_of_row W g 0 _ _ _ h,cell_of_row W g 1 _ _ _ h,cell_of_row W g 2 _ _ _ h,cell_of_row W g 3 _ _ _ h,cell_of_row W g 4 _ _ _ h,cell_of_row W g 5 _ _ _ h,cell_of_row W g 6 _ _ _ h⟩
theorem OwnR.others {W W':World} {base g:Nat} {v:Value} {m:List MR} {cs:Array Value} {T:TypeId} (h:OwnR W base v m) (hg:W.heap[g]? = some (.cells cs T (0,0))) (hT:T≠58) (hk:∀ k o,W.heap[k]? = some o->k≠g->W'.heap[k]? = some o):OwnR W' base v m:=by
 obtain⟨hl,h⟩:=h;refine⟨hl,?_⟩
 rcases h with h|⟨k,cap,cur,hv,hkb,hb,rest⟩
 ·exact .inl h
 ·exact .inr ⟨k,cap,cur,hv,hkb,hk k _ hb (ty_ne hb hg (fun e=>hT e.symm)),rest⟩
theorem KeepsS.others {W W':World} {g:Nat} {cs:Array Value} {T:TypeId} (hg:W.heap[g]? = some (.cells cs T (0,0))) (hT:T≠9) (hk:∀ k o,W.heap[k]? = some o->k≠g->W'.heap[k]? = some o):KeepsS W W' :=
 fun k _ e=>hk k _ e (ty_ne e hg (fun e=>hT e.symm))
def OpenOut (fit:Rec->Bool) (z b:Int) (r s:ByteArray) (y:Int) (base:Nat) (e:Ending) (w':World):Prop :=
 ∃ v m,e=.returned (.agg #[v,.int .i64 (allR fit s).2,.int .i64 z,.int .i64 b,.string r,.string s,.int .i64 y])/\recs m=(allR fit s).1/\OwnR w' base v m/\Paths w' m
structure Far (fit:Rec->Bool) (z b:Int) (r s:ByteArray) (y:Int) (gk gr gw:Nat) (w wr:World) (v:Value) (m:List MR) (e:Nat):Prop where
 cx:Cx w wr [(gw,wkB v e z b r s y),(gr,.cells #[.slice none 0 0,.int .i64 0,.int .i64 0,.int .i64 0,.string ⟨#[]⟩,.string ⟨#[]⟩,.int .i64 0] 54),(gk,kB z b r s y)]
 all:goR fit s (s.size-e) (recs m) e=allR fit s
 row:OwnR wr w.heap.size v m
 ps:Paths wr m
 ml:m.length<=e
 el:e<=s.size
theorem Far.call {fit:Rec->Bool} {z b:Int} {r s:ByteArray} {y:Int} {gk gr gw:Nat} {w wr w':World} {v:Value} {m:List MR} {e:Nat} (h:Far fit z b r s y gk gr gw w wr v m e) (hb:Below wr.heap.size wr w'):Far fit z b r s y gk gr gw w w' v m e :=
 ⟨h.cx.call hb,h.all,h.row.below hb,h.ps.keeps (KeepsS.below hb),h.ml,h.el⟩
theorem Far.new {fit:Rec->Bool} {z b:Int} {r s:ByteArray} {y:Int} {gk gr gw:Nat} {w wr:World} {v:Value} {m:List MR} {e:Nat} (h:Far fit z b r s y gk gr gw w wr v m e) (o:Obj):Far fit z b r s y gk gr gw w (wr.alloc o) v m e:=h.call ((Below.refl _ _).alloc nl o)
theorem Paths.slices {W:World} {m:List MR} (h:Paths W m):∀ x∈m,∃ a n cap,x.2=.slice a n cap:=fun x hx=>by
 obtain⟨a,cap,hv,_⟩:=(h x hx).strs;exact⟨a,_,cap,hv⟩
theorem Far.put {fit:Rec->Bool} {z b:Int} {r s:ByteArray} {y:Int} {gk gr gw:Nat} {w wr w':World} {v v':Value} {m:List MR} {e:Nat} {x:Rec × Nat} {xv:Value} (h:Far fit z b r s y gk gr gw w wr v m e) (hx:recR s e=some x) (hf:fit x.1=true) (hh:hasR (recs m) x.1.1=false)
  (hgk:w.heap.size<=gw) (hne1:gr≠gw) (hne2:gk≠gw) (hp:PathIn wr xv x.1.2.2)
  (h1:w'.heap[gw]? = some (wkB v' x.2 z b r s y)) (h2:OwnR w' w.heap.size v' (m++[(x.1,xv)])) (h3:KeepsS wr w') (h4:∀ k o,wr.heap[k]? = some o->k≠gw->v.ownBlock≠some k->w'.heap[k]? = some o) (h5:∀ B,B<=w.heap.size->B<=gw->Below B wr w'):Far fit z b r s y gk gr gw w w' v' (m++[(x.1,xv)]) x.2:=by
 have hfx:=recR_facts hx;refine⟨⟨h.cx.low.trans (h5 _ nl hgk),?_⟩,?_,h2,?_,?_,hfx.2.1⟩
 ·intro q hq
  rcases List.mem_cons.1 hq with rfl|hq
  ·exact h1
  ·rcases List.mem_cons.1 hq with rfl|hq
   ·exact h4 _ _ (h.cx.get 1 rfl) hne1 (own_not h.row (h.cx.get 1 rfl) (by decide))
   ·rw[List.mem_singleton.1 hq]
    exact h4 _ _ (h.cx.get 2 rfl) hne2 (own_not h.row (h.cx.get 2 rfl) (by decide))
 ·rw[<-h.all,goR_step hx hf hh]
  unfold recs;rw[List.map_append];rfl
 ·intro q hq
  rcases List.mem_append.1 hq with hq|hq
  ·exact(h.ps q hq).keeps h3
  ·rw[List.mem_singleton.1 hq]
   exact hp.keeps h3
 ·rw[List.length_append]
  have:=h.ml
  simp;omega
theorem Far.done {fit:Rec->Bool} {z b:Int} {r s:ByteArray} {y:Int} {gk gr gw:Nat} {w wr:World} {v:Value} {m:List MR} {e:Nat} (h:Far fit z b r s y gk gr gw w wr v m e) (hd:goR fit s (s.size-e) (recs m) e=(recs m,e)) (hg:w.heap.size<=gr) (a0 a1 a2 a3 a4 a5 a6:Value) (h0:a0=v) (h1:a1=.int .i64 e) (h2:a2=.int .i64 z) (h3:a3=.int .i64 b) (h4:a4=.string r) (h5:a5=.string s) (h6:a6=.int .i64 y) :
  OpenOut fit z b r s y w.heap.size (.returned (.agg #[a0,a1,a2,a3,a4,a5,a6])) (((((((wr.setCell ⟨gr,0,none⟩ a0).setCell ⟨gr,1,none⟩ a1).setCell ⟨gr,2,none⟩ a2).setCell ⟨gr,3,none⟩ a3).setCell ⟨gr,4,none⟩ a4).setCell ⟨gr,5,none⟩ a5).setCell ⟨gr,6,none⟩ a6) /\
  Below w.heap.size w (((((((wr.setCell ⟨gr,0,none⟩ a0).setCell ⟨gr,1,none⟩ a1).setCell ⟨gr,2,none⟩ a2).setCell ⟨gr,3,none⟩ a3).setCell ⟨gr,4,none⟩ a4).setCell ⟨gr,5,none⟩ a5).setCell ⟨gr,6,none⟩ a6):=by
 subst h0 h1 h2 h3 h4 h5 h6
 have hall:allR fit s=(recs m,e):=by rw[<-h.all,hd]
 have hk:∀ k o,wr.heap[k]? = some o->k≠gr->_:=fun k o hk hne=>set7_keep (g:=gr) hk hne a0 (.int .i64 e) (.int .i64 z) (.int .i64 b) (.string r) (.string s) (.int .i64 y);refine⟨⟨a0,m,by rw[hall],by rw[hall],h.row.others (h.cx.get 1 rfl) (by decide) hk,h.ps.keeps (KeepsS.others (h.cx.get 1 rfl) (by decide) hk)⟩,set7_low h.cx.low hg _ _ _ _ _ _ _⟩
def endAt (W:World) (g:Nat):Nat:=match W.cell? ⟨g,1,none⟩ with
 |some (.int _ n)=>n.toNat
 |_=>0
theorem endAt_eq {W:World} {g:Nat} {v:Value} {e:Nat} {z b:Int} {r s:ByteArray} {y:Int} (h:W.heap[g]? = some (wkB v e z b r s y)):endAt W g=e:=by
 unfold endAt;rw[(wk_cells h).2.1];rfl
theorem openKeep_any (fit:Rec->Bool) (z b:Int) (r s:ByteArray) (y:Int) (w:World) (hs:s.size<=1048576) (hh:HH w)
  (hf:∀ (W:World) (x:MR),Below w.heap.size w W->x.1.2.1.size<=8000->x.1.2.2.length<=400->(∃ a cap,x.2=.slice a x.1.2.2.length cap/\x.1.2.2.length<=cap/\Strs W W.heap.size a x.1.2.2)->Calls prog 26 #[.agg #[.int .i64 x.1.1,.string x.1.2.1,x.2],lV z b r] W fun e w'=>e=.returned (.bool (fit x.1))/\Below W.heap.size W w') :
  Calls prog 24 #[kV z b r s y] w fun e w'=>OpenOut fit z b r s y w.heap.size e w'/\Below w.heap.size w w':=by
 have HHW:Hid (∀ W,Below w.heap.size w W->HH W):=fun W h=>hh_keep hh h;have HF:=hideK hf;have C0:=hideK ((((Cx.nil w).new (kB z b r s y)).new (.cells #[.slice none 0 0,.int .i64 0,.int .i64 0,.int .i64 0,.string ⟨#[]⟩,.string ⟨#[]⟩,.int .i64 0] 54)).new (wkB (.slice none 0 0) 0 z b r s y));simp only[World.size_alloc]at C0;unfold kB wkB at C0;unfold kV;clear hh hf;go_enter func24,ntmps24
 go_wp2_with fail
 generalize ((w.alloc (.cells #[.int .i64 z,.int .i64 b,.string r,.string s,.int .i64 y] 34)).alloc (.cells #[.slice none 0 0,.int .i64 0,.int .i64 0,.int .i64 0,.string ⟨#[]⟩,.string ⟨#[]⟩,.int .i64 0] 54)).alloc (.cells #[.slice none 0 0,.int .i64 0,.int .i64 z,.int .i64 b,.string r,.string s,.int .i64 y] 54)=W0 at C0 ⊢;obtain⟨gk,hgk⟩:∃ gk,gk=w.heap.size:=⟨_,rfl⟩;have F0:Hid (Far fit z b r s y gk (gk+1) (gk+1+1) w W0 (.slice none 0 0) [] 0):=⟨by rw[hgk];exact C0.o,rfl,OwnR.nil _ _,fun x hx=>absurd hx List.not_mem_nil,Nat.zero_le _,Nat.zero_le _⟩;have HGK:=hideK hgk;rw[<-hgk];clear C0 hgk
 go_loopw [4,5,6] (fun _ _ _ wr=>∃ v m e,Far fit z b r s y gk (gk+1) (gk+1+1) w wr v m e) (fun _ _ _ wr=>s.size-(endAt wr (gk+1+1)))
 case atStart=>exact⟨_,_,_,F0.o⟩
 case round =>
  obtain⟨v,m,e,hfar⟩:=hrel;have F:=hideK hfar;clear hfar F0;obtain⟨a0,cap0,hv⟩:=F.o.row.one;subst hv;obtain⟨k0,k1,k2,k3,k4,k5,k6⟩:=wk_cells (F.o.cx.get 0 rfl);obtain⟨r0,r1,r2,r3,r4,r5,r6⟩:=cells7 (F.o.cx.get 1 rfl);obtain⟨l0,l1,l2,l3,l4⟩:=k_cells (F.o.cx.get 2 rfl);have fr:=fun o=>frozen_of_row wr (gk+1) o _ _ (F.o.cx.get 1 rfl);have HEA:Hid (endAt wr (gk+1+1)=e):=endAt_eq (F.o.cx.get 0 rfl);by_cases hlt:e<s.size
  ·have hlt':(e:Int)<(s.size:Int):=by omega
   have HRR:=hideK (readRecord_any s e wr hs (HHW.o _ F.o.cx.low))
   go_wp2_with fail
   refine HRR.o.mono ?_;rintro e' w1 ⟨hro,hb⟩;have F1:=hideK (F.o.call hb);clear hb HRR k0 k1 k2 k3 k4 k5 k6 r0 r1 r2 r3 r4 r5 r6 l0 l1 l2 l3 l4 fr
   rcases hro with⟨x,xv,hx,rfl,hp⟩|⟨hx,n,rfl⟩
   ·obtain⟨ap,cp,rfl,_,_⟩:=hp.strs
    have hfx:=recR_facts hx;have HX:=hideK hx;have F2:=hideK (F1.o.new (.cells #[.int .i64 x.1.1,.string x.1.2.1,.slice ap x.1.2.2.length cp] 58));have P2:=hideK (hp.keeps (KeepsS.below ((Below.refl _ w1).alloc nl (.cells #[.int .i64 x.1.1,.string x.1.2.1,.slice ap x.1.2.2.length cp] 58))));have X2:Hid ((w1.alloc (.cells #[.int .i64 x.1.1,.string x.1.2.1,.slice ap x.1.2.2.length cp] 58)).heap[w1.heap.size]? = some (.cells #[.int .i64 x.1.1,.string x.1.2.1,.slice ap x.1.2.2.length cp] 58 (0,0))):=heap_alloc_new w1 _;clear hp hx F1 F;obtain⟨⟨xi,xt,xp⟩,xe⟩:=x;dsimp only at F2 P2 X2 HX hfx ⊢
    go_upto_region 4 with fail
    generalize w1.alloc (.cells #[.int .i64 xi,.string xt,.slice ap xp.length cp] 58)=W2 at F2 P2 X2 ⊢;generalize w1.heap.size=gx at X2 ⊢;obtain⟨x0,x1,x2⟩:=cells3 X2.o;obtain⟨l0,l1,l2,l3,l4⟩:=k_cells (F2.o.cx.get 2 rfl);have HFX:=hideK (HF.o W2 ((xi,xt,xp),.slice ap xp.length cp) F2.o.cx.low hfx.2.2.2.2 (Nat.le_trans hfx.2.2.2.1 (by decide)) P2.o.strs);unfold lV at HFX;dsimp only at HFX
    cases hfit:fit (xi,xt,xp) with
    |false =>
     rw[hfit]at HFX;have HBD:Hid (goR fit s (s.size-e) (recs m) e=(recs m,e)):=goR_bad HX.o (fun h=>by have:=h.1;rw[hfit]at this;cases this);clear hfit;(go_wp2_with fail);refine HFX.o.mono ?_;rintro e3 w3 ⟨rfl,hb⟩;have F3:=hideK (F2.o.call hb);clear hb F2 HFX x0 x1 x2 l0 l1 l2 l3 l4;obtain⟨k0,k1,k2,k3,k4,k5,k6⟩:=wk_cells (F3.o.cx.get 0 rfl);obtain⟨r0,r1,r2,r3,r4,r5,r6⟩:=cells7 (F3.o.cx.get 1 rfl);have fr:=fun o=>frozen_of_row w3 (gk+1) o _ _ (F3.o.cx.get 1 rfl);have s7:=cells7 (set7 (F3.o.cx.get 1 rfl) (.slice a0 m.length cap0) (.int .i64 e) (.int .i64 z) (.int .i64 b) (.string r) (.string s) (.int .i64 y));have HD:=hideK (F3.o.done (HBD.o) (by have:=HGK.o;omega) _ _ _ _ _ _ _ rfl rfl rfl rfl rfl rfl rfl);(go_wp2_with fail);exact bodyPost_ret (v:=.agg #[.slice a0 m.length cap0,.int .i64 e,.int .i64 z,.int .i64 b,.string r,.string s,.int .i64 y]) (by simp[results,results24,go_sem,s7.1,s7.2.1,s7.2.2.1,s7.2.2.2.1,s7.2.2.2.2.1,s7.2.2.2.2.2.1,s7.2.2.2.2.2.2]) rfl HD.o
    |true =>
     rw[hfit]at HFX;(go_wp2_with fail);refine HFX.o.mono ?_;rintro e3 w3 ⟨rfl,hb⟩;have F3:=hideK (F2.o.call hb);have P3:=hideK (P2.o.keeps (KeepsS.below hb));have X3:=hideK (Ls.blkL X2.o hb);clear hb F2 HFX x0 x1 x2 l0 l1 l2 l3 l4 P2 X2;obtain⟨x0,x1,x2⟩:=cells3 X3.o;have HHS:=hideK (has_any (gk+1+1) w.heap.size m.length xi _ m w3 (wk_cells (F3.o.cx.get 0 rfl)).1 (lt_rowK (F3.o.cx.get 0 rfl)) F3.o.row F3.o.ps.slices rfl (by have:=F3.o.ml;have:=F3.o.el;omega))
     cases hhas:hasR (recs m) xi with
     |true =>
      rw[hhas]at HHS;have HBD:Hid (goR fit s (s.size-e) (recs m) e=(recs m,e)):=goR_bad HX.o (fun h=>by have:=h.2;rw[hhas]at this;cases this);clear hhas hfit;(go_wp2_with fail);refine HHS.o.mono ?_;rintro e4 w4 ⟨rfl,hb⟩;have F4:=hideK (F3.o.call hb);clear hb F3 HHS x0 x1 x2;obtain⟨k0,k1,k2,k3,k4,k5,k6⟩:=wk_cells (F4.o.cx.get 0 rfl);obtain⟨r0,r1,r2,r3,r4,r5,r6⟩:=cells7 (F4.o.cx.get 1 rfl);have fr:=fun o=>frozen_of_row w4 (gk+1) o _ _ (F4.o.cx.get 1 rfl);have s7:=cells7 (set7 (F4.o.cx.get 1 rfl) (.slice a0 m.length cap0) (.int .i64 e) (.int .i64 z) (.int .i64 b) (.string r) (.string s) (.int .i64 y));have HD:=hideK (F4.o.done (HBD.o) (by have:=HGK.o;omega) _ _ _ _ _ _ _ rfl rfl rfl rfl rfl rfl rfl);(go_wp2_with fail);exact bodyPost_ret (v:=.agg #[.slice a0 m.length cap0,.int .i64 e,.int .i64 z,.int .i64 b,.string r,.string s,.int .i64 y]) (by simp[results,results24,go_sem,s7.1,s7.2.1,s7.2.2.1,s7.2.2.2.1,s7.2.2.2.2.1,s7.2.2.2.2.2.1,s7.2.2.2.2.2.2]) rfl HD.o
     |false =>
      rw[hhas]at HHS;have FP:=hideK (fun (wa wb:World) (va:Value) (F:Far fit z b r s y gk (gk+1) (gk+1+1) w wa (.slice a0 m.length cap0) m e)=>F.put (w':=wb) (v':=va) (x:=((xi,xt,xp),xe)) (xv:=.slice ap xp.length cp) HX.o hfit hhas (by have:=HGK.o;omega) (by omega) (by omega));clear hhas hfit;(go_wp2_with fail);refine HHS.o.mono ?_;rintro e4 w4 ⟨rfl,hb⟩;have F4:=hideK (F3.o.call hb);have P4:=hideK (P3.o.keeps (KeepsS.below hb));have X4:=hideK (Ls.blkL X3.o hb);clear hb F3 HHS x0 x1 x2 P3 X3;obtain⟨x0,x1,x2⟩:=cells3 X4.o;have HPU:=hideK (put_any (gk+1+1) w.heap.size m.length ((xi,xt,xp),.slice ap xp.length cp) xe e z b r s y _ m w4 (F4.o.cx.get 0 rfl) F4.o.row F4.o.cx.low.size rfl (by have:=F4.o.ml;have:=F4.o.el;omega) ⟨_,_,_,rfl⟩);dsimp only at HPU;(go_wp2_with fail);refine HPU.o.mono ?_;rintro e5 w5 ⟨rfl,v',h1,h2,h3,h4,h5⟩;have F5:=hideK (FP.o w4 w5 v' F4.o P4.o h1 h2 h3 h4 h5);clear h1 h2 h3 h4 h5 HPU F4 P4 X4 FP x0 x1 x2;have HE5:Hid (endAt w5 (gk+1+1)=xe):=endAt_eq (F5.o.cx.get 0 rfl);(go_wp2_with fail)
      go_roundw
      case rel=>exact⟨_,_,_,F5.o⟩
      case measure=>rw[HE5.o,HEA.o];omega
   ·have HBD:Hid (goR fit s (s.size-e) (recs m) e=(recs m,e)):=goR_none hx
    have F2:=hideK (F1.o.new (.cells #[.int .i64 0,.string ⟨#[]⟩,.slice none 0 0] 58));clear hx F1 F
    go_upto_region 4 with fail
    generalize w1.alloc (.cells #[.int .i64 0,.string ⟨#[]⟩,.slice none 0 0] 58)=W2 at F2 ⊢;obtain⟨k0,k1,k2,k3,k4,k5,k6⟩:=wk_cells (F2.o.cx.get 0 rfl);obtain⟨r0,r1,r2,r3,r4,r5,r6⟩:=cells7 (F2.o.cx.get 1 rfl);have fr:=fun o=>frozen_of_row W2 (gk+1) o _ _ (F2.o.cx.get 1 rfl);have s7:=cells7 (set7 (F2.o.cx.get 1 rfl) (.slice a0 m.length cap0) (.int .i64 e) (.int .i64 z) (.int .i64 b) (.string r) (.string s) (.int .i64 y));have HD:=hideK (F2.o.done (HBD.o) (by have:=HGK.o;omega) _ _ _ _ _ _ _ rfl rfl rfl rfl rfl rfl rfl);(go_wp2_with fail);exact bodyPost_ret (v:=.agg #[.slice a0 m.length cap0,.int .i64 e,.int .i64 z,.int .i64 b,.string r,.string s,.int .i64 y]) (by simp[results,results24,go_sem,s7.1,s7.2.1,s7.2.2.1,s7.2.2.2.1,s7.2.2.2.2.1,s7.2.2.2.2.2.1,s7.2.2.2.2.2.2]) rfl HD.o
  ·have hlt':decide ((e:Int)<(s.size:Int))=false:=by simp;omega
   have HBD:Hid (goR fit s (s.size-e) (recs m) e=(recs m,e)):=goR_end (by omega)
   have hlt2:¬((e:Int)<(s.size:Int)):=by omega
   obtain⟨k0,k1,k2,k3,k4,k5,k6⟩:=wk_cells (F.o.cx.get 0 rfl);obtain⟨r0,r1,r2,r3,r4,r5,r6⟩:=cells7 (F.o.cx.get 1 rfl);have fr:=fun o=>frozen_of_row wr (gk+1) o _ _ (F.o.cx.get 1 rfl);have s7:=cells7 (set7 (F.o.cx.get 1 rfl) (.slice a0 m.length cap0) (.int .i64 e) (.int .i64 z) (.int .i64 b) (.string r) (.string s) (.int .i64 y));have HD:=hideK (F.o.done (HBD.o) (by have:=HGK.o;omega) _ _ _ _ _ _ _ rfl rfl rfl rfl rfl rfl rfl)
   go_wp2_with fail
   exact bodyPost_ret (v:=.agg #[.slice a0 m.length cap0,.int .i64 e,.int .i64 z,.int .i64 b,.string r,.string s,.int .i64 y]) (by simp[results,results24,go_sem,s7.1,s7.2.1,s7.2.2.1,s7.2.2.2.1,s7.2.2.2.2.1,s7.2.2.2.2.2.1,s7.2.2.2.2.2.2]) rfl HD.o
end Kp
namespace Kp
open Ls (rightB right_impl lV lowL blkL)
def mayB (z b:Int) (r s:ByteArray):Bool:=rightB z b r && decide (s.size<=8000)
def atB (z b:Int) (r s:ByteArray) (y:Int) (e:Nat):Bool:=mayB z b r s && decide (e=s.size) && spanB s y
def keepB (fit:Rec->Bool) (z b:Int) (r s:ByteArray) (y:Int):Bool:=atB z b r s y (allR fit s).2
theorem mayOpen_any (z b:Int) (r s:ByteArray) (y:Int) (w:World) :
  Calls prog 47 #[kV z b r s y] w fun e w'=>e=.returned (.bool (mayB z b r s))/\Below w.heap.size w w':=by
 have HR:=hideK (fun W=>right_impl z b r W);have C0:=hideK ((Cx.nil w).new (kB z b r s y));unfold kV;unfold kB at C0;unfold lV at HR
 cases hr:rightB z b r with
 |false =>
  have HM:Hid (mayB z b r s=false):=by unfold Hid mayB;rw[hr];rfl
  rw[HM.o];rw[hr]at HR;clear hr HM;go_enter func47,ntmps47
  go_wp2_with fail
  refine(HR.o _).mono ?_;rintro e w1 ⟨rfl,hb⟩;have C1:=hideK (C0.o.call hb);obtain⟨l0,l1,l2,l3,l4⟩:=k_cells (C1.o.get 0 rfl);clear hb C0
  go_wp2_with fail
  go_ret;exact⟨rfl,C1.o.low⟩
 |true =>
  have HM:Hid (mayB z b r s=decide (((s.size:Nat):Int)<=8000)):=by unfold Hid mayB;rw[hr,Bool.true_and,decide_eq_decide];omega
  rw[HM.o];rw[hr]at HR;clear hr HM;go_enter func47,ntmps47
  go_wp2_with fail
  refine(HR.o _).mono ?_;rintro e w1 ⟨rfl,hb⟩;have C1:=hideK (C0.o.call hb);obtain⟨l0,l1,l2,l3,l4⟩:=k_cells (C1.o.get 0 rfl);clear hb C0
  go_wp2_with fail
  go_ret;exact⟨rfl,C1.o.low⟩
theorem mixedK:prog.follows .mixedOrders=true:=by kernel_rfl
theorem at_yes {z b:Int} {r s:ByteArray} {y:Int} {e:Nat} (h:mayB z b r s=true) (h2:e=s.size):atB z b r s y e=spanB s y:=by
 unfold atB;rw[h,decide_eq_true h2,Bool.true_and,Bool.true_and]
theorem right_run (g:Nat) (v:Value) (e:Nat) (z b:Int) (r s:ByteArray) (y:Int) (w:World) (A B Q:Bool) (hg:w.heap[g]? = some (wkB v e z b r s y)) (hA:mayB z b r s=A) (hB:((e:Int)==(s.size:Int))=B) (hQ:(A && B && spanB s y)=Q) :
  Calls prog 25 #[.pointer (some ⟨g,0,none⟩)] w fun q w'=>q=.returned (.bool Q)/\Below w.heap.size w w':=by
 have HM:=hideK (fun W=>mayOpen_any z b r s y W);have HS:=hideK (fun W=>synced_any z b r s y W);obtain⟨c0,c1,c2,c3,c4,c5,c6⟩:=wk_cells hg;unfold kV at HM HS;rw[hA]at HM;clear hA hg;have g1:=fun d os=>cell_regrown c1 d os;have g2:=fun d os=>cell_regrown c2 d os;have g3:=fun d os=>cell_regrown c3 d os;have g4:=fun d os=>cell_regrown c4 d os;have g5:=fun d os=>cell_regrown c5 d os;have g6:=fun d os=>cell_regrown c6 d os;have hmx:=mixedK
 cases A with
 |false =>
  have HQ:Hid (Q=false):=by unfold Hid;rw[<-hQ];rfl
  clear hQ hB;go_enter func25,ntmps25
  go_upto_region 1 with fail
  refine wp_region_quiet_below (by assumption) (by kernel_rfl) ?_
  repeat (go_big_quiet_step ((go_at_call 47;exact Calls.regrown_of (HM.o _))))
  refine wpQuiet_nil ?_;intro _ hw';obtain⟨⟨dq,osq⟩,hw''⟩:=hw';subst hw'';have K1:=hideK (below_regrown w dq osq);generalize Go.Sort.grow (redrawn w dq) osq=w8 at K1 ⊢;clear g1 g2 g3 g4 g5 g6 c1 c2 c3 c4 c5 c6
  go_wp2_with fail
  go_ret;exact⟨by rw[HQ.o];rfl,K1.o⟩
 |true =>
  cases B with
  |false =>
   have HQ:Hid (Q=false):=by unfold Hid;rw[<-hQ];rfl
   have hB2:¬(e:Int)=(s.size:Int):=by simpa using hB
   clear hQ;go_enter func25,ntmps25
   go_upto_region 1 with fail
   refine wp_region_quiet_below (by assumption) (by kernel_rfl) ?_
   repeat (go_big_quiet_step ((go_at_call 47;exact Calls.regrown_of (HM.o _))))
   refine wpQuiet_nil ?_;intro _ hw';obtain⟨⟨dq,osq⟩,hw''⟩:=hw';subst hw'';have K1:=hideK (below_regrown w dq osq);generalize Go.Sort.grow (redrawn w dq) osq=w8 at K1 ⊢;clear g1 g2 g3 g4 g5 g6 c1 c2 c3 c4 c5 c6
   go_wp2_with fail
   go_ret;exact⟨by rw[HQ.o];rfl,K1.o⟩
  |true =>
   have HQ:Hid (Q=spanB s y):=by unfold Hid;rw[<-hQ];rfl
   clear hQ;generalize spanB s y=S at HS HQ;go_enter func25,ntmps25
   go_upto_region 1 with fail
   refine wp_region_quiet_below (by assumption) (by kernel_rfl) ?_
   repeat (go_big_quiet_step ((first|(go_at_call 47;exact Calls.regrown_of (HM.o _))|(go_at_call 48;exact Calls.regrown_of (HS.o _)))))
   refine wpQuiet_nil ?_;intro _ hw';obtain⟨⟨dq,osq⟩,hw''⟩:=hw';subst hw'';have K1:=hideK (below_regrown w dq osq);generalize Go.Sort.grow (redrawn w dq) osq=w8 at K1 ⊢;clear g1 g2 g3 g4 g5 g6 c1 c2 c3 c4 c5 c6
   go_wp2_with fail
   go_ret;exact⟨by rw[HQ.o];rfl,K1.o⟩
theorem right_any (g:Nat) (v:Value) (e:Nat) (z b:Int) (r s:ByteArray) (y:Int) (w:World) (hg:w.heap[g]? = some (wkB v e z b r s y)) :
  Calls prog 25 #[.pointer (some ⟨g,0,none⟩)] w fun q w'=>q=.returned (.bool (atB z b r s y e))/\Below w.heap.size w w' :=
 right_run g v e z b r s y w _ _ _ hg rfl rfl (by
  unfold atB
  congr 2
  by_cases h:e=s.size
  ·rw[decide_eq_true h,h];simp
  ·rw[decide_eq_false h];simp;omega)
end Kp
namespace Kp
open Ls (HH hh_keep lV lowL blkL)
open St (Strs)
def FitC (fit:Rec->Bool) (z b:Int) (r:ByteArray) (w:World):Prop :=
 ∀ (W:World) (x:MR),Below w.heap.size w W->x.1.2.1.size<=8000->x.1.2.2.length<=400->(∃ a cap,x.2=.slice a x.1.2.2.length cap/\x.1.2.2.length<=cap/\Strs W W.heap.size a x.1.2.2)->Calls prog 26 #[.agg #[.int .i64 x.1.1,.string x.1.2.1,x.2],lV z b r] W fun e w'=>e=.returned (.bool (fit x.1))/\Below W.heap.size W w'
theorem FitC.later {fit:Rec->Bool} {z b:Int} {r:ByteArray} {w w':World} (h:FitC fit z b r w) (hb:Below w.heap.size w w'):FitC fit z b r w':=fun W x hW=>h W x (lowL hb hW)
structure Opn (fit:Rec->Bool) (z b:Int) (r s:ByteArray) (y:Int) (w W:World) (g gw:Nat) (v:Value) (m:List MR):Prop where
 cx:Cx w W [(gw,wkB v (allR fit s).2 z b r s y),(g,kB z b r s y)]
 rs:recs m=(allR fit s).1
 row:OwnR W w.heap.size v m
 ps:Paths W m
end Kp
namespace Kp
open Ls (HH hh_keep lV lowL blkL)
def syncV (fit:Rec->Bool) (z b:Int) (r s:ByteArray) (y:Int):Value:=if keepB fit z b r s y=true then kV z b r s s.size else kV z b r s y
def recoverV (fit:Rec->Bool) (z b:Int) (r s:ByteArray) (y:Int):Value:=if mayB z b r s=true then kV z b r (s.extract 0 (allR fit s).2) (allR fit s).2 else kV z b r s y
theorem keepB_yes {fit:Rec->Bool} {z b:Int} {r s:ByteArray} {y:Int} (h:keepB fit z b r s y=true):mayB z b r s=true/\(allR fit s).2=s.size/\spanB s y=true:=by
 unfold keepB atB at h;simp only[Bool.and_eq_true,decide_eq_true_eq]at h;exact⟨h.1.1,h.1.2,h.2⟩
end Kp
namespace Kp
open Ls (HH hh_keep lV lowL blkL cells3 set3_all)
def pieceR (out:List Rec) (i:Int):Option ByteArray:=(out.find? fun x=>x.1==i).map (·.2.1)
def pieceV (fit:Rec->Bool) (z b:Int) (r s:ByteArray) (y i:Int):Value :=
 if keepB fit z b r s y=true then
  match pieceR (allR fit s).1 i with
  |some t=>.agg #[.string t,.int .i64 0,.int .i64 0]
  |none=>.agg #[.string ⟨#[]⟩,.int .i64 0,.int .i64 6]
 else .agg #[.string ⟨#[]⟩,.int .i64 0,.int .i64 1]
def tZ:Obj:=.cells #[.string ⟨#[]⟩,.int .i64 0,.int .i64 0] 91
end Kp
namespace Kp
open Gn (rd rt)
open Bi (is_yes is_no)
open St (OwnS one_newS one_cellS)
open Ls (num_all text_all cells3 set3_all set_j3 blk_alloc)
def RecOutS (R:Option (Rec × Nat)) (r:Ending) (w':World):Prop :=
 (∃ x v,R=some x/\r=.returned (.tuple #[.agg #[.int .i64 x.1.1,.string x.1.2.1,v],.int .i64 x.2,.bool true])/\PathIn w' v x.1.2.2) ∨
 (R=none/\∃ (i:Int) (t:ByteArray) (a:Option Addr) (n c:Nat) (k:Int),r=.returned (.tuple #[.agg #[.int .i64 i,.string t,.slice a n c],.int .i64 k,.bool false]))
end Kp
namespace Kp
open Ls (lV cells3 lowL blkL)
open Ap (Own0 KeepE wpList_append_own0k)
open St (Strs)
def HasOut (m:List MR) (i:Int) (e:Ending):Prop :=
 (∃ (j:Nat) (hj:j<m.length),m[j].1.1=i/\(∀ k (hk:k<j),¬(m[k]'(Nat.lt_trans hk hj)).1.1=i)/\e=.returned (.int .i64 j))∨((∀ j (hj:j<m.length),¬m[j].1.1=i)/\e=.returned (.int .i64 (-1)))
end Kp
namespace Up
open Pk
open Se (sealV unsealV outV)
open Sh (bt)
theorem list_eqP (a b:ByteArray):(a.toList==b.toList)=decide (a=b):=Se.list_eq_iff a b
theorem three {W:World} {g:Nat} {x y z:Value} {t:TypeId} (h:W.heap[g]? = some (.cells #[x,y,z] t (0,0))):W.cell? ⟨g,0,none⟩=some x/\W.cell? ⟨g,1,none⟩=some y/\W.cell? ⟨g,2,none⟩=some z :=
 ⟨cell_of_row W g 0 _ _ _ h,cell_of_row W g 1 _ _ _ h,cell_of_row W g 2 _ _ _ h⟩
theorem set3_cells {W:World} {g:Nat} {x y z:Value} {T:TypeId} (h:W.heap[g]? = some (.cells #[x,y,z] T (0,0))) (a b c:Value) :
  (((W.setCell ⟨g,0,none⟩ a).setCell ⟨g,1,none⟩ b).setCell ⟨g,2,none⟩ c).cell? ⟨g,0,none⟩=some a/\(((W.setCell ⟨g,0,none⟩ a).setCell ⟨g,1,none⟩ b).setCell ⟨g,2,none⟩ c).cell? ⟨g,1,none⟩=some b/\(((W.setCell ⟨g,0,none⟩ a).setCell ⟨g,1,none⟩ b).setCell ⟨g,2,none⟩ c).cell? ⟨g,2,none⟩=some c:=three (set_k3 (set_k3 (set_k3 h a).1 b).2.1 c).2.2
theorem set3_alloc {W:World} {g:Nat} {x y z:Value} {T:TypeId} (h:W.heap[g]? = some (.cells #[x,y,z] T (0,0))) (a b c:Value) (o:Obj) :
  ((((W.setCell ⟨g,0,none⟩ a).setCell ⟨g,1,none⟩ b).setCell ⟨g,2,none⟩ c).alloc o).cell? ⟨g,0,none⟩=some a/\((((W.setCell ⟨g,0,none⟩ a).setCell ⟨g,1,none⟩ b).setCell ⟨g,2,none⟩ c).alloc o).cell? ⟨g,1,none⟩=some b/\((((W.setCell ⟨g,0,none⟩ a).setCell ⟨g,1,none⟩ b).setCell ⟨g,2,none⟩ c).alloc o).cell? ⟨g,2,none⟩=some c :=
 three (blk_low (set_k3 (set_k3 (set_k3 h a).1 b).2.1 c).2.2 ((Below.refl _ _).alloc nl _))
theorem set3_low {B:Nat} {w W:World} (h:Below B w W) (a b c:Value):Below B w (((W.setCell ⟨B,0,none⟩ a).setCell ⟨B,1,none⟩ b).setCell ⟨B,2,none⟩ c):=((h.setCell (p:=⟨B,0,none⟩) nl a).setCell (p:=⟨B,1,none⟩) nl b).setCell (p:=⟨B,2,none⟩) nl c
theorem set3_lowA {B:Nat} {w W:World} (hB:w.heap.size=B) (h:Below B w W) (a b c:Value) (o:Obj):Below B w ((((W.setCell ⟨B,0,none⟩ a).setCell ⟨B,1,none⟩ b).setCell ⟨B,2,none⟩ c).alloc o):=by
 have:=set3_low h a b c
 exact this.alloc (by have:=this.size;omega) o
end Up
namespace Up
open Pk
open Se (sealV unsealV outV unseal_impl)
def ShortOk (ev:Value):Prop:=∀ (s:ByteArray) (w:World),Glob w ev->1<=s.size->s.size<=8000->Calls prog 117 #[.string s] w fun e w'=>(∃ r v,e=.returned (.tuple #[.string r,v])/\(v=.nilIface∨v=ev)/\r.size<=8000/\∀ b,Good s b->r=b/\v=.nilIface)/\Below w.heap.size w w'
def IsOk (ev:Value):Prop:=∀ w:World,Calls prog 83 #[ev,ev] w fun e w'=>e=.returned (.bool true)/\Below w.heap.size w w'
theorem unpack_impl (tid:TypeId) (pv:Value) (HS:Hid (ShortOk (.iface tid pv))) (HI:Hid (IsOk (.iface tid pv))) (s:ByteArray) (w:World) (hs:s.size<=1048576) (hgl:Glob w (.iface tid pv)) :
  Calls prog 58 #[.string s] w fun e w'=>e=.returned (ansU s)/\Below w.heap.size w w':=by
 obtain⟨g,hg⟩:∃ g,g=w.heap.size:=⟨_,rfl⟩;have HBE:=hideP hg.symm
 have HR0:Hid ((w.alloc (.cells #[.string ⟨#[]⟩,.int .i64 0,.int .i64 0] 91)).heap[g]? = some (.cells #[.string ⟨#[]⟩,.int .i64 0,.int .i64 0] 91 (0,0))):=by rw[hg];exact heap_alloc_new w _
 have HL0:Hid (Below g w (w.alloc (.cells #[.string ⟨#[]⟩,.int .i64 0,.int .i64 0] 91))):=by rw[hg];exact(Below.refl _ _).alloc nl _
 have HG0:Hid (Glob (w.alloc (.cells #[.string ⟨#[]⟩,.int .i64 0,.int .i64 0] 91)) (.iface tid pv)):=glob_keep hgl ((Below.refl _ _).alloc nl _);clear hgl
 rcases unseal_case s with⟨t,hu,hse,htz,h4⟩|⟨c,hc0,hu⟩
 ·have HU:=hideP hu
  have HSE:=hideP hse;have HAN:=hideP (ansU_yes hu);clear hu hse;go_enter func58,ntmps58
  go_wp2_with fail
  rw[<-hg];generalize hww:w.alloc (.cells #[.string ⟨#[]⟩,.int .i64 0,.int .i64 0] 91)=w0 at HR0 HL0 HG0 ⊢;clear hww hg;refine(unseal_impl s _ (by unfold maxLen;omega)).mono ?_;rintro e w1 ⟨rfl,hb1⟩;have R1:=hideP (blk_low HR0.o hb1);have L1:=hideP (low2 HBE.o HL0.o hb1);have G1:=hideP (glob_keep HG0.o hb1);clear hb1 HR0 HL0 HG0;rw[HU.o];unfold outV
  go_wp2_with fail
  have Rwx:Hid ((w1.alloc (.cells #[.string t,.int .i64 0,.int .i64 0] 91)).heap[g]? = some (.cells #[.string ⟨#[]⟩,.int .i64 0,.int .i64 0] 91 (0,0))):=blk_low R1.o ((Below.refl _ _).alloc nl _);have Lwx:Hid (Below g w (w1.alloc (.cells #[.string t,.int .i64 0,.int .i64 0] 91))):=low2 HBE.o L1.o ((Below.refl _ _).alloc nl _);have Gwx:Hid (Glob (w1.alloc (.cells #[.string t,.int .i64 0,.int .i64 0] 91)) (.iface tid pv)):=glob_keep G1.o ((Below.refl _ _).alloc nl _);generalize hww:w1.alloc (.cells #[.string t,.int .i64 0,.int .i64 0] 91)=wx at Rwx Lwx Gwx ⊢;clear hww R1 L1 G1;refine(read_block (.iface tid pv) HS t wx (by omega) Gwx.o).mono ?_;rintro e w2 ⟨⟨r,v,rfl,hv,hrz,hr⟩,hb2⟩;have R2:=hideP (blk_low Rwx.o hb2);have L2:=hideP (low2 HBE.o Lwx.o hb2);have G2:=hideP (glob_keep Gwx.o hb2);have HR:=hideP hr;have g2:=G2.o.2;clear hb2 hr Rwx Lwx Gwx
  rcases hv with rfl|rfl
  ·go_wp2_with fail
   refine(is_nil tid pv w2).mono ?_;rintro e w3 ⟨rfl,rfl⟩
   go_wp2_with fail
   refine(pack_impl r _ (by omega)).mono ?_;rintro e wp ⟨rfl,hbp⟩;have Rwp:=hideP (blk_low R2.o hbp);have Lwp:=hideP (low2 HBE.o L2.o hbp);clear hbp g2 G2 R2 L2;obtain⟨kb,hkb⟩:∃ x,x=packB r:=⟨_,rfl⟩;obtain⟨ha1,ha2⟩:=ansT_read HSE.o htz h4 (r:=r) (fun b h1 h2=>(HR.o b h1 h2).1);rw[<-hkb]at ha1 ha2 ⊢;clear hkb;by_cases hk:kb=s
   ·have HQ:=hideP (ha1 hk)
    subst hk;obtain⟨cc0,cc1,cc2⟩:=three Rwp.o;have ff:=fun o=>frozen_of_row wp g o _ _ Rwp.o;have s3:=set3_cells Rwp.o (.string r) (.int .i64 0) (.int .i64 0);(go_wp2_with fail);refine bodyPost_ret (v:=outV r 0 0) (by simp[results,outV,results58,go_sem,s3.1,s3.2.1,s3.2.2]) rfl ⟨?_,?_⟩
    ·rw[HAN.o,HQ.o]
    ·rw[HBE.o]
     exact set3_low Lwp.o _ _ _
   ·have HQ:=hideP (ha2 hk)
    have hkl:(kb.toList==s.toList)=false:=by rw[list_eqP];exact decide_eq_false hk
    obtain⟨cc0,cc1,cc2⟩:=three Rwp.o;have ff:=fun o=>frozen_of_row wp g o _ _ Rwp.o;have s3:=set3_cells Rwp.o (.string ⟨#[]⟩) (.int .i64 0) (.int .i64 3);(go_wp2_with fail);refine bodyPost_ret (v:=outV ⟨#[]⟩ 0 3) (by simp[results,outV,results58,go_sem,s3.1,s3.2.1,s3.2.2]) rfl ⟨?_,?_⟩
    ·rw[HAN.o,HQ.o]
    ·rw[HBE.o]
     exact set3_low Lwp.o _ _ _
  ·have HQ:=hideP (ansT_none (t:=t) fun b h1 h2=>by have:=(HR.o b h1 h2).2;cases this)
   go_wp2_with fail
   refine(HI.o w2).mono ?_;rintro e wp ⟨rfl,hbp⟩;have Rwp:=hideP (blk_low R2.o hbp);have Lwp:=hideP (low2 HBE.o L2.o hbp);clear hbp g2 G2 R2 L2;obtain⟨cc0,cc1,cc2⟩:=three Rwp.o;have ff:=fun o=>frozen_of_row wp g o _ _ Rwp.o;have s3:=set3_cells Rwp.o (.string ⟨#[]⟩) (.int .i64 0) (.int .i64 3)
   go_wp2_with fail
   refine bodyPost_ret (v:=outV ⟨#[]⟩ 0 3) (by simp[results,outV,results58,go_sem,s3.1,s3.2.1,s3.2.2]) rfl ⟨?_,?_⟩
   ·rw[HAN.o,HQ.o]
   ·rw[HBE.o]
    exact set3_low Lwp.o _ _ _
 ·have HAN:=hideP (ansU_no hc0 hu)
  have HU:=hideP hu
  have hc':(c != 0)=true:=by simp;exact hc0
  clear hu hc0;go_enter func58,ntmps58
  go_wp2_with fail
  rw[<-hg];generalize hww:w.alloc (.cells #[.string ⟨#[]⟩,.int .i64 0,.int .i64 0] 91)=w0 at HR0 HL0 HG0 ⊢;clear hww hg;refine(unseal_impl s _ (by unfold maxLen;omega)).mono ?_;rintro e w1 ⟨rfl,hb1⟩;have R1:=hideP (blk_low HR0.o hb1);have L1:=hideP (low2 HBE.o HL0.o hb1);clear hb1 HR0 HL0 HG0;rw[HU.o];unfold outV;obtain⟨cc0,cc1,cc2⟩:=three R1.o;have ff:=fun o=>frozen_of_row w1 g o _ _ R1.o;have s3:=fun o=>set3_alloc R1.o (.string ⟨#[]⟩) (.int .i64 0) (.int .i64 c) o;have HGW:Hid (g<w1.heap.size):=(Array.getElem?_eq_some_iff.1 R1.o).1;have hgw:=HGW.o
  go_wp2_with fail
  refine bodyPost_ret (v:=outV ⟨#[]⟩ 0 c) (by simp[results,outV,results58,go_sem,(s3 _).1,(s3 _).2.1,(s3 _).2.2]) rfl ⟨?_,?_⟩
  ·rw[HAN.o]
  ·rw[HBE.o]
   exact set3_lowA HBE.o L1.o _ _ _ _
end Up
namespace Kp
open Ls (rightB right_impl right_spec lV lowL blkL cells3)
def newV (z b:Int) (r:ByteArray):Value:=if rightB z b r=true then kV z b r ⟨#[]⟩ 0 else kV 0 0 ⟨#[]⟩ ⟨#[]⟩ 0
theorem keepNew_impl (z b:Int) (r:ByteArray) (w:World) :
  Calls prog 9 #[lV z b r] w fun e w'=>e=.returned (newV z b r)/\Below w.heap.size w w':=by
 have HR:=hideK (fun W=>right_impl z b r W);have C0:=hideK (((Cx.nil w).new (.cells #[.int .i64 z,.int .i64 b,.string r] 26)).new kZ);simp only[World.size_alloc]at C0;have HY:Hid (rightB z b r=true->newV z b r=kV z b r ⟨#[]⟩ 0):=fun h=>if_pos h;have HN:Hid (rightB z b r=false->newV z b r=kV 0 0 ⟨#[]⟩ ⟨#[]⟩ 0):=fun h=>if_neg (by rw[h];exact Bool.false_ne_true);generalize newV z b r=A at HY HN ⊢;unfold kV at HY HN;unfold lV at HR ⊢;unfold kZ at C0;go_enter func9,ntmps9
 go_wp2_with fail
 generalize (w.alloc _).alloc _=W0 at C0 ⊢;refine(HR.o _).mono ?_;rintro e w1 ⟨rfl,hb⟩;have C1:=hideK (C0.o.call hb);clear hb C0 HR;obtain⟨q0,q1,q2,q3,q4⟩:=cells5 (C1.o.get 0 rfl);obtain⟨l0,l1,l2⟩:=cells3 (C1.o.get 1 rfl);have ff:=fun o=>frozen_of_row w1 (w.heap.size+1) o _ _ (C1.o.get 0 rfl)
 cases hr:rightB z b r with
 |false =>
  have HE:=hideK (HN.o hr);clear HY HN hr;have HF:=hideK (ans5 (C1.o.get 0 rfl) C1.o.low (by omega) (.int .i64 0) (.int .i64 0) (.string ⟨#[]⟩) (.string ⟨#[]⟩) (.int .i64 0));have s5:=cells5 HF.o.2
  go_wp2_with fail
  exact bodyPost_ret (v:=.agg #[.int .i64 0,.int .i64 0,.string ⟨#[]⟩,.string ⟨#[]⟩,.int .i64 0]) (by simp[results,results9,go_sem,s5.1,s5.2.1,s5.2.2.1,s5.2.2.2.1,s5.2.2.2.2]) rfl ⟨by rw[HE.o],HF.o.1⟩
 |true =>
  have HE:=hideK (HY.o hr);clear HY HN hr;have HF:=hideK (ans5 (C1.o.get 0 rfl) C1.o.low (by omega) (.int .i64 z) (.int .i64 b) (.string r) (.string ⟨#[]⟩) (.int .i64 0));have s5:=cells5 HF.o.2
  go_wp2_with fail
  exact bodyPost_ret (v:=.agg #[.int .i64 z,.int .i64 b,.string r,.string ⟨#[]⟩,.int .i64 0]) (by simp[results,results9,go_sem,s5.1,s5.2.1,s5.2.2.1,s5.2.2.2.1,s5.2.2.2.2]) rfl ⟨by rw[HE.o],HF.o.1⟩
end Kp
namespace Dr
theorem drawBlocks_any (a:Option Addr) (len cap:Nat) (w:World) (hl:len<=1048576) (hr:Row w w.heap.size a len) :
  Calls prog 4 #[.slice a len cap] w fun e w'=>∃ (t:ByteArray) (z:Int),t.size<=1002/\0<=z/\z<=49/\e=.returned (.tuple #[.string t,.int .i64 z])/\Below w.heap.size w w':=by
 have HR:=hideD hr;clear hr;go_enter func4,ntmps4
 go_wp2_with fail
 refine(source_any a len cap _ hl HR.o).mono ?_;rintro e w1 ⟨rfl,hs1,hb1,hz⟩;have HS1:=hideD hs1;have HB1:=hideD hb1;have z1:=hb1.size;clear hs1 hb1 hz
 go_wp2_with fail
 refine(file6_any w.heap.size a len cap _ hl HS1.o).mono ?_;rintro e w2 ⟨t,z,ht,hz0,hz1,rfl,hs2,ha2⟩;have HB2:=hideD (ha2.below HB1.o nl z1);clear hs2 ha2
 go_wp2_with fail
 go_ret2;exact⟨t,z,ht,hz0,hz1,rfl,HB2.o⟩
end Dr
end Go.Proofs.YtbdcffjcogglbaaGreatDoor
