import Derived.Test.YtbdcffjcogglbaaGreatDoorOz46
set_option maxRecDepth 100000
set_option maxHeartbeats 8000000
namespace Go.Proofs.YtbdcffjcogglbaaGreatDoor
open Go.RowKit
open Go.Proofs.Tryz
namespace Kp
open Ls (HH hh_keep lV lowL blkL cells3 lm_alloc lm_drew)
open St (Strs)
open Pk (cat join_any)
theorem set6 {W:World} {g:Nat} {x0 x1 x2 x3 x4 x5:Value} {T:TypeId} (h:W.heap[g]? = some (.cells #[x0,x1,x2,x3,x4,x5] T (0,0))) (a0 a1 a2 a3 a4 a5:Value) :
  ((((((W.setCell ⟨g,0,none⟩ a0).setCell ⟨g,1,none⟩ a1).setCell ⟨g,2,none⟩ a2).setCell ⟨g,3,none⟩ a3).setCell ⟨g,4,none⟩ a4).setCell ⟨g,5,none⟩ a5).heap[g]? = some (.cells #[a0,a1,a2,a3,a4,a5] T (0,0)):=by
 have h0:(W.setCell ⟨g,0,none⟩ a0).heap[g]? = some (.cells #[a0,x1,x2,x3,x4,x5] T (0,0)):=by rw[heap_setCell_same W g 0 _ T a0 h];rfl
 have h1:=heap_setCell_same _ g 1 _ T a1 h0;have h2:=heap_setCell_same _ g 2 _ T a2 h1;have h3:=heap_setCell_same _ g 3 _ T a3 h2;have h4:=heap_setCell_same _ g 4 _ T a4 h3;have h5:=heap_setCell_same _ g 5 _ T a5 h4;exact h5
theorem cells6 {W:World} {g:Nat} {x0 x1 x2 x3 x4 x5:Value} {T:TypeId} (h:W.heap[g]? = some (.cells #[x0,x1,x2,x3,x4,x5] T (0,0))):W.cell? ⟨g,0,none⟩=some x0/\W.cell? ⟨g,1,none⟩=some x1/\W.cell? ⟨g,2,none⟩=some x2/\W.cell? ⟨g,3,none⟩=some x3/\W.cell? ⟨g,4,none⟩=some x4/\W.cell? ⟨g,5,none⟩=some x5 :=
 ⟨cell_of_row W g 0 _ _ _ h,cell_of_row W g 1 _ _ _ h,cell_of_row W g 2 _ _ _ h,cell_of_row W g 3 _ _ _ h,cell_of_row W g 4 _ _ _ h,cell_of_row W g 5 _ _ _ h⟩
theorem ans6 {w W:World} {g:Nat} {x0 x1 x2 x3 x4 x5:Value} (h:W.heap[g]? = some (.cells #[x0,x1,x2,x3,x4,x5] 38 (0,0))) (hl:Below w.heap.size w W) (hg:w.heap.size<=g) (a0 a1 a2 a3 a4 a5:Value) :
  Below w.heap.size w ((((((W.setCell ⟨g,0,none⟩ a0).setCell ⟨g,1,none⟩ a1).setCell ⟨g,2,none⟩ a2).setCell ⟨g,3,none⟩ a3).setCell ⟨g,4,none⟩ a4).setCell ⟨g,5,none⟩ a5)/\((((((W.setCell ⟨g,0,none⟩ a0).setCell ⟨g,1,none⟩ a1).setCell ⟨g,2,none⟩ a2).setCell ⟨g,3,none⟩ a3).setCell ⟨g,4,none⟩ a4).setCell ⟨g,5,none⟩ a5).heap[g]? = some (.cells #[a0,a1,a2,a3,a4,a5] 38 (0,0)) :=
 ⟨(((((hl.setCell (p:=⟨g,0,none⟩) hg a0).setCell (p:=⟨g,1,none⟩) hg a1).setCell (p:=⟨g,2,none⟩) hg a2).setCell (p:=⟨g,3,none⟩) hg a3).setCell (p:=⟨g,4,none⟩) hg a4).setCell (p:=⟨g,5,none⟩) hg a5,set6 h _ _ _ _ _ _⟩
def koV (z b:Int) (r s:ByteArray) (y c:Int):Value:=.agg #[.int .i64 z,.int .i64 b,.string r,.string s,.int .i64 y,.int .i64 c]
def koZ:Obj:=.cells #[.int .i64 0,.int .i64 0,.string ⟨#[]⟩,.string ⟨#[]⟩,.int .i64 0,.int .i64 0] 38
def addV (fit:Rec->Bool) (z b:Int) (r s:ByteArray) (y:Int) (x:Rec):Value :=
 if 8000<x.2.1.size∨400<x.2.2.length then koV 0 0 ⟨#[]⟩ ⟨#[]⟩ 0 2
 else if keepB fit z b r s y=false then koV 0 0 ⟨#[]⟩ ⟨#[]⟩ 0 1
 else if fit x=false then koV 0 0 ⟨#[]⟩ ⟨#[]⟩ 0 5
 else if hasR (allR fit s).1 x.1=true then koV 0 0 ⟨#[]⟩ ⟨#[]⟩ 0 7
 else if 8000<(s++recT x).size then koV 0 0 ⟨#[]⟩ ⟨#[]⟩ 0 9
 else koV z b r (s++recT x) y 0
def FitF (fit:Rec->Bool):Prop:=∀ x,fit x=true->-9223372036854775808<=x.1/\x.1<=9223372036854775807/\x.2.1.size<=8000/\x.2.2.length<=20/\∀ q∈x.2.2,q.size<=8000
theorem cat_two (a b:ByteArray):(⟨(cat [a,b]).toArray⟩:ByteArray)=a++b:=by
 apply ba_ext
 rw[ba_data];unfold cat;simp
theorem keepAdd_impl (fit:Rec->Bool) (z b:Int) (r s:ByteArray) (y:Int) (x:MR) (w:World) (hs:s.size<=1048576) (ht:x.1.2.1.size<=1048576) (hpl:x.1.2.2.length<=1048576) (hp:∃ a cap,x.2=.slice a x.1.2.2.length cap/\x.1.2.2.length<=cap/\Strs w w.heap.size a x.1.2.2) (hh:HH w) (hf:FitC fit z b r w) (hff:FitF fit) :
  Calls prog 11 #[kV z b r s y,.int .i64 x.1.1,.string x.1.2.1,x.2] w fun e w'=>e=.returned (addV fit z b r s y x.1)/\Below w.heap.size w w':=by
 obtain⟨⟨i,t,p⟩,v⟩:=x;obtain⟨a,cap,hv,hc,hst⟩:=hp;dsimp only at ht hpl hv hc hst ⊢;subst hv;obtain⟨n,hn⟩:∃ n,n=p.length:=⟨_,rfl⟩;have C0:=hideK (((Cx.nil w).new (kB z b r s y)).new koZ);simp only[World.size_alloc]at C0
 have HA:Hid (addV fit z b r s y (i,t,p)=if 8000<t.size∨400<n then koV 0 0 ⟨#[]⟩ ⟨#[]⟩ 0 2 else if keepB fit z b r s y=false then koV 0 0 ⟨#[]⟩ ⟨#[]⟩ 0 1 else if fit (i,t,p)=false then koV 0 0 ⟨#[]⟩ ⟨#[]⟩ 0 5 else if hasR (allR fit s).1 i=true then koV 0 0 ⟨#[]⟩ ⟨#[]⟩ 0 7 else if 8000<(s++recT (i,t,p)).size then koV 0 0 ⟨#[]⟩ ⟨#[]⟩ 0 9 else koV z b r (s++recT (i,t,p)) y 0):=by unfold Hid addV;rw[hn]
 generalize addV fit z b r s y (i,t,p)=A at HA ⊢;have HO:=hideK (fun W (h:Below w.heap.size w W)=>openKeep_any fit z b r s y W hs (hh_keep hh h) (hf.later h));have HR:=hideK (fun g v W h=>right_any g v (allR fit s).2 z b r s y W h)
 change Hid (∀ g v W h,Calls _ _ _ W fun e w'=>e=.returned (.bool (keepB fit z b r s y))/\_) at HR
 have HFT:=hideK (fun W (h:Below w.heap.size w W) (h8:t.size<=8000) (h4:p.length<=400)=>hf W ((i,t,p),.slice a p.length cap) h h8 h4 ⟨a,cap,rfl,hc,(hst.below h).mono h.size⟩);have HTX:=hideK (fun W (h:Below w.heap.size w W) (hk:fit (i,t,p)=true)=>text_impl ((i,t,p),.slice a p.length cap) W (hff _ hk).1 (hff _ hk).2.1 (hff _ hk).2.2.1 (hff _ hk).2.2.2.1 (hff _ hk).2.2.2.2 ⟨a,cap,rfl,hc,(hst.below h).mono h.size⟩)
 have HJN0:Hid (s.size<=8000->∀ W g,W.heap[g]? = some (.cells #[.string s,.string (recT (i,t,p))] 9 (0,0))->Calls prog 28 #[.slice (some ⟨g,0,none⟩) 2 2] W fun e w'=>e=.returned (.string (s++recT (i,t,p)))/\Below W.heap.size W w'):=fun hs8 W g hg=>by
  have h1:=recT_size (i,t,p)
  have:=join_any [s,recT (i,t,p)] (some ⟨g,0,none⟩) 2 2 W (.inr ⟨g,0,rfl,lt_rowK hg,fun j hj=>by
   have hj2:j<2:=hj
   rcases j with _|_|j
   ·exact cell_of_row W g 0 _ _ _ hg
   ·exact cell_of_row W g 1 _ _ _ hg
   ·omega⟩) rfl (by omega) (by
   unfold cat;simp;have h2:s.data.size=s.size:=rfl;have h3:(recT (i,t,p)).data.size=(recT (i,t,p)).size:=rfl
   omega)
  rw[cat_two]at this;exact this
 dsimp only at HFT HTX;rw[<-hn]at hpl hc HFT HTX ⊢;generalize recT (i,t,p)=T at HA HTX HJN0;have HLS:Hid ((s++T).size=(s++T).size):=rfl;generalize s++T=L at HA HJN0;unfold OpenOut at HO;unfold kV at HO ⊢;unfold lV at HFT;unfold kB koZ at C0;unfold koV at HA;clear hst hh hf hff hn HLS;go_enter func11,ntmps11
 go_upto_region 1 with fail
 generalize (w.alloc _).alloc _=W0 at C0 ⊢;generalize hgk:w.heap.size=gk at C0 ⊢;have HGK:=hideK hgk;clear hgk;by_cases h8:t.size<=8000
 ·have h8':¬((8000:Int)<t.size):=by omega
  have h8D:decide ((8000:Int)<t.size)=false:=by simp;omega
  by_cases h4:n<=400
  ·have h4':¬((400:Int)<n):=by omega
   have h4D:decide ((400:Int)<(n:Int))=false:=by simp;omega
   rw[if_neg (by omega)]at HA;obtain⟨k0,k1,k2,k3,k4⟩:=k_cells (C0.o.get 1 rfl)
   go_wp2_with fail
   refine(HO.o _ C0.o.low).mono ?_;rintro e w1 ⟨⟨v,m,rfl,h1,h2,h3⟩,hb⟩;obtain⟨a0,cap0,hv⟩:=h2.one;subst hv;have C1:=hideK ((C0.o.call hb).new (wkB (.slice a0 m.length cap0) (allR fit s).2 z b r s y));have OW:=hideK (h2.alloc (wkB (.slice a0 m.length cap0) (allR fit s).2 z b r s y));have PS:=hideK h3.slices;rw[<-h1]at HA
   have hml:m.length<=1048576:=by
    have h5:=allR_many fit s;have h6:=allR_le fit s;rw[<-h1,recs_length]at h5;omega
   clear hb h1 h2 h3 HO C0 k0 k1 k2 k3 k4;unfold wkB at C1 OW
   go_wp2_with fail
   generalize w1.alloc _=W1 at C1 OW ⊢;generalize w1.heap.size=gw at C1 ⊢;refine(HR.o gw _ W1 (C1.o.get 0 rfl)).mono ?_;rintro e w2 ⟨rfl,hb⟩;have C2:=hideK (C1.o.call hb);have OW2:=hideK (OW.o.below hb);clear hb C1 OW HR
   cases hk:keepB fit z b r s y with
   |false =>
    rw[hk,if_pos rfl]at HA;have HE:=HA;clear hk HFT HTX HJN0;obtain⟨q0,q1,q2,q3,q4,q5⟩:=cells6 (C2.o.get 1 rfl);have ff:=fun o=>frozen_of_row w2 (gk+1) o _ _ (C2.o.get 1 rfl);have HF:=hideK (ans6 (C2.o.get 1 rfl) C2.o.low (by have:=HGK.o;omega) (.int .i64 0) (.int .i64 0) (.string ⟨#[]⟩) (.string ⟨#[]⟩) (.int .i64 0) (.int .i64 1));have s6:=cells6 HF.o.2;(go_wp2_with fail);exact bodyPost_ret (v:=.agg #[.int .i64 0,.int .i64 0,.string ⟨#[]⟩,.string ⟨#[]⟩,.int .i64 0,.int .i64 1]) (by simp[results,results11,go_sem,s6.1,s6.2.1,s6.2.2.1,s6.2.2.2.1,s6.2.2.2.2.1,s6.2.2.2.2.2]) rfl ⟨by rw[HE.o],HF.o.1⟩
   |true =>
    have HJN:=hideK (HJN0.o (by have:=(keepB_yes hk).1;unfold mayB at this;simp only[Bool.and_eq_true,decide_eq_true_eq]at this;exact this.2));clear HJN0;rw[hk,if_neg (by decide)]at HA;have C3:=hideK (C2.o.new (.cells #[.int .i64 i,.string t,.slice a n cap] 58));have OW3:=hideK (OW2.o.alloc (.cells #[.int .i64 i,.string t,.slice a n cap] 58));clear hk C2 OW2
    go_upto_region 7 with fail
    generalize w2.alloc _=W3 at C3 OW3 ⊢;generalize w2.heap.size=gr at C3 ⊢;obtain⟨x0,x1,x2⟩:=cells3 (C3.o.get 0 rfl);obtain⟨k0,k1,k2,k3,k4⟩:=k_cells (C3.o.get 3 rfl);have HFT1:=hideK (HFT.o W3 C3.o.low h8 h4)
    cases hfit:fit (i,t,p) with
    |false =>
     rw[hfit]at HFT1;rw[hfit,if_pos rfl]at HA;have HE:=HA;clear hfit HFT HTX HJN;(go_wp2_with fail);refine HFT1.o.mono ?_;rintro e w4 ⟨rfl,hb⟩;have C4:=hideK (C3.o.call hb);clear hb C3 OW3 x0 x1 x2 k0 k1 k2 k3 k4;obtain⟨q0,q1,q2,q3,q4,q5⟩:=cells6 (C4.o.get 2 rfl);have ff:=fun o=>frozen_of_row w4 (gk+1) o _ _ (C4.o.get 2 rfl);have HF:=hideK (ans6 (C4.o.get 2 rfl) C4.o.low (by have:=HGK.o;omega) (.int .i64 0) (.int .i64 0) (.string ⟨#[]⟩) (.string ⟨#[]⟩) (.int .i64 0) (.int .i64 5));have s6:=cells6 HF.o.2;(go_wp2_with fail);exact bodyPost_ret (v:=.agg #[.int .i64 0,.int .i64 0,.string ⟨#[]⟩,.string ⟨#[]⟩,.int .i64 0,.int .i64 5]) (by simp[results,results11,go_sem,s6.1,s6.2.1,s6.2.2.1,s6.2.2.2.1,s6.2.2.2.2.1,s6.2.2.2.2.2]) rfl ⟨by rw[HE.o],HF.o.1⟩
    |true =>
     rw[hfit]at HFT1;rw[hfit,if_neg (by decide)]at HA;have HTX1:=hideK (fun W hW=>HTX.o W hW hfit);clear hfit HFT HTX;(go_wp2_with fail);refine HFT1.o.mono ?_;rintro e w4 ⟨rfl,hb⟩;have C4:=hideK (C3.o.call hb);have OW4:=hideK (OW3.o.below hb);clear hb C3 OW3 x0 x1 x2 k0 k1 k2 k3 k4 HFT1;have HHS:=hideK (has_any gw _ m.length i _ m w4 (wk_cells (C4.o.get 1 rfl)).1 (lt_rowK (C4.o.get 1 rfl)) OW4.o PS.o rfl hml);(go_wp2_with fail);refine HHS.o.mono ?_;rintro e w5 ⟨rfl,hb⟩;have C5:=hideK (C4.o.call hb);clear hb C4 OW4 HHS
     cases hhas:hasR (recs m) i with
     |true =>
      rw[hhas,if_pos rfl]at HA;have HE:=HA;clear hhas HTX1 HJN;obtain⟨q0,q1,q2,q3,q4,q5⟩:=cells6 (C5.o.get 2 rfl);have ff:=fun o=>frozen_of_row w5 (gk+1) o _ _ (C5.o.get 2 rfl);have HF:=hideK (ans6 (C5.o.get 2 rfl) C5.o.low (by have:=HGK.o;omega) (.int .i64 0) (.int .i64 0) (.string ⟨#[]⟩) (.string ⟨#[]⟩) (.int .i64 0) (.int .i64 7));have s6:=cells6 HF.o.2;(go_wp2_with fail);exact bodyPost_ret (v:=.agg #[.int .i64 0,.int .i64 0,.string ⟨#[]⟩,.string ⟨#[]⟩,.int .i64 0,.int .i64 7]) (by simp[results,results11,go_sem,s6.1,s6.2.1,s6.2.2.1,s6.2.2.2.1,s6.2.2.2.2.1,s6.2.2.2.2.2]) rfl ⟨by rw[HE.o],HF.o.1⟩
     |false =>
      rw[hhas,if_neg (by decide)]at HA;clear hhas;have CX:Hid (∀ W,Below w5.heap.size w5 W->W.cell? ⟨gk,3,none⟩=some (.string s)/\W.cell? ⟨gr,0,none⟩=some (.int .i64 i)/\W.cell? ⟨gr,1,none⟩=some (.string t)/\W.cell? ⟨gr,2,none⟩=some (.slice a n cap)):=fun W h=>⟨(k_cells (blkL (C5.o.get 3 rfl) h)).2.2.2.1,cells3 (blkL (C5.o.get 0 rfl) h)⟩
      go_upto_region 11 with fail
      go_cut [11] from 40 to 45 (fun s11 wx=>s11=.string L/\Below w5.heap.size w5 wx)
      case first =>
       have hS0:=CX.o _ (lm_drew (Below.refl w5.heap.size w5));have HTX2:=hideK (fun W (h:Below w5.heap.size w5 W)=>HTX1.o W (lowL C5.o.low h))
       go_region_held3 (fun W=>W.cell? ⟨gk,3,none⟩=some (.string s)/\W.cell? ⟨gr,0,none⟩=some (.int .i64 i)/\W.cell? ⟨gr,1,none⟩=some (.string t)/\W.cell? ⟨gr,2,none⟩=some (.slice a n cap))
        (first|assumption|exact CX.o _ (by repeat (first|exact L1.o|exact L2.o|exact Below.refl _ _|refine lm_alloc ?_ _|refine lm_drew ?_)))
        (first
         |(go_at_call 29;(with_reducible refine(HTX2.o _ ?_).mono ?_);(· repeat (first|exact Below.refl _ _|refine lm_alloc ?_ _|refine lm_drew ?_));rintro e v1 ⟨rfl,hb⟩;have L1:=hideK (lowL (w0:=w5) (by repeat (first|exact Below.refl _ _|refine lm_alloc ?_ _|refine lm_drew ?_)) hb);clear hb)
         |(go_at_call 28;(with_reducible refine(HJN.o _ _ ?_).mono ?_);(· exact heap_alloc_new _ _);rintro e v2 ⟨rfl,hb⟩;have L2:=hideK (lowL (w0:=w5) (by repeat (first|exact L1.o|exact Below.refl _ _|refine lm_alloc ?_ _|refine lm_drew ?_)) hb);clear hb))
       all_goals (try go_wp2_with fail)
       all_goals (go_meet;exact⟨rfl,L2.o⟩)
      case rest =>
       obtain⟨rfl,hbc⟩:=hcut;have C6:=hideK (C5.o.call hbc);clear hbc C5 CX HTX1 HJN;obtain⟨k0,k1,k2,k3,k4⟩:=k_cells (C6.o.get 3 rfl);by_cases h9:8000<L.size
       ·rw[if_pos h9]at HA
        have HE:=HA;have h9':(8000:Int)<L.size:=(by omega);obtain⟨q0,q1,q2,q3,q4,q5⟩:=cells6 (C6.o.get 2 rfl);have ff:=fun o=>frozen_of_row wc (gk+1) o _ _ (C6.o.get 2 rfl);have HF:=hideK (ans6 (C6.o.get 2 rfl) C6.o.low (by have:=HGK.o;omega) (.int .i64 0) (.int .i64 0) (.string ⟨#[]⟩) (.string ⟨#[]⟩) (.int .i64 0) (.int .i64 9));have s6:=cells6 HF.o.2;(go_wp2_with fail);exact bodyPost_ret (v:=.agg #[.int .i64 0,.int .i64 0,.string ⟨#[]⟩,.string ⟨#[]⟩,.int .i64 0,.int .i64 9]) (by simp[results,results11,go_sem,s6.1,s6.2.1,s6.2.2.1,s6.2.2.2.1,s6.2.2.2.2.1,s6.2.2.2.2.2]) rfl ⟨by rw[HE.o],HF.o.1⟩
       ·rw[if_neg h9]at HA
        have HE:=HA;have h9':¬((8000:Int)<L.size):=(by omega);have h9D:decide ((8000:Int)<L.size)=false:=(by simp;omega);obtain⟨q0,q1,q2,q3,q4,q5⟩:=cells6 (C6.o.get 2 rfl);have ff:=fun o=>frozen_of_row wc (gk+1) o _ _ (C6.o.get 2 rfl);have HF:=hideK (ans6 (C6.o.get 2 rfl) C6.o.low (by have:=HGK.o;omega) (.int .i64 z) (.int .i64 b) (.string r) (.string L) (.int .i64 y) (.int .i64 0));have s6:=cells6 HF.o.2;(go_wp2_with fail);exact bodyPost_ret (v:=.agg #[.int .i64 z,.int .i64 b,.string r,.string L,.int .i64 y,.int .i64 0]) (by simp[results,results11,go_sem,s6.1,s6.2.1,s6.2.2.1,s6.2.2.2.1,s6.2.2.2.2.1,s6.2.2.2.2.2]) rfl ⟨by rw[HE.o],HF.o.1⟩
  ·have h4':(400:Int)<n:=by omega
   rw[if_pos (.inr (by omega))]at HA;have HE:=HA;clear HO HR HFT HTX HJN0;obtain⟨q0,q1,q2,q3,q4,q5⟩:=cells6 (C0.o.get 0 rfl);have ff:=fun o=>frozen_of_row W0 (gk+1) o _ _ (C0.o.get 0 rfl);have HF:=hideK (ans6 (C0.o.get 0 rfl) C0.o.low (by have:=HGK.o;omega) (.int .i64 0) (.int .i64 0) (.string ⟨#[]⟩) (.string ⟨#[]⟩) (.int .i64 0) (.int .i64 2));have s6:=cells6 HF.o.2
   go_wp2_with fail
   exact bodyPost_ret (v:=.agg #[.int .i64 0,.int .i64 0,.string ⟨#[]⟩,.string ⟨#[]⟩,.int .i64 0,.int .i64 2]) (by simp[results,results11,go_sem,s6.1,s6.2.1,s6.2.2.1,s6.2.2.2.1,s6.2.2.2.2.1,s6.2.2.2.2.2]) rfl ⟨by rw[HE.o],HF.o.1⟩
 ·have h8':(8000:Int)<t.size:=by omega
  rw[if_pos (.inl (by omega))]at HA;have HE:=HA;clear HO HR HFT HTX HJN0;obtain⟨q0,q1,q2,q3,q4,q5⟩:=cells6 (C0.o.get 0 rfl);have ff:=fun o=>frozen_of_row W0 (gk+1) o _ _ (C0.o.get 0 rfl);have HF:=hideK (ans6 (C0.o.get 0 rfl) C0.o.low (by have:=HGK.o;omega) (.int .i64 0) (.int .i64 0) (.string ⟨#[]⟩) (.string ⟨#[]⟩) (.int .i64 0) (.int .i64 2));have s6:=cells6 HF.o.2
  go_wp2_with fail
  exact bodyPost_ret (v:=.agg #[.int .i64 0,.int .i64 0,.string ⟨#[]⟩,.string ⟨#[]⟩,.int .i64 0,.int .i64 2]) (by simp[results,results11,go_sem,s6.1,s6.2.1,s6.2.2.1,s6.2.2.2.1,s6.2.2.2.2.1,s6.2.2.2.2.2]) rfl ⟨by rw[HE.o],HF.o.1⟩
end Kp
end Go.Proofs.YtbdcffjcogglbaaGreatDoor
