/- Texts put together: ShaTake. -/
import Derived.Test.YtpddanmnlkcdpaaGreatDoorHz3
import Derived.Test.YtpddanmnlkcdpaaGreatDoorHz0
set_option maxRecDepth 100000
set_option maxHeartbeats 8000000
namespace Go.Proofs.YtpddanmnlkcdpaaGreatDoor.Sh
open Go.RowKit
theorem Tryz.size293:(Tryz.prog.info? 293).map (·.size)=some 8:=by kernel_rfl
theorem take_any (s:Nat->Int) (b off c:Nat) (B:Nat->Nat) (w:World) (hB:∀ j,B j<256) (hb:b<w.heap.size) (hc:∀ j,j<64->w.cell? ⟨b,off+j,none⟩=some (.int .u8 (B j:Nat))) (hcap:64<=c)
  (hK:IsV w 3 .u32 64 keyF) :
  Calls Tryz.prog 236 #[.agg (rowF .u32 8 s),.slice (some ⟨b,off,none⟩) 64 c] w fun e w'=>e=.returned (.agg (rowF .u32 8 (blk B s)))/\Below w.heap.size w w':=by
 have HC:=hideS hc
 have HBB:=hideS hB
 have HK:=hideS hK
 clear hc hB hK
 go_enter Tryz.func236,Tryz.ntmps236
 go_wp2_with fail
 have hs0:IsB ((w.alloc (.cells (rowF .u32 8 s) 293)).alloc (.cells #[.int .u32 0,.int .u32 0,.int .u32 0,.int .u32 0,.int .u32 0,.int .u32 0,.int .u32 0,.int .u32 0] 293)) w.heap.size 293 .u32 8 s:=(IsB.new w _ _ _ _).alloc _
 have hr0:IsB ((w.alloc (.cells (rowF .u32 8 s) 293)).alloc (.cells #[.int .u32 0,.int .u32 0,.int .u32 0,.int .u32 0,.int .u32 0,.int .u32 0,.int .u32 0,.int .u32 0] 293)) (w.heap.size+1) 293 .u32 8 (fun _=>0):=by
  have:=IsB.of_list (w.alloc (.cells (rowF .u32 8 s) 293)) 293 .u32 8 (fun _=>0) _ (show (#[.int .u32 0,.int .u32 0,.int .u32 0,.int .u32 0,.int .u32 0,.int .u32 0,.int .u32 0,.int .u32 0]:Array Value)=_ by rfl)
  simpa using this
 have hb0:Below w.heap.size w ((w.alloc (.cells (rowF .u32 8 s) 293)).alloc (.cells #[.int .u32 0,.int .u32 0,.int .u32 0,.int .u32 0,.int .u32 0,.int .u32 0,.int .u32 0,.int .u32 0] 293)):=((Below.refl _ _).alloc (Nat.le_refl _) _).alloc (by simp) _
 have hz0:((w.alloc (.cells (rowF .u32 8 s) 293)).alloc (.cells #[.int .u32 0,.int .u32 0,.int .u32 0,.int .u32 0,.int .u32 0,.int .u32 0,.int .u32 0,.int .u32 0] 293)).heap.size=w.heap.size+2:=by simp
 generalize ((w.alloc (.cells (rowF .u32 8 s) 293)).alloc (.cells #[.int .u32 0,.int .u32 0,.int .u32 0,.int .u32 0,.int .u32 0,.int .u32 0,.int .u32 0,.int .u32 0] 293))=u at hs0 hr0 hb0 hz0 ⊢
 refine(spread_any b off c B u HBB.out (by omega) (fun j hj=>(hb0.cell (p:=⟨b,off+j,none⟩) hb).trans (HC.out j hj)) hcap).mono ?_
 rintro e w1 ⟨rfl,hb1⟩
 rw[hz0]at hb1
 have hs1:=hs0.below hb1 (by omega)
 have hr1:=hr0.below hb1 (by omega)
 have hz1:w.heap.size+2<=w1.heap.size:=by have:=hb1.size;omega
 have hb2:=hb0.trans (hb1.mono (by omega))
 clear hs0 hr0 hb0 hz0 hb1
 have hK1:=HK.out.below hb2 HK.out.lt
 have HS:=hideS hs1
 have HR:=hideS hr1
 have HW:=hideS hb2
 have HK1:=hideS hK1
 clear hs1 hr1 hb2 hK1
 go_wp2_with ((with_reducible refine wpList_store_row' (IsB.of_list w1 300 .u32 64 (fun _=>0) _ zero64) Tryz.size300 (wv B) ?_ ?_ ?_);(· rfl);(· rfl);intro w2 hi2 hB2 hz2 ho2;have HWV:=hideS hi2;have hlo:∀ j,j<w1.heap.size->w2.heap[j]? = w1.heap[j]?:=fun j hj=>(ho2 j (by omega)).trans (Below.heap_alloc w1 _ j hj);have hs2:=HS.out.of_heap (hlo _ (by omega));have HS2:=hideS hs2;have HR2:=hideS (HR.out.of_heap (hlo _ (by omega)));have HK2:=hideS (HK1.out.of_heap (hlo _ (by have:=HK1.out.lt;omega)));have HW2:=hideS ((HW.out.alloc (by omega) _).trans (hB2 _ (by omega)));have HZ2:=hideS (show w2.heap.size=w1.heap.size+1 by rw[hz2];simp);clear hlo hi2 hB2 hz2 ho2 HS HR HW HK1;have q0:=hs2.cell (j:=0) (by decide);have q1:=hs2.cell (j:=1) (by decide);have q2:=hs2.cell (j:=2) (by decide);have q3:=hs2.cell (j:=3) (by decide);have q4:=hs2.cell (j:=4) (by decide);have q5:=hs2.cell (j:=5) (by decide);have q6:=hs2.cell (j:=6) (by decide);have q7:=hs2.cell (j:=7) (by decide);clear hs2)
 generalize w1.heap.size=G at hz1 HWV HZ2 ⊢
 clear w1
 go_region
 go_wp2_with fail
 go_region
 go_wp2_with fail
 clear q0 q1 q2 q3 q4 q5 q6 q7
 go_loopw [6,7,8,9,10,11,12,13,39] (fun va vb vc vd ve vf vg vh i wr=>∃ (k:Nat) (xa xb xc xd xe xf xg xh:Int),i=.int .i64 k/\k<=64/\va=.int .u32 xa/\vb=.int .u32 xb/\vc=.int .u32 xc/\vd=.int .u32 xd/\ve=.int .u32 xe/\vf=.int .u32 xf/\vg=.int .u32 xg/\vh=.int .u32 xh/\(⟨xa,xb,xc,xd,xe,xf,xg,xh⟩:St)=run B s k/\∃ n,wr=w2.drewN n) (fun _ _ _ _ _ _ _ _ i _=>64-(intOf i).toNat)
 case atStart=>exact⟨0,_,_,_,_,_,_,_,_,rfl,by omega,rfl,rfl,rfl,rfl,rfl,rfl,rfl,rfl,rfl,2,rfl⟩
 case round =>
  obtain⟨k,xa,xb,xc,xd,xe,xf,xg,xh,rfl,hk,rfl,rfl,rfl,rfl,rfl,rfl,rfl,rfl,hst,nd,rfl⟩:=hrel
  have HST:=hideS hst
  clear hst
  by_cases hlt:k<64
  ·obtain⟨wk,hwk⟩:∃ x,x=wv B k:=⟨_,rfl⟩
   obtain⟨kk,hkk⟩:∃ x,x=keyF k:=⟨_,rfl⟩
   have c1:w2.cell? ⟨3,k,none⟩=some (.int .u32 kk):=by rw[HK2.out.cell hlt,hkk]
   have c2:w2.cell? ⟨G,k,none⟩=some (.int .u32 wk):=by rw[HWV.out.cell hlt,hwk]
   have HX:Hid (stepS ⟨xa,xb,xc,xd,xe,xf,xg,xh⟩ kk wk=run B s (k+1)):=by
    unfold Hid
    rw[HST.out,hwk,hkk]
    rfl
   clear hwk hkk
   go_wp2_with (go_at_call 241;refine(turnI_impl _ _ _ (by decide) (by decide)).mono ?_;rintro e w' ⟨rfl,hw⟩;subst w')
   go_quiet (fail)
   go_wp2_with (go_at_call 241;refine(turnI_impl _ _ _ (by decide) (by decide)).mono ?_;rintro e w' ⟨rfl,hw⟩;subst w')
   go_roundw
   case rel=>exact⟨k+1,_,_,_,_,_,_,_,_,by go_num,by omega,rfl,rfl,rfl,rfl,rfl,rfl,rfl,rfl,(step_walk xa xb xc xd xe xf xg xh kk wk).trans HX.out,nd+nq,rfl⟩
   case measure=>simp[intOf];omega
  ·obtain⟨X,hX⟩:∃ X:St,X=⟨xa,xb,xc,xd,xe,xf,xg,xh⟩:=⟨_,rfl⟩
   have HE:Hid (X=run B s 64):=by
    unfold Hid
    rw[hX,HST.out]
    congr 1
    omega
   have HX:=hideS hX
   clear hX
   go_wp2_with fail
   go_loopw [113] (fun i wr=>∃ j:Nat,i=.int .i64 j/\j<=8/\IsB wr w.heap.size 293 .u32 8 (addF X s j)/\IsB wr (w.heap.size+1) 293 .u32 8 (fun _=>0)/\Below w.heap.size w wr) (fun i _=>8-(intOf i).toNat)
   case atStart=>exact⟨0,rfl,by omega,IsB.congr HS2.out (fun j _=>addF_zero X s j),HR2.out,⟨HW2.out.os,HW2.out.tape,HW2.out.output,HW2.out.size,HW2.out.block⟩⟩
   case round =>
    obtain⟨j,rfl,hj,h1,h0,hbel⟩:=hrel
    have G1:=hideS h1
    have G0:=hideS h0
    by_cases hlt8:j<8
    ·obtain⟨xj,hxj⟩:∃ x,x=X.at j:=⟨_,rfl⟩
     obtain⟨sj,hsj⟩:∃ x,x=s j:=⟨_,rfl⟩
     have hidx:=idx8 xa xb xc xd xe xf xg xh j hlt8
     rw[<-HX.out,<-hxj]at hidx
     have hc1:wr.cell? ⟨w.heap.size,j,none⟩=some (.int .u32 sj):=by rw[h1.cell hlt8,addF_at,hsj]
     have hfz:=h1.frozen j
     have HV:=hideS (show (sj+xj)%4294967296=(s j+X.at j)%4294967296 by rw[hxj,hsj])
     clear h1 h0 hxj hsj
     go_wp2_with fail
     go_roundw
     case rel =>
      rw[HV.out]
      refine⟨j+1,by go_num,by omega,IsB.congr (G1.out.set j _) (fun i _=>addF_next X s j i _ (upd_same _ _ _) (fun i hi=>upd_other _ _ _ _ hi)),G0.out.set_other _ _ (by simp),hbel.setCell (Nat.le_refl _) _⟩
     case measure=>simp[intOf];omega
    ·obtain rfl:j=8:=by omega
     have G2:=hideS (h1.congr (fun i hi=>addF_end B s X HE.out i hi))
     clear h1 h0
     go_wp2_with (first|((with_reducible refine wpList_load_row G2.out Tryz.underlying293 Tryz.size293 ?_ ?_);(· rfl))|((with_reducible refine wpList_store_row G0.out Tryz.size293 (blk B s) ?_ ?_ ?_);(· rfl);(· rfl)))
     refine bodyPost_ret (v:=.agg (rowF .u32 8 (blk B s))) (results_row rfl _ rfl (G0.out.row _) Tryz.underlying293 Tryz.size293) rfl ⟨rfl,below_row hbel (by omega) _⟩
end Go.Proofs.YtpddanmnlkcdpaaGreatDoor.Sh

