/- Texts put together: ShaSpread. -/
import Derived.Test.YtpddanmnlkcdpaaGreatDoorHz0
import Derived.Test.YtpddanmnlkcdpaaGreatDoorHz2
import Derived.BigRegion
import Derived.BigQuiet
import Derived.Deep.QuietTactic
set_option maxRecDepth 100000
set_option maxHeartbeats 8000000
namespace Go.Proofs.YtpddanmnlkcdpaaGreatDoor.Sh
open Go.RowKit
def lows (B:Nat->Nat) (k:Nat):Nat->Int:=fun j=>if j<k then (word B j:Nat) else 0
def highs (B:Nat->Nat) (k:Nat):Nat->Int:=fun j=>if j<k then wv B j else 0
theorem lows_start (B:Nat->Nat) (k j:Nat):upd (lows B k) k ((part B k 0:Nat):Int) j=lows B k j:=by
 unfold upd lows part
 by_cases e:j=k
 ·subst e;simp
 ·simp[e]
theorem lows_end (B:Nat->Nat) (k j:Nat):upd (lows B k) k ((part B k 4:Nat):Int) j=lows B (k+1) j:=by
 unfold upd lows word
 by_cases e:j=k
 ·subst e;simp
 ·have:(j<k+1)=(j<k):=propext ⟨fun h=>by omega,fun h=>by omega⟩
  simp[e,this]
theorem highs_start (B:Nat->Nat) (j:Nat):lows B 16 j=highs B 16 j:=by
 unfold lows highs
 by_cases e:j<16
 ·rw[if_pos e,if_pos e,wv_lo B j e]
 ·rw[if_neg e,if_neg e]
theorem highs_end (B:Nat->Nat) (k j:Nat) (v:Int) (hv:v=wv B k):upd (highs B k) k v j=highs B (k+1) j:=by
 subst hv
 unfold upd highs
 by_cases e:j=k
 ·subst e;simp
 ·have:(j<k+1)=(j<k):=propext ⟨fun h=>by omega,fun h=>by omega⟩
  simp[e,this]
theorem highs_at (B:Nat->Nat) (k j:Nat) (h:j<k):highs B k j=wv B j:=by simp[highs,h]
theorem Tryz.size300:(Tryz.prog.info? 300).map (·.size)=some 64:=by kernel_rfl
theorem hideS {p:Prop} (h:p):Hid p:=h
theorem zero64:(#[.int .u32 0,.int .u32 0,.int .u32 0,.int .u32 0,.int .u32 0,.int .u32 0,.int .u32 0,.int .u32 0,.int .u32 0,.int .u32 0,.int .u32 0,.int .u32 0,.int .u32 0,.int .u32 0,.int .u32 0,.int .u32 0,
 .int .u32 0,.int .u32 0,.int .u32 0,.int .u32 0,.int .u32 0,.int .u32 0,.int .u32 0,.int .u32 0,.int .u32 0,.int .u32 0,.int .u32 0,.int .u32 0,.int .u32 0,.int .u32 0,.int .u32 0,.int .u32 0,
 .int .u32 0,.int .u32 0,.int .u32 0,.int .u32 0,.int .u32 0,.int .u32 0,.int .u32 0,.int .u32 0,.int .u32 0,.int .u32 0,.int .u32 0,.int .u32 0,.int .u32 0,.int .u32 0,.int .u32 0,.int .u32 0,
 .int .u32 0,.int .u32 0,.int .u32 0,.int .u32 0,.int .u32 0,.int .u32 0,.int .u32 0,.int .u32 0,.int .u32 0,.int .u32 0,.int .u32 0,.int .u32 0,.int .u32 0,.int .u32 0,.int .u32 0,.int .u32 0]:Array Value)=rowF .u32 64 (fun _=>0):=by rfl
theorem spread_any (b off c:Nat) (B:Nat->Nat) (w:World) (hB:∀ j,B j<256) (hb:b<w.heap.size) (hc:∀ j,j<64->w.cell? ⟨b,off+j,none⟩=some (.int .u8 (B j:Nat))) (hcap:64<=c) :
  Calls Tryz.prog 240 #[.slice (some ⟨b,off,none⟩) 64 c] w fun e w'=>e=.returned (.agg (rowF .u32 64 (wv B)))/\Below w.heap.size w w':=by
 have HC:=hideS hc
 have HBB:=hideS hB
 clear hc hB
 go_enter Tryz.func240,Tryz.ntmps240
 go_wp2
 go_loopw [12] (fun i wr=>∃ k:Nat,i=.int .i64 k/\k<=16/\IsB wr (w.heap.size+1) 300 .u32 64 (lows B k)/\IsB wr w.heap.size 300 .u32 64 (fun _=>0)/\Below w.heap.size w wr/\wr.heap.size=w.heap.size+2) (fun i _=>16-(intOf i).toNat)
 case atStart =>
  refine⟨0,rfl,by omega,?_,?_,((Below.refl _ _).alloc (Nat.le_refl _) _).alloc (by simp) _,by simp⟩
  ·have:=IsB.of_list (w.alloc (.cells (rowF .u32 64 (fun _=>0)) 300)) 300 .u32 64 (lows B 0) _ (zero64.trans (rowF_congr (fun j _=>by simp[lows])))
   simpa [zero64] using this
  ·exact(IsB.of_list w 300 .u32 64 (fun _=>0) _ zero64).alloc _
 case round =>
  obtain⟨k,rfl,hk,h1,h0,hbel,hsz⟩:=hrel
  have H1:=hideS h1
  have H0:=hideS h0
  clear h1 h0
  by_cases hlt:k<16
  ·have hs1:(4*(k:Int)).toNat=4*k:=by omega
   have hs2:(4*(k:Int)+4).toNat=4*k+4:=by omega
   go_wp2
   go_loopw [23] (fun j w2=>∃ m:Nat,j=.int .i64 m/\m<=4/\IsB w2 (w.heap.size+1) 300 .u32 64 (upd (lows B k) k (part B k m:Nat))/\IsB w2 w.heap.size 300 .u32 64 (fun _=>0)/\Below w.heap.size w w2/\w2.heap.size=w.heap.size+2) (fun i _=>4-(intOf i).toNat)
   case atStart =>
    refine⟨0,rfl,by omega,H1.out.congr (fun j _=>?_),H0.out,hbel,hsz⟩
    exact(lows_start B k j).symm
   case round =>
    obtain⟨m,rfl,hm,h1,h0,hbel2,hsz2⟩:=hrel
    have G1:=hideS h1
    have G0:=hideS h0
    by_cases hlm:m<4
    ·have hcell:wr.cell? ⟨w.heap.size+1,k,none⟩=some (.int .u32 (part B k m:Nat)):=by
      have:=h1.cell (j:=k) (by omega)
      rwa[upd_same]at this
     have hfz:=h1.frozen k
     have hby:wr.cell? ⟨b,off+4*k+m,none⟩=some (.int .u8 (B (4*k+m):Nat)):=by
      rw[hbel2.cell (p:=⟨b,off+4*k+m,none⟩) hb,Nat.add_assoc]
      exact HC.out _ (by omega)
     have hx:=part_lt24 B HBB.out k m hlm
     have hbb:=HBB.out (4*k+m)
     have HO:=hideS (or_step _ _ hx hbb)
     clear h1 h0
     go_wp2
     go_roundw
     case rel =>
      have:=G1.out.set k (part B k (m+1):Nat)
      rw[upd_upd]at this
      refine⟨m+1,by go_num,by omega,?_,G0.out.set_other _ _ (by simp),hbel2.setCell (by simp) _,by simp[hsz2]⟩
      rw[HO.out]
      exact this
     case measure=>simp[intOf];omega
    ·obtain rfl:m=4:=by omega
     have G2:=hideS (h1.congr (fun j _=>lows_end B k j))
     clear h1 h0
     go_wp2
     go_roundw
     case rel=>exact⟨k+1,by go_num,by omega,G2.out,G0.out,hbel2,hsz2⟩
     case measure=>simp[intOf];omega
  ·have H2:Hid (IsB wr (w.heap.size+1) 300 .u32 64 (highs B 16)):=by
    have e:k=16:=by omega
    have h:=H1.out
    rw[e]at h
    exact h.congr (fun j _=>highs_start B j)
   clear H1
   go_wp2
   go_loopw [7] (fun i wr=>∃ k:Nat,i=.int .i64 k/\16<=k/\k<=64/\IsB wr (w.heap.size+1) 300 .u32 64 (highs B k)/\IsB wr w.heap.size 300 .u32 64 (fun _=>0)/\Below w.heap.size w wr/\wr.heap.size=w.heap.size+2) (fun i _=>64-(intOf i).toNat)
   case atStart=>exact⟨16,rfl,by omega,by omega,H2.out,H0.out,hbel,hsz⟩
   case round =>
    obtain⟨k,rfl,hk1,hk2,h1,h0,hbel2,hsz2⟩:=hrel
    have G1:=hideS h1
    have G0:=hideS h0
    by_cases hlt:k<64
    ·have e15:((k:Int)-15).toNat=k-15:=by omega
     have e2:((k:Int)-2).toNat=k-2:=by omega
     have e16:((k:Int)-16).toNat=k-16:=by omega
     have e7:((k:Int)-7).toNat=k-7:=by omega
     obtain⟨x15,hx15⟩:∃ x,x=wv B (k-15):=⟨_,rfl⟩
     obtain⟨x2,hx2⟩:∃ x,x=wv B (k-2):=⟨_,rfl⟩
     obtain⟨x16,hx16⟩:∃ x,x=wv B (k-16):=⟨_,rfl⟩
     obtain⟨x7,hx7⟩:∃ x,x=wv B (k-7):=⟨_,rfl⟩
     have HV:Hid ((x16+sm0 x15+x7+sm1 x2)%4294967296=wv B k):=by
      unfold Hid
      rw[wv_hi B k (by omega),hx15,hx2,hx16,hx7]
     have c15:wr.cell? ⟨w.heap.size+1,k-15,none⟩=some (.int .u32 x15):=by rw[h1.cell (by omega),highs_at B k _ (by omega),hx15]
     have c2:wr.cell? ⟨w.heap.size+1,k-2,none⟩=some (.int .u32 x2):=by rw[h1.cell (by omega),highs_at B k _ (by omega),hx2]
     have c16:wr.cell? ⟨w.heap.size+1,k-16,none⟩=some (.int .u32 x16):=by rw[h1.cell (by omega),highs_at B k _ (by omega),hx16]
     have c7:wr.cell? ⟨w.heap.size+1,k-7,none⟩=some (.int .u32 x7):=by rw[h1.cell (by omega),highs_at B k _ (by omega),hx7]
     have ck:=h1.cell (j:=k) (by omega)
     have hfz:=h1.frozen k
     clear h1 h0 hx15 hx2 hx16 hx7
     go_wp2_with fail
     go_region
     go_wp2_with (go_at_call 241;refine(turnI_impl _ _ _ (by decide) (by decide)).mono ?_;rintro e w' ⟨rfl,hw⟩;subst w')
     go_region
     go_wp2_with fail
     go_roundw
     case rel =>
      have hb3:=hbel2.setCell (p:=⟨w.heap.size+1,k,none⟩) (by simp) (.int .u32 (wv B k))
      have hs3:(wr.setCell ⟨w.heap.size+1,k,none⟩ (.int .u32 (wv B k))).heap.size=w.heap.size+2:=by simp[hsz2]
      have e:=HV.out
      simp only[sm0,sm1]at e
      rw[e]
      exact⟨k+1,by go_num,by omega,by omega,IsB.congr (G1.out.set k _) (fun j _=>highs_end B k j _ rfl),G0.out.set_other ⟨w.heap.size+1,k,none⟩ _ (by simp),⟨hb3.os,hb3.tape,hb3.output,hb3.size,hb3.block⟩,hs3⟩
     case measure=>simp[intOf];omega
    ·obtain rfl:k=64:=by omega
     clear h1 h0
     go_wp2_with (first|((with_reducible refine wpList_load_row G1.out Tryz.underlying300 Tryz.size300 ?_ ?_);(· rfl))|((with_reducible refine wpList_store_row G0.out Tryz.size300 (highs B 64) ?_ ?_ ?_);(· rfl);(· rfl)))
     refine bodyPost_ret (v:=.agg (rowF .u32 64 (highs B 64))) (results_row rfl _ rfl (G0.out.row _) Tryz.underlying300 Tryz.size300) rfl ⟨?_,below_row hbel2 (Nat.le_refl _) _⟩
     rw[rowF_congr (fun j hj=>highs_at B 64 j hj)]
end Go.Proofs.YtpddanmnlkcdpaaGreatDoor.Sh

