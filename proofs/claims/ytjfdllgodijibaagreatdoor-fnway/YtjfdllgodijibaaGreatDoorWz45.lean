/- Texts put together: PcSpec. -/
import Derived.Test.YtjfdllgodijibaaGreatDoorWz44
import Derived.Test.YtjfdllgodijibaaGreatDoorWz25
set_option maxRecDepth 100000
set_option maxHeartbeats 8000000
namespace Go.Proofs.YtjfdllgodijibaaGreatDoor.Pk
open Go.RowKit
open St (OwnS IsS Strs one_newS one_cellS app_one)
open Bk (blocksR blocksR_length fine_any fineB blks cnt cnt_le l06Blocks_any own_noneS)
theorem l06Pieces_any (s:ByteArray) (k:Nat) (w:World) (hf:fineB s.size (k:Int)=true) :
  Calls Tryz.prog 48 #[.string s,.int .i64 k] w fun e w'=>∃ v,e=.returned v/\OwnS w' w.heap.size v (piecesR s (k:Int))/\Below w.heap.size w w':=by
 obtain⟨i0,hif,hz0,hz1,hz2⟩:=info_parts St.Tryz.infoS9
 have h:=of_decide_eq_true hf
 have HR:Hid (blocksR s (k:Int)=blks s k (cnt s.size k)):=if_pos hf
 have HB:Hid (Calls Tryz.prog 64 #[.string s,.int .i64 k] w fun e w'=>∃ v,e=.returned v/\OwnS w' w.heap.size v (blocksR s (k:Int))/\Below w.heap.size w w'):=by
  rw[HR.out]
  exact l06Blocks_any s k w h.1 (by omega) (by omega) ((cnt_le (by omega)).2 (by omega))
 have HL:=blocksR_length s (k:Int)
 have HSZ:=hideP (blocks_size s (k:Int))
 have HP:Hid (piecesR s (k:Int)=(blocksR s (k:Int)).map packB):=rfl
 rw[HP.out]
 clear HP HR hf h
 generalize blocksR s (k:Int)=l at HB HL HSZ ⊢
 go_enter Tryz.func48,Tryz.ntmps48
 go_wp2_with fail
 refine HB.out.mono ?_
 rintro e w1 ⟨v1,rfl,ho1,hb1⟩
 obtain⟨a,cap,hv,_,hi1⟩:=ho1.strs
 obtain⟨n,hn⟩:∃ n,n=l.length:=⟨_,rfl⟩
 rw[<-hn]at hv HL
 subst hv
 have HN:=hideP hn
 have S1:=hideP hi1
 have B1:=hideP hb1
 have hz1':=hb1.size
 clear hn hi1 hb1 ho1
 go_wp2_with fail
 go_loopw [7,6] (fun iv tv wr=>∃ j:Nat,iv=.int .i64 j/\j<=n/\OwnS wr w1.heap.size tv ((l.take j).map packB)/\Below w1.heap.size w1 wr) (fun iv _ _=>n-(intOf iv).toNat)
 case atStart=>exact⟨0,rfl,Nat.zero_le _,own_noneS _,(Below.refl _ _).alloc (Nat.le_refl _) _⟩
 case round =>
  obtain⟨j,rfl,hj,ho,hbw⟩:=hrel
  have O:=hideP ho
  have BW:=hideP hbw
  have hzr:=hbw.size
  clear ho hbw
  by_cases hlt:j<n
  ·have hjl:j<l.length:=by rw[<-HN.out];exact hlt
   obtain⟨b,off,rfl,hb,hcl⟩:=strs_some (S1.out.below BW.out) (by omega)
   have ci:=hcl j hjl
   have hx:=HSZ.out l[j] (List.getElem_mem hjl)
   have HNX:Hid ((l.take (j+1)).map packB=(l.take j).map packB++[packB l[j]]):=by
    unfold Hid
    rw[List.take_add_one,List.getElem?_eq_getElem hjl,List.map_append]
    rfl
   have HLL:Hid (((l.take j).map packB).length=j):=by
    unfold Hid
    rw[List.length_map,List.length_take]
    omega
   generalize (l.take j).map packB=q at O HNX HLL
   generalize l[j]=x at ci hx HNX
   have HP:=hideP (fun W=>pack_l06 x W hx)
   generalize packB x=px at HP HNX
   have hjn:(j:Int)<n:=by omega
   clear hcl hjl
   go_wp2_with fail
   refine(HP.out _).mono ?_
   rintro e w3 ⟨rfl,hb3⟩
   have O3:=hideP (O.out.below hb3)
   have B3:=hideP (BW.out.trans (hb3.mono hzr))
   have hz3:=B3.out.size
   clear hb3
   go_wp2_with (at_builtin;refine wpList_append_own _ rfl (.tmp 18) (.tmp 24) 23 rfl w1.heap.size 9 i0 (.string ⟨#[]⟩) 1 16 Tryz.underlying23 hif hz0 hz1 hz2 rfl (by decide) _ _ _ rfl (World.ownsRow.alloc O3.out _) ⟨w3.heap.size,0,none⟩ 1 1 [.string px] rfl rfl (one_newS w3 _ _) (one_cellS _) (by rw[HLL.out];unfold maxLen;omega) (by rw[HLL.out];omega) (by simp;omega) ?_)
   intro v4 w4 hown hgrow _
   have O4:Hid (OwnS w4 w1.heap.size v4 ((l.take (j+1)).map packB)):=by
    rw[HNX.out]
    exact OwnS.snoc hown
   have B4:=hideP (app_one B3.out hz3 (Nat.le_refl _) O3.out hgrow)
   clear hown hgrow O3 O
   go_wp2_with fail
   go_roundw
   case rel=>exact⟨j+1,by go_num,by omega,O4.out,B4.out⟩
   case measure=>simp[intOf];omega
  ·obtain rfl:j=n:=by omega
   have OE:Hid (OwnS wr w1.heap.size u6 (l.map packB)):=by
    have:=O.out
    rw[List.take_of_length_le (by rw[<-HN.out];exact Nat.le_refl _)]at this
    exact this
   go_wp2_with fail
   go_ret
   exact⟨_,rfl,OE.out.mono hz1',B1.out.trans (BW.out.mono hz1')⟩
theorem pieces_spec (s:ByteArray) (size:Int) (w:World) (hs:s.size<=1048576) :
  Calls Tryz.prog 31 #[.string s,.int .i64 size] w fun e w'=>∃ v,e=.returned v/\OwnS w' w.heap.size v (piecesR s size)/\Below w.heap.size w w':=by
 have HFI:=hideP (fine_any s size w hs)
 cases hf:fineB s.size size with
 |false =>
  have HR:Hid (piecesR s size=[]):=by
   unfold Hid piecesR
   rw[show blocksR s size=[] from if_neg (by rw[hf];decide)]
   rfl
  rw[hf]at HFI
  go_enter Tryz.func31,Tryz.ntmps31
  go_wp2_with fail
  refine HFI.out.mono ?_
  rintro e w1 ⟨rfl,hw⟩
  subst w1
  go_wp2_with fail
  go_ret
  exact⟨_,rfl,by rw[HR.out];exact own_noneS _,(Below.refl _ _).alloc (Nat.le_refl _) _⟩
 |true =>
  have h:=of_decide_eq_true hf
  obtain⟨k,rfl⟩:∃ k:Nat,size=k:=⟨size.toNat,by omega⟩
  have HB:=hideP (l06Pieces_any s k w hf)
  rw[hf]at HFI
  generalize piecesR s (k:Int)=R at HB ⊢
  clear hf h
  go_enter Tryz.func31,Tryz.ntmps31
  go_wp2_with fail
  refine HFI.out.mono ?_
  rintro e w1 ⟨rfl,hw⟩
  subst w1
  go_wp2_with fail
  refine HB.out.mono ?_
  rintro e w2 ⟨v2,rfl,ho2,hb2⟩
  have O2:=hideP ho2
  have B2:=hideP hb2
  clear ho2 hb2
  go_wp2_with fail
  go_ret
  exact⟨_,rfl,O2.out,B2.out⟩
end Go.Proofs.YtjfdllgodijibaaGreatDoor.Pk

