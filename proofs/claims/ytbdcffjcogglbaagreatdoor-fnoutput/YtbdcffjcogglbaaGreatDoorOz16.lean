import Derived.Test.YtbdcffjcogglbaaGreatDoorOz13
import Derived.Test.YtbdcffjcogglbaaGreatDoorOz15
set_option maxRecDepth 100000
set_option maxHeartbeats 8000000
namespace Go.Proofs.YtbdcffjcogglbaaGreatDoor
open Go.RowKit
open Go.Proofs.Tryz
namespace Bk
open St (OwnS one_newS one_cellS app_one)
open Bi (is_yes is_no)
theorem own_noneS (W:World):OwnS (W.alloc (.cells #[] 9)) W.heap.size (.slice (some ⟨W.heap.size,0,none⟩) 0 0) [] :=
 ⟨rfl,.inr ⟨W.heap.size,0,#[],rfl,nl,heap_alloc_new W _,nl,by unfold maxLen;omega,rfl,rfl⟩⟩
theorem count_any (p k:Nat) (w:World) (hp:p<=1000) (hk:0<k) (hk2:k<=48) :
  Calls prog 23 #[.int .i64 p,.int .i64 k] w fun e w'=>e=.returned (.int .i64 (cnt p k:Nat))/\w'=w:=by
 have hq:((p:Int)+k-1).tdiv k=((cnt p k:Nat):Int):=by
  unfold cnt;rw[Int.tdiv_eq_ediv_of_nonneg (by omega),Int.natCast_ediv]
  congr 1
  omega
 have hk0:((k:Int)==0)=false:=by simp;omega
 have hcb:cnt p k<=1047:=by
  have:=Nat.div_le_self (p+k-1) k
  unfold cnt;omega
 generalize cnt p k=c at hq hcb ⊢;go_enter func23,ntmps23
 go_wp2_with fail
 go_ret;exact⟨rfl,rfl⟩
theorem fine_any (s:ByteArray) (size:Int) (w:World) (hs:s.size<=1048576) :
  Calls prog 19 #[.string s,.int .i64 size] w fun e w'=>e=.returned (.bool (fineB s.size size))/\w'=w:=by
 by_cases h1:s.size<=1000
 ·have h1':(s.size:Int)<=1000:=by omega
  by_cases h2:1<=size/\size<=48
  ·obtain⟨k,rfl⟩:∃ k:Nat,size=k:=⟨size.toNat,by omega⟩
   have HI:=hideK (is_yes (k:Int) 1 48 w h2.1 h2.2);have HC:=hideK (count_any s.size k w h1 (by omega) (by omega));have HE:=hideK (cnt_le (p:=s.size) (k:=k) (by omega));by_cases h3:cnt s.size k<=64
   ·have HF:Hid (fineB s.size (k:Int)=true):=by unfold Hid fineB;have:=HE.o.1 h3;simp;omega
    have h3':((cnt s.size k:Nat):Int)<=64:=by omega
    rw[HF.o];generalize cnt s.size k=c at HC h3';clear h3 HE h2;go_enter func19,ntmps19;(go_wp2_with fail);refine HI.o.mono ?_;rintro e w1 ⟨rfl,hw⟩;subst w1;(go_wp2_with fail);refine HC.o.mono ?_;rintro e w1 ⟨rfl,hw⟩;subst w1;(go_wp2_with fail);go_ret;exact⟨rfl,rfl⟩
   ·have HF:Hid (fineB s.size (k:Int)=false):=by unfold Hid fineB;have:=HE.o.2;simp;omega
    have h3':decide (((cnt s.size k:Nat):Int)<=64)=false:=by simp;omega
    rw[HF.o];generalize cnt s.size k=c at HC h3';clear h3 HE h2;go_enter func19,ntmps19;(go_wp2_with fail);refine HI.o.mono ?_;rintro e w1 ⟨rfl,hw⟩;subst w1;(go_wp2_with fail);refine HC.o.mono ?_;rintro e w1 ⟨rfl,hw⟩;subst w1;(go_wp2_with fail);go_ret;exact⟨rfl,rfl⟩
  ·have HF:Hid (fineB s.size size=false):=by unfold Hid fineB;simp;omega
   have HI:=hideK (is_no size 1 48 w (by omega));rw[HF.o];clear h2 HF;go_enter func19,ntmps19
   go_wp2_with fail
   refine HI.o.mono ?_;rintro e w1 ⟨rfl,hw⟩;subst w1
   go_wp2_with fail
   go_ret;exact⟨rfl,rfl⟩
 ·have HF:Hid (fineB s.size size=false):=by unfold Hid fineB;simp;omega
  have h1':decide ((s.size:Int)<=1000)=false:=by simp;omega
  rw[HF.o];go_enter func19,ntmps19
  go_wp2_with fail
  go_ret;exact⟨rfl,rfl⟩
theorem minS_any (p q:Nat) (w:World):Calls prog 68 #[.int .i64 p,.int .i64 q] w fun e w'=>e=.returned (.int .i64 (min p q:Nat))/\w'=w:=by
 by_cases h:p<q
 ·have HE:Hid (min p q=p):=by unfold Hid;omega
  rw[HE.o]
  have h':(p:Int)<q:=by omega
  go_enter func68,ntmps68
  go_wp2_with fail
  go_ret;exact⟨rfl,rfl⟩
 ·have HE:Hid (min p q=q):=by unfold Hid;omega
  rw[HE.o]
  have h':¬(p:Int)<q:=by omega
  go_enter func68,ntmps68
  go_wp2_with fail
  go_ret;exact⟨rfl,rfl⟩
theorem l06Blocks_any (s:ByteArray) (k:Nat) (w:World) (hs:s.size<=1000) (hk:0<k) (hk2:k<=48) (h64:cnt s.size k<=64) :
  Calls prog 43 #[.string s,.int .i64 k] w fun e w'=>∃ v,e=.returned v/\OwnS w' w.heap.size v (blks s k (cnt s.size k))/\Below w.heap.size w w':=by
 obtain⟨i0,hif,hz0,hz1,hz2⟩:=info_parts St.Tryz.infoS9;have HC64:=hideK h64;have HCD:=hideK (fun j=>cnt_done (p:=s.size) (j:=j) hk);have HNX:=hideK (fun j=>next_le (p:=s.size) (j:=j) hk);clear h64
 have HF0:Hid (s=rest s k 0):=by unfold Hid rest;rw[Nat.zero_mul,ByteArray.extract_zero_size]
 go_enter func43,ntmps43
 go_wp2_with fail
 go_loopw [0,5,6] (fun sv tv _ wr=>∃ j:Nat,sv=.string (rest s k j)/\j<=cnt s.size k/\OwnS wr w.heap.size tv (blks s k j)/\Below w.heap.size w wr) (fun sv _ _ _=>match sv with|.string t=>t.size|_=>0)
 case atStart=>exact⟨0,by rw[<-HF0.o],Nat.zero_le _,own_noneS _,(Below.refl _ _).alloc nl _⟩
 case round =>
  obtain⟨j,rfl,hj,ho,hb⟩:=hrel;have O:=hideK ho;have B:=hideK hb;have hz:=hb.size;have HL:=hideK (blks_length s k j);have hj64:j<=64:=Nat.le_trans hj HC64.o;have HNXT:Hid (blks s k (j+1)=blks s k j++[s.extract (j*k) (min (j*k+k) s.size)]):=rfl;have HN1:=hideK (HNX.o j);have HC1:=hideK (HCD.o j hj);have HRN:=hideK (rest_next s k j);have HRH:=hideK (rest_head s k j);have hrs:=rest_size s k j;have hrs2:=rest_size s k (j+1);rw[Nat.add_mul,Nat.one_mul]at hrs2;clear ho hb;by_cases hlt:j*k<s.size
  ·have RN:=hideK (HRN.o hlt)
   have RH:=hideK (HRH.o hlt);rw[<-RH.o]at HNXT
   have hr0:0<(rest s k j).size:=by omega
   have hm1:min k (s.size-j*k)<=(rest s k j).size:=by omega
   have hr1000:(rest s k j).size<=1000:=by omega
   have HMS:Hid (0<min k (s.size-j*k)):=by unfold Hid;omega
   have HSZ:Hid ((rest s k (j+1)).size<(rest s k j).size):=by unfold Hid;omega
   have HN2:=hideK (HN1.o hlt);rw[<-hrs]at RN RH HNXT hm1;clear RH HRN HRH hrs2 hlt HN1 HC1 HMS;generalize hf2:rest s k (j+1)=f2 at RN HSZ;have HF2:=hideK hf2;clear hf2;have HMIN:=hideK (fun W=>minS_any k (rest s k j).size W);clear hrs;generalize rest s k j=f at RN HNXT hm1 hr0 hr1000 HMIN HSZ ⊢;generalize min k f.size=mn at RN HNXT hm1 HMIN
   have hr0':(0:Int)<(f.size:Int):=by omega
   have hm1':(mn:Int)<=(f.size:Int):=by omega
   go_wp2_with fail
   refine(HMIN.o _).mono ?_;rintro e w2 ⟨rfl,hw2⟩;subst w2
   go_wp2_with (at_builtin;refine wpList_append_own _ rfl (.tmp 15) (.tmp 19) 31 rfl w.heap.size 9 i0 (.string ⟨#[]⟩) 1 16 underlying31 hif hz0 hz1 hz2 rfl (by decide) _ _ _ rfl (World.ownsRow.alloc O.o _) ⟨wr.heap.size,0,none⟩ 1 1 [.string (f.extract 0 mn)] rfl rfl (one_newS wr _ _) (one_cellS _) (by rw[HL.o];unfold maxLen;omega) (by rw[HL.o];omega) (by simp;omega) ?_)
   intro v3 w3 hown hgrow _
   have O3:Hid (OwnS w3 w.heap.size v3 (blks s k (j+1))):=by
    rw[HNXT.o];exact OwnS.snoc hown
   have B3:=hideK (app_one B.o hz nl O.o hgrow);clear hown hgrow O
   go_wp2_with fail
   go_roundw
   case rel=>exact⟨j+1,by rw[HF2.o,<-RN.o],HN2.o,O3.o,B3.o⟩
   case measure=>rw[RN.o];exact HSZ.o
  ·obtain rfl:=HC1.o hlt
   have hr0:(rest s k (cnt s.size k)).size=0:=by omega
   have hr0':decide ((0:Int)<((rest s k (cnt s.size k)).size:Int))=false:=by rw[hr0];rfl
   clear hrs hrs2 HRN HRH;generalize rest s k (cnt s.size k)=f at hr0 hr0' ⊢
   go_wp2_with fail
   go_ret;exact⟨_,rfl,O.o,B.o⟩
end Bk
end Go.Proofs.YtbdcffjcogglbaaGreatDoor
