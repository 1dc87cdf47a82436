import Derived.Test.YtbdcffjcogglbaaGreatDoorOz8
import Derived.Test.YtbdcffjcogglbaaGreatDoorOz9
import Derived.Test.YtbdcffjcogglbaaGreatDoorOz12
set_option maxRecDepth 100000
set_option maxHeartbeats 8000000
namespace Go.Proofs.YtbdcffjcogglbaaGreatDoor
open Go.RowKit
open Go.Proofs.Tryz
namespace Bk
open St (OwnS one_newS one_cellS app_one)
open Nu (cut_any)
theorem hideK {p:Prop} (h:p):Hid p:=h
theorem blocks_impl (s:ByteArray) (size:Int) (w:World) (hs:s.size<=1048576) :
  Calls prog 39 #[.string s,.int .i64 size] w fun e w'=>∃ v,e=.returned v/\OwnS w' w.heap.size v (blocksR s size)/\Below w.heap.size w w':=by
 obtain⟨i0,hif,hz0,hz1,hz2⟩:=info_parts St.Tryz.infoS9;by_cases h1:1000<s.size
 ·have HR:Hid (blocksR s size=[]):=if_neg (by unfold fineB;simp;omega)
  have h1':(1000:Int)<(s.size:Int):=by omega
  go_enter func39,ntmps39
  go_wp2_with fail
  go_ret;exact⟨_,rfl,by rw[HR.o];exact OwnS.nil _ _,Below.refl _ _⟩
 have h1':decide ((1000:Int)<(s.size:Int))=false:=by simp;omega
 by_cases h2:size<1
 ·have HR:Hid (blocksR s size=[]):=if_neg (by unfold fineB;simp;omega)
  go_enter func39,ntmps39
  go_wp2_with fail
  go_ret;exact⟨_,rfl,by rw[HR.o];exact OwnS.nil _ _,Below.refl _ _⟩
 have h2':decide (size<1)=false:=by simp;omega
 by_cases h3:48<size
 ·have HR:Hid (blocksR s size=[]):=if_neg (by unfold fineB;simp;omega)
  go_enter func39,ntmps39
  go_wp2_with fail
  go_ret;exact⟨_,rfl,by rw[HR.o];exact OwnS.nil _ _,Below.refl _ _⟩
 have h3':decide (48<size)=false:=by simp;omega
 obtain⟨k,rfl⟩:∃ k:Nat,size=k:=⟨size.toNat,by omega⟩
 have hk:0<k:=by omega
 have hk48:k<=48:=by omega
 have hmul:wrap64 ((k:Int)*64)=(k:Int)*64:=by simp only[wrap64];omega
 by_cases h4:(k:Int)*64<(s.size:Int)
 ·have HR:Hid (blocksR s (k:Int)=[]):=if_neg (by unfold fineB;simp;omega)
  have h4':decide (wrap64 ((k:Int)*64)<(s.size:Int))=true:=by rw[hmul];exact decide_eq_true h4
  have h4'':wrap64 ((k:Int)*64)<(s.size:Int):=by rw[hmul];exact h4
  clear hmul;go_enter func39,ntmps39
  go_wp2_with fail
  go_ret;exact⟨_,rfl,by rw[HR.o];exact OwnS.nil _ _,Below.refl _ _⟩
 have h4':decide ((k:Int)*64<(s.size:Int))=false:=decide_eq_false h4;have HR:Hid (blocksR s (k:Int)=blks s k (cnt s.size k)):=if_pos (by unfold fineB;simp;omega);have HC64:=hideK ((cnt_le (p:=s.size) hk).2 (by omega));have HCD:=hideK (fun j=>cnt_done (p:=s.size) (j:=j) hk);have HNX:=hideK (fun j=>next_le (p:=s.size) (j:=j) hk);have HCUT:=hideK (fun (i j:Nat) (W:World) (h1:i<=j) (h2:j<=s.size)=>cut_any s i j W hs h1 h2)
 have hs1:s.size<=1000:=by omega
 rw[HR.o];clear h1 h2 h3 h4 HR hmul;go_enter func39,ntmps39
 go_wp2_with fail
 go_loopw [7,6] (fun iv tv wr=>∃ j:Nat,iv=.int .i64 (j*k:Nat)/\j<=cnt s.size k/\OwnS wr w.heap.size tv (blks s k j)/\Below w.heap.size w wr) (fun iv _ _=>s.size-(intOf iv).toNat)
 case atStart=>exact⟨0,by simp,Nat.zero_le _,OwnS.nil _ _,Below.refl _ _⟩
 case round =>
  obtain⟨j,rfl,hj,ho,hb⟩:=hrel;have O:=hideK ho;have B:=hideK hb;have hz:=hb.size;have HL:=hideK (blks_length s k j);have hj64:j<=64:=Nat.le_trans hj HC64.o;have HNXT:Hid (blks s k (j+1)=blks s k j++[s.extract (j*k) (min (j*k+k) s.size)]):=rfl
  have HMU:Hid ((j+1)*k=j*k+k):=by unfold Hid;rw[Nat.add_mul,Nat.one_mul]
  have HN1:=hideK (HNX.o j);have HC1:=hideK (HCD.o j hj);clear ho hb;generalize hp:j*k=p at HNXT HMU HN1 HC1 ⊢;have HP:=hideK hp;clear hp;by_cases hlt:p<s.size
  ·have hlt':(p:Int)<(s.size:Int):=by omega
   by_cases hpk:p+k<=s.size
   ·have hpk':(p:Int)+k<=(s.size:Int):=by omega
    have HX:Hid (min (p+k) s.size=p+k):=by unfold Hid;omega
    rw[HX.o]at HNXT
    have HC:Hid (∀ W,Calls prog 66 #[.string s,.int .i64 p,.int .i64 ((p:Int)+k)] W fun e w'=>e=.returned (.string (s.extract p (p+k)))/\Below W.heap.size W w'):=fun W=>by
     have:=HCUT.o p (p+k) W (by omega) (by omega)
     simpa using this
    generalize s.extract p (p+k)=x at HC HNXT;clear HX;(go_wp2_with fail);refine(HC.o wr).mono ?_;rintro e w2 ⟨rfl,hb2⟩;have O2:=hideK (O.o.below hb2);have B2:=hideK (B.o.trans (hb2.mono hz));have hz2':=B2.o.size;clear hb2
    go_wp2_with (at_builtin;refine wpList_append_own _ rfl (.tmp 31) (.tmp 40) 31 rfl w.heap.size 9 i0 (.string ⟨#[]⟩) 1 16 underlying31 hif hz0 hz1 hz2 rfl (by decide) _ _ _ rfl (World.ownsRow.alloc O2.o _) ⟨w2.heap.size,0,none⟩ 1 1 [.string x] rfl rfl (one_newS w2 _ _) (one_cellS _) (by rw[HL.o];unfold maxLen;omega) (by rw[HL.o];omega) (by simp;omega) ?_)
    intro v3 w3 hown hgrow _
    have O3:Hid (OwnS w3 w.heap.size v3 (blks s k (j+1))):=by
     rw[HNXT.o];exact OwnS.snoc hown
    have B3:=hideK (app_one B2.o hz2' nl O2.o hgrow);clear hown hgrow O2;(go_wp2_with fail)
    go_roundw
    case rel=>exact⟨j+1,by rw[HMU.o];go_num,HN1.o hlt,O3.o,B3.o⟩
    case measure=>simp[intOf];omega
   ·have hpk':decide ((p:Int)+k<=(s.size:Int))=false:=by simp;omega
    have hpk'':(s.size:Int)<(p:Int)+k:=by omega
    have HX:Hid (min (p+k) s.size=s.size):=by unfold Hid;omega
    rw[HX.o]at HNXT
    have HC:Hid (∀ W,Calls prog 66 #[.string s,.int .i64 p,.int .i64 ((s.size:Int))] W fun e w'=>e=.returned (.string (s.extract p (s.size)))/\Below W.heap.size W w'):=fun W=>by
     have:=HCUT.o p (s.size) W (by omega) (by omega)
     simpa using this
    generalize s.extract p (s.size)=x at HC HNXT;clear HX;(go_wp2_with fail);refine(HC.o wr).mono ?_;rintro e w2 ⟨rfl,hb2⟩;have O2:=hideK (O.o.below hb2);have B2:=hideK (B.o.trans (hb2.mono hz));have hz2':=B2.o.size;clear hb2
    go_wp2_with (at_builtin;refine wpList_append_own _ rfl (.tmp 31) (.tmp 40) 31 rfl w.heap.size 9 i0 (.string ⟨#[]⟩) 1 16 underlying31 hif hz0 hz1 hz2 rfl (by decide) _ _ _ rfl (World.ownsRow.alloc O2.o _) ⟨w2.heap.size,0,none⟩ 1 1 [.string x] rfl rfl (one_newS w2 _ _) (one_cellS _) (by rw[HL.o];unfold maxLen;omega) (by rw[HL.o];omega) (by simp;omega) ?_)
    intro v3 w3 hown hgrow _
    have O3:Hid (OwnS w3 w.heap.size v3 (blks s k (j+1))):=by
     rw[HNXT.o];exact OwnS.snoc hown
    have B3:=hideK (app_one B2.o hz2' nl O2.o hgrow);clear hown hgrow O2;(go_wp2_with fail)
    go_roundw
    case rel=>exact⟨j+1,by rw[HMU.o];go_num,HN1.o hlt,O3.o,B3.o⟩
    case measure=>simp[intOf];omega
  ·obtain rfl:=HC1.o hlt
   have hlt':decide ((p:Int)<(s.size:Int))=false:=by simp;omega
   go_wp2_with fail
   go_ret;exact⟨_,rfl,O.o,B.o⟩
end Bk
end Go.Proofs.YtbdcffjcogglbaaGreatDoor
