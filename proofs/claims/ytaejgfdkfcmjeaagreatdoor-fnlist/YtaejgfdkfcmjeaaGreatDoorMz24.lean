import Derived.Test.YtaejgfdkfcmjeaaGreatDoorMz20
import Derived.Test.YtaejgfdkfcmjeaaGreatDoorMz17
import Derived.Lib.Strings
import Derived.Test.YtaejgfdkfcmjeaaGreatDoorMz28
import Derived.Deep.RegionWith
import Derived.Test.YtaejgfdkfcmjeaaGreatDoorMz11
import Derived.ArgAppend
set_option maxRecDepth 100000
set_option maxHeartbeats 8000000
namespace Go.Proofs.YtaejgfdkfcmjeaaGreatDoor
open Go.RowKit
open Go.Proofs.Tryz
namespace Sh
open Nu (bv hideJ run_copy_string)
theorem fill_any (t:ByteArray) (w:World) (ht:t.size<=1048576) :
  Calls prog 152 #[.string t] w fun e w'=>e=.returned (.slice (some ⟨w.heap.size,0,none⟩) (chunks t.size*64) (chunks t.size*64)) /\
   IsB w' w.heap.size 5 .u8 (chunks t.size*64) (fun j=>(pad t j:Nat))/\Below w.heap.size w w':=by
 obtain⟨i0,hi,hz0,hz1,hz2⟩:=info_parts Nu.Tryz.infoJ5;obtain⟨ch,hch⟩:∃ c,c=chunks t.size:=⟨_,rfl⟩;have hr:=chunks_room t.size;have hti:=chunks_tight t.size
 have hc:((t.size:Int)+1+8+64-1)/64=(ch:Int):=by rw[hch];unfold chunks;omega
 have hcw:((ch:Int)*64).toNat=ch*64:=by omega
 rw[<-hch]at hr hti ⊢;have HCH:=hideJ hch;clear hch;go_enter func152,ntmps152
 go_wp2_with (at_make;refine wpList_make_full _ rfl (.tmp 15) (.tmp 15) 22 rfl w.heap.size 5 i0 (.int .u8 0) 1 underlying22 hi hz0 hz1 .i64 .i64 _ _ (ch*64) rfl rfl (by simp) (by simp) (by rw[hz2];omega) (by unfold maxLen;omega) (Nat.le_refl _) ?_;intro w1 hown1 hgrow1;have hrow:=made_row hown1;have hbel1:=(Below.refl w.heap.size w).grown hgrow1 (Nat.le_refl _) (by simp);obtain⟨w2,c1,hrow2,k1,k2,k3,k4,k5⟩:=run_copy_string (P:=prog) w1 22 9 3 5 (some ⟨w.heap.size,0,none⟩) w.heap.size 0 (ch*64) (ch*64) t (rowF .u8 (ch*64) (fun _=>0)).toList 5 underlying22 Nu.Tryz.sizeJ5 (by unfold IsB at hrow;simpa using hrow) (fun _=>rfl) (by omega) (by simp[rowF_size];omega);rw[splice_row _ _ _ (by omega)]at hrow2;have hrow3:IsB w2 w.heap.size 5 .u8 (ch*64) (fun j=>if j<t.size then (bt t j:Nat) else 0):=hrow2;have HB:=hideJ hrow3;have HL:=hideJ (Nu.copy_below hbel1 k1 k2 k3 k4 k5);have hce:=hrow3.cell (j:=t.size) (by omega);have hfz:=hrow3.frozen t.size;clear hown1 hgrow1 hrow hbel1 k1 k2 k3 k4 k5 hrow2 hrow3)
 go_loopw [28] (fun i wr=>∃ k:Nat,i=.int .i64 k/\k<=8/\IsB wr w.heap.size 5 .u8 (ch*64) (fun j=>(padK t k j:Nat))/\Below w.heap.size w wr) (fun i _=>8-(intOf i).toNat)
 case atStart =>
  refine⟨0,rfl,by omega,IsB.congr (HB.o.set t.size 128) (fun j hj=>pad_start t j (by rw[<-HCH.o];exact hj)),HL.o.setCell (Nat.le_refl _) _⟩
 case round =>
  obtain⟨k,rfl,hk,h1,hbel⟩:=hrel;have G1:=hideJ h1;by_cases hlt:k<8
  ·have e1:((ch:Int)*64-1-(k:Int)).toNat=ch*64-1-k:=by omega
   have ce:=h1.cell (j:=ch*64-1-k) (by omega);have cf:=h1.frozen (ch*64-1-k)
   have HV:Hid (((t.size:Int)*8/2 ^ (8*k))%256=((t.size*8/2 ^ (8*k)%256:Nat):Int)):=by
    unfold Hid;simp
   clear h1
   go_wp2_with fail
   go_roundw
   case rel =>
    refine⟨k+1,by go_num,by omega,IsB.congr (G1.o.set (ch*64-1-k) _) (fun j hj=>?_),hbel.setCell (Nat.le_refl _) _⟩;rw[HCH.o]at hj ⊢;exact pad_next t k hlt _ HV.o j hj
   case measure=>simp[intOf];omega
  ·obtain rfl:k=8:=by omega
   clear h1
   go_wp2_with fail
   go_ret;exact⟨rfl,G1.o,hbel⟩
end Sh
namespace Nu
theorem join_some (a b:ByteArray) (w:World) (h:a.size+b.size<=1099511627776) (hb:¬b=ByteArray.empty) :
  Calls prog 65 #[.string a,.string b] w fun e w'=>e=.returned (.string (a++b))/\Below w.heap.size w w':=by
 obtain⟨i0,hi,hz0,hz1,hz2⟩:=info_parts Tryz.infoJ5;go_enter func65,ntmps65
 go_wp2_with (at_make;refine wpList_make_full _ rfl (.tmp 10) (.tmp 10) 22 rfl w.heap.size 5 i0 (.int .u8 0) 1 underlying22 hi hz0 hz1 .i64 .i64 _ _ (a.size+b.size) rfl rfl (by simp) (by simp) (by rw[hz2];omega) (by unfold maxLen;omega) (Nat.le_refl _) ?_;intro w1 hown1 hgrow1;obtain⟨cur,hblk,hlen⟩:=made_block hown1;have hbel1:=(Below.refl w.heap.size w).grown hgrow1 (Nat.le_refl _) (by simp);obtain⟨w2,w3,c1,c2,c3,hb3⟩:=join_facts (P:=prog) (ty:=3) (sT:=9) (a:=a) (b:=b) (dp:=some ⟨w.heap.size,a.size,none⟩) (dLen:=b.size) (dCap:=b.size) underlying22 underlying5 underlying9 Tryz.sizeJ5 hblk hlen rfl hbel1 (fun _=>rfl) (Nat.le_refl _);clear hown1 hgrow1 hblk hlen hbel1)
 go_ret;exact⟨rfl,by assumption⟩
theorem join_none (a:ByteArray) (w:World) (h:a.size<=1099511627776) :
  Calls prog 65 #[.string a,.string ByteArray.empty] w fun e w'=>e=.returned (.string (a++ByteArray.empty))/\Below w.heap.size w w':=by
 obtain⟨i0,hi,hz0,hz1,hz2⟩:=info_parts Tryz.infoJ5;go_enter func65,ntmps65
 go_wp2_with (at_make;refine wpList_make_full _ rfl (.tmp 10) (.tmp 10) 22 rfl w.heap.size 5 i0 (.int .u8 0) 1 underlying22 hi hz0 hz1 .i64 .i64 _ _ a.size rfl rfl (by simp) (by simp) (by rw[hz2];omega) (by unfold maxLen;omega) (Nat.le_refl _) ?_;intro w1 hown1 hgrow1;obtain⟨cur,hblk,hlen⟩:=made_block hown1;have hbel1:=(Below.refl w.heap.size w).grown hgrow1 (Nat.le_refl _) (by simp);obtain⟨w2,w3,c1,c2,c3,hb3⟩:=join_facts (P:=prog) (ty:=3) (sT:=9) (a:=a) (b:=ByteArray.empty) (dp:=some ⟨w.heap.size,0,none⟩) (dLen:=0) (dCap:=0) underlying22 underlying5 underlying9 Tryz.sizeJ5 hblk hlen (by simp) hbel1 (by simp) (by simp);clear hown1 hgrow1 hblk hlen hbel1)
 go_ret;exact⟨ret_strJ (by simp),by assumption⟩
theorem join_any (a b:ByteArray) (w:World) (h:a.size+b.size<=1099511627776) :
  Calls prog 65 #[.string a,.string b] w fun e w'=>e=.returned (.string (a++b))/\Below w.heap.size w w':=by
 by_cases hb:b=ByteArray.empty
 ·subst hb
  exact join_none a w (by omega)
 ·exact join_some a b w h hb
def putT (t:ByteArray):ByteArray:=if t.size<=8000 then putS (t.size:Int)++t else ⟨#[]⟩
theorem putS_size (n:Int):(putS n).size<=10:=by
 have:=(numB_length (zz n)).1
 simpa [putS,ByteArray.size] using this
theorem text_spec (t:ByteArray) (w:World) (ht:t.size<=maxLen) :
  Calls prog 73 #[.string t] w fun e w'=>e=.returned (.string (putT t))/\Below w.heap.size w w':=by
 unfold maxLen at ht;by_cases h:8000<t.size
 ·have HP:=hide (show putT t=⟨#[]⟩ by unfold putT;rw[if_neg (by omega)])
  go_enter func73,ntmps73
  go_wp2
  go_ret;exact⟨ret_str HP.o.symm,Below.refl _ _⟩
 ·have HP:=hide (show putT t=putS (t.size:Int)++t by unfold putT;rw[if_pos (by omega)])
  have hps:=putS_size (t.size:Int);go_enter func73,ntmps73
  go_wp2_with fail
  refine(put_spec _ _ (by omega) (by omega)).mono ?_;rintro e w1 ⟨rfl,hb1⟩
  go_wp2
  go_ret;exact⟨ret_str HP.o.symm,hb1⟩
theorem text_impl (t:ByteArray) (w:World) (ht:t.size<=maxLen) :
  Calls prog 33 #[.string t] w fun e w'=>e=.returned (.string (putT t))/\Below w.heap.size w w':=by
 unfold maxLen at ht;by_cases h:8000<t.size
 ·have HP:=hide (show putT t=⟨#[]⟩ by unfold putT;rw[if_neg (by omega)])
  go_enter func33,ntmps33
  go_wp2
  go_ret;exact⟨ret_str HP.o.symm,Below.refl _ _⟩
 ·have HP:=hide (show putT t=putS (t.size:Int)++t by unfold putT;rw[if_pos (by omega)])
  have hps:=putS_size (t.size:Int);go_enter func33,ntmps33
  go_wp2_with fail
  refine(put_impl _ _ (by omega) (by omega)).mono ?_;rintro e w1 ⟨rfl,hb1⟩
  go_wp2_with fail
  refine(join_any _ _ _ (by omega)).mono ?_;rintro e w2 ⟨rfl,hb2⟩
  go_wp2
  go_ret;exact⟨ret_str HP.o.symm,hb1.trans (hb2.mono hb1.size)⟩
end Nu
namespace Gn
theorem get_in (s:ByteArray) (a:Nat) (w:World) (hs:s.size<=8000) (ha:a<s.size) :
  Calls prog 45 #[.string s,.int .i64 a] w fun e w'=>e=.returned (resV (numR s a))/\Below w.heap.size w w':=by
 go_enter func45,ntmps45
 go_wp2
 go_loop [5,6,7,8] (fun u i _ _=>∃ k v:Nat,k<=9/\i=.int .i64 k/\u=.int .u64 v/\v<2 ^ (7*k)/\numR s a=run s (10-k) k (a+k) v) (fun _ i _ _=>10-(intOf i).toNat)
 case atStart=>exact⟨0,0,by omega,rfl,rfl,by decide,rfl⟩
 case round =>
  obtain⟨k,v,hk,rfl,rfl,hv,hr⟩:=hrel;have HV:=hide hv;have HR:=hide hr;have HK:=hide hk
  have hvb:v<=9223372036854775807:=by have:=pow_le k hk;omega
  clear hv hr;obtain⟨f,hf⟩:∃ f,10-k=f+1:=⟨9-k,by omega⟩;have HF:=hide hf;clear hf;by_cases hp:a+k<s.size
  ·have hb:s[a+k].toNat<256:=s[a+k].toNat_lt
   by_cases h9:k=9/\1<s[a+k].toNat
   ·have hk9:((k:Int)==9)=true:=beq_iff_eq.2 (by omega)
    have hc1:(1:Int)<s[a+k].toNat:=by omega
    have HE:Hid (numR s a=(0,0,3)):=HR.o.trans (by rw[HF.o];exact run_nine s f k (a+k) v hp h9.1 h9.2);have HH:=hide h9;clear h9
    go_wp2
    refine bodyPost_ret (v:=outN 0 0 3) (by simp[results,outN,results45,go_sem]) rfl ⟨by rw[HE.o];rfl,(Below.refl _ _).alloc (Nat.le_refl _) _⟩
   ·obtain⟨x,hx⟩:∃ x,x=v+s[a+k].toNat%128*2 ^ (7*k):=⟨_,rfl⟩
    obtain⟨hm1,hm2⟩:=next_small v s[a+k].toNat k HV.o hk h9;have hw:=wrap_next v s[a+k].toNat k hm1 hm2;rw[<-hx]at hw hm2;have HX:=hide hx;clear hx hm1;have H9:=hide h9;clear h9;by_cases hc:s[a+k].toNat<128
    ·by_cases hz:s[a+k].toNat=0/\0<k
     ·have HE:Hid (numR s a=(0,0,3)):=HR.o.trans (by rw[HF.o];exact run_zero s f k (a+k) v hp hz.1 hz.2)
      have hcz:((s[a+k].toNat:Int)==0)=true:=beq_iff_eq.2 (by omega);have hcd:decide ((1:Int)<s[a+k].toNat)=false:=decide_eq_false (by omega);have hk0:(0:Int)<k:=(by omega);have HZ:=hide hz;clear hz;by_cases e9:k=9
      ·have hk9:((k:Int)==9)=true:=beq_iff_eq.2 (by omega)
       have H99:=hide e9;clear e9
       go_wp2
       refine bodyPost_ret (v:=outN 0 0 3) (by simp[results,outN,results45,go_sem]) rfl ⟨by rw[HE.o];rfl,(Below.refl _ _).alloc (Nat.le_refl _) _⟩
      ·have hk9:((k:Int)==9)=false:=beq_eq_false_iff_ne.2 (by omega)
       go_wp2
       refine bodyPost_ret (v:=outN 0 0 3) (by simp[results,outN,results45,go_sem]) rfl ⟨by rw[HE.o];rfl,(Below.refl _ _).alloc (Nat.le_refl _) _⟩
     ·have HE:Hid (numR s a=(x,a+k+1,0)):=HR.o.trans (by rw[HF.o,HX.o];exact run_last s f k (a+k) v hp H9.o hc hz)
      have HZ:=hide hz;clear hz;by_cases cz:s[a+k].toNat=0
      ·have hk0:k=0:=by have:=HZ.o;omega
       have hcz:((s[a+k].toNat:Int)==0)=true:=beq_iff_eq.2 (by omega);have hnk:¬0<k:=(by omega);have hkd:decide (0<k)=false:=decide_eq_false hnk;have hk9:((k:Int)==9)=false:=beq_eq_false_iff_ne.2 (by omega);have HC:=hide cz;have HK0:=hide hk0;clear cz hk0;by_cases hodd:x%2=1
       ·have ho:(((x:Int)%2)==1)=true:=by rw[beq_iff_eq];omega
        have HO:=hide (unz_odd' x hodd);clear hodd
        go_wp2
        refine bodyPost_ret (v:=outN (-((x:Int)/2)-1) ((a:Int)+k+1) 0) (by simp[results,outN,results45,go_sem]) rfl ⟨by rw[HE.o,HO.o];simp[resV],(Below.refl _ _).alloc (Nat.le_refl _) _⟩
       ·have ho:(((x:Int)%2)==1)=false:=by rw[beq_eq_false_iff_ne];omega
        have HO:=hide (unz_even' x hodd);clear hodd
        go_wp2
        refine bodyPost_ret (v:=outN ((x:Int)/2) ((a:Int)+k+1) 0) (by simp[results,outN,results45,go_sem]) rfl ⟨by rw[HE.o,HO.o];simp[resV],(Below.refl _ _).alloc (Nat.le_refl _) _⟩
      ·have hcz:((s[a+k].toNat:Int)==0)=false:=beq_eq_false_iff_ne.2 (by omega)
       by_cases e9:k=9
       ·have hk9:((k:Int)==9)=true:=beq_iff_eq.2 (by omega)
        have hcd:decide ((1:Int)<s[a+k].toNat)=false:=decide_eq_false (by have:=H9.o;omega);have H99:=hide e9;clear e9;by_cases hodd:x%2=1
        ·have ho:(((x:Int)%2)==1)=true:=by rw[beq_iff_eq];omega
         have HO:=hide (unz_odd' x hodd);clear hodd
         go_wp2
         refine bodyPost_ret (v:=outN (-((x:Int)/2)-1) ((a:Int)+k+1) 0) (by simp[results,outN,results45,go_sem]) rfl ⟨by rw[HE.o,HO.o];simp[resV],(Below.refl _ _).alloc (Nat.le_refl _) _⟩
        ·have ho:(((x:Int)%2)==1)=false:=by rw[beq_eq_false_iff_ne];omega
         have HO:=hide (unz_even' x hodd);clear hodd
         go_wp2
         refine bodyPost_ret (v:=outN ((x:Int)/2) ((a:Int)+k+1) 0) (by simp[results,outN,results45,go_sem]) rfl ⟨by rw[HE.o,HO.o];simp[resV],(Below.refl _ _).alloc (Nat.le_refl _) _⟩
       ·have hk9:((k:Int)==9)=false:=beq_eq_false_iff_ne.2 (by omega)
        by_cases hodd:x%2=1
        ·have ho:(((x:Int)%2)==1)=true:=by rw[beq_iff_eq];omega
         have HO:=hide (unz_odd' x hodd);clear hodd
         go_wp2
         refine bodyPost_ret (v:=outN (-((x:Int)/2)-1) ((a:Int)+k+1) 0) (by simp[results,outN,results45,go_sem]) rfl ⟨by rw[HE.o,HO.o];simp[resV],(Below.refl _ _).alloc (Nat.le_refl _) _⟩
        ·have ho:(((x:Int)%2)==1)=false:=by rw[beq_eq_false_iff_ne];omega
         have HO:=hide (unz_even' x hodd);clear hodd
         go_wp2
         refine bodyPost_ret (v:=outN ((x:Int)/2) ((a:Int)+k+1) 0) (by simp[results,outN,results45,go_sem]) rfl ⟨by rw[HE.o,HO.o];simp[resV],(Below.refl _ _).alloc (Nat.le_refl _) _⟩
    ·have hn9:¬k=9:=by have:=H9.o;omega
     have hk9:((k:Int)==9)=false:=beq_eq_false_iff_ne.2 (by omega);have HE:Hid (numR s a=run s f (k+1) (a+k+1) x):=HR.o.trans (by rw[HF.o,HX.o];exact run_more s f k (a+k) v hp hn9 (by omega))
     go_wp2
     go_round
     case rel=>exact⟨k+1,x,by omega,by go_num,rfl,by rw[HX.o];exact next_lt _ _ _ HV.o,by rw[HE.o,show 10-(k+1)=f from by have:=HF.o;omega];rfl⟩
     case measure=>simp[intOf];omega
  ·have HE:Hid (numR s a=(0,0,4)):=HR.o.trans (by rw[HF.o];exact run_end s f k (a+k) v (by omega))
   go_wp2
   refine bodyPost_ret (v:=outN 0 0 4) (by simp[results,outN,results45,go_sem]) rfl ⟨by rw[HE.o];rfl,(Below.refl _ _).alloc (Nat.le_refl _) _⟩
theorem get_spec (s:ByteArray) (a:Int) (w:World) (hs:s.size<=maxLen) :
  Calls prog 45 #[.string s,.int .i64 a] w fun e w'=>e=.returned (getV s a)/\Below w.heap.size w w':=by
 unfold maxLen at hs;by_cases h1:8000<s.size
 ·have HE:Hid (getV s a=outN 0 0 2):=by unfold Hid getV;rw[if_pos h1]
  go_enter func45,ntmps45
  go_wp2
  refine bodyPost_ret (v:=outN 0 0 2) (by simp[results,outN,results45,go_sem]) rfl ⟨by rw[HE.o],(Below.refl _ _).alloc (Nat.le_refl _) _⟩
 ·by_cases h2:a<0
  ·have HE:Hid (getV s a=outN 0 0 1):=by unfold Hid getV;rw[if_neg h1,if_pos h2]
   go_enter func45,ntmps45
   go_wp2
   refine bodyPost_ret (v:=outN 0 0 1) (by simp[results,outN,results45,go_sem]) rfl ⟨by rw[HE.o],(Below.refl _ _).alloc (Nat.le_refl _) _⟩
  ·obtain⟨n,rfl⟩:=Int.eq_ofNat_of_zero_le (show 0<=a from by omega)
   have e0:getV s (n:Int)=resV (numR s n):=by unfold getV;rw[if_neg h1,if_neg h2,Int.toNat_natCast]
   by_cases h3:n<s.size
   ·rw[e0]
    exact get_in s n w (by omega) h3
   ·have HE:Hid (getV s (n:Int)=outN 0 0 4):=e0.trans (by unfold numR;rw[run_end s 9 0 n 0 (by omega)];rfl)
    clear e0;go_enter func45,ntmps45
    go_wp2
    refine wp_loop_rounds 1 ?_;rw[rounds_succ]
    go_wp2
    refine bodyPost_ret (v:=outN 0 0 4) (by simp[results,outN,results45,go_sem]) rfl ⟨by rw[HE.o],(Below.refl _ _).alloc (Nat.le_refl _) _⟩
end Gn
namespace Hf
def lb (l:List Tree) (a:Nat):Nat->Option Nat
 |0=>none
 |i+1=>if i=a then lb l a i else match lb l a i with
  |none=>some i
  |some k=>if wt l i<wt l k then some i else some k
def shift (a b:Nat):Nat:=if b<a then b else b+1
theorem wt_low (l:List Tree) (a j:Nat) (h:j<a):wt (l.eraseIdx a) j=wt l j:=by
 unfold wt;rw[List.getD_eq_getElem?_getD,List.getD_eq_getElem?_getD,List.getElem?_eraseIdx_of_lt h]
theorem wt_high (l:List Tree) (a j:Nat) (h:a<=j):wt (l.eraseIdx a) j=wt l (j+1):=by
 unfold wt;rw[List.getD_eq_getElem?_getD,List.getD_eq_getElem?_getD,List.getElem?_eraseIdx_of_ge h]
theorem wt_shift (l:List Tree) (a b:Nat):wt (l.eraseIdx a) b=wt l (shift a b):=by
 unfold shift
 split
 ·exact wt_low l a b (by assumption)
 ·exact wt_high l a b (by omega)
theorem lb_low (l:List Tree) (a:Nat):∀ i,i<=a->lb l a i=if i=0 then none else some (shift a (least (l.eraseIdx a) i))
 |0,_=>rfl
 |i+1,h=>by
  have ih:=lb_low l a i (by omega);have hle:=least_le (l.eraseIdx a) i;rw[lb,if_neg (by omega),ih,if_neg (Nat.succ_ne_zero i),least];by_cases h0:i=0
  ·subst h0
   rw[if_pos rfl]
   show some 0=_
   have:least (l.eraseIdx a) 0=0:=rfl
   rw[this,if_neg (Nat.lt_irrefl _)];unfold shift;rw[if_pos (by omega)]
  ·rw[if_neg h0]
   simp only
   rw[wt_low l a i (by omega),wt_shift l a (least (l.eraseIdx a) i)];by_cases hw:wt l i<wt l (shift a (least (l.eraseIdx a) i))
   ·rw[if_pos hw,if_pos hw]
    unfold shift;rw[if_pos (by omega)]
   ·rw[if_neg hw,if_neg hw]
theorem lb_high (l:List Tree) (a:Nat):∀ i,lb l a (a+1+i)=if a+i=0 then none else some (shift a (least (l.eraseIdx a) (a+i)))
 |0=>by
  rw[Nat.add_zero,lb,if_pos rfl,lb_low l a a (Nat.le_refl _),Nat.add_zero]
 |i+1=>by
  have ih:=lb_high l a i;have hle:=least_le (l.eraseIdx a) (a+i);rw[show a+1+(i+1)=(a+1+i)+1 by omega,lb,if_neg (by omega),ih,show a+(i+1)=(a+i)+1 by omega,if_neg (Nat.succ_ne_zero _),least]
  have hs:shift a (a+i)=a+1+i:=by
   unfold shift;rw[if_neg (by omega)];omega
  by_cases h0:a+i=0
  ·rw[if_pos h0]
   simp only
   have h00:least (l.eraseIdx a) (a+i)=0:=by rw[h0];rfl
   rw[h00,h0,if_neg (Nat.lt_irrefl _),<-hs,h0]
  ·rw[if_neg h0]
   simp only
   rw[wt_high l a (a+i) (by omega),show a+i+1=a+1+i by omega,wt_shift l a (least (l.eraseIdx a) (a+i))];by_cases hw:wt l (a+1+i)<wt l (shift a (least (l.eraseIdx a) (a+i)))
   ·rw[if_pos hw,if_pos hw,hs]
   ·rw[if_neg hw,if_neg hw]
theorem lb_all (l:List Tree) (a n:Nat) (ha:a<n) (h2:2<=n):lb l a n=some (shift a (least (l.eraseIdx a) (n-1))):=by
 have:=lb_high l a (n-(a+1))
 rw[show a+1+(n-(a+1))=n by omega,show a+(n-(a+1))=n-1 by omega,if_neg (by omega)]at this;exact this
def oi:Option Nat->Int
 |none=>-1
 |some k=>(k:Int)
theorem lb_lt (l:List Tree) (a:Nat):∀ i k,lb l a i=some k->k<i
 |0,k,h=>by cases h
 |i+1,k,h=>by
  rw[lb]at h
  split at h
  ·have:=lb_lt l a i k h
   omega
  ·split at h
   ·simp at h
    omega
   ·rename_i k' hk'
    have:=lb_lt l a i k' hk'
    split at h<;>simp at h<;>omega
theorem lb_none {l:List Tree} {a i:Nat} (h:lb l a i=none) (hia:¬i=a):lb l a (i+1)=some i:=by
 rw[lb,if_neg hia,h]
theorem lb_some {l:List Tree} {a i k:Nat} (h:lb l a i=some k) (hia:¬i=a):lb l a (i+1)=if wt l i<wt l k then some i else some k:=by
 rw[lb,if_neg hia,h]
end Hf
namespace Ap
def Own0 (w:World) (base:Nat) (e:TypeId) (size:Nat) (v:Value) (n:Nat) (xs:List Value):Prop :=
 (∃ b,v=.slice (some b) 0 0/\n=0/\xs=[])∨w.ownsRow base e size v n xs
theorem Own0.below {w w':World} {base:Nat} {e:TypeId} {size:Nat} {v:Value} {n:Nat} {xs:List Value} (h:Own0 w base e size v n xs) (b:Below w.heap.size w w'):Own0 w' base e size v n xs:=by
 rcases h with h|⟨hl,h⟩
 ·exact .inl h
 ·refine .inr ⟨hl,?_⟩
  rcases h with h|⟨g,cap,cur,hv,hg,hb,rest⟩
  ·exact .inl h
  ·exact .inr ⟨g,cap,cur,hv,hg,by rw[b.block g (Array.getElem?_eq_some_iff.1 hb).1];exact hb,rest⟩
theorem Own0.alloc {w:World} {base:Nat} {e:TypeId} {size:Nat} {v:Value} {n:Nat} {xs:List Value} (h:Own0 w base e size v n xs) (o:Obj):Own0 (w.alloc o) base e size v n xs :=
 h.below ((Below.refl _ _).alloc (Nat.le_refl _) o)
theorem Own0.keep {w w':World} {base:Nat} {e:TypeId} {size:Nat} {v:Value} {n:Nat} {xs:List Value} (h:Own0 w base e size v n xs) (b:∀ k,base<=k->k<w.heap.size->w'.heap[k]? = w.heap[k]?):Own0 w' base e size v n xs:=by
 rcases h with h|⟨hl,h⟩
 ·exact .inl h
 ·refine .inr ⟨hl,?_⟩
  rcases h with h|⟨g,cap,cur,hv,hg,hb,rest⟩
  ·exact .inl h
  ·exact .inr ⟨g,cap,cur,hv,hg,by rw[b g hg (Array.getElem?_eq_some_iff.1 hb).1];exact hb,rest⟩
theorem run_append_own0 {P:Program} (w:World) (base:Nat) (t ty e:TypeId) (i:TypeInfo) (z:Value) (size bytes:Nat) (ht:P.underlying t=some (.slice e)) (hi:P.info? e=some i) (hz:i.zero=some z)
  (hsize:i.size=size) (hby:i.bytes=bytes) (hzs:z.cells.size=size) (hsz:0<size)
  (v:Value) (n:Nat) (xs:List Value) (hown:Own0 w base e size v n xs)
  (a:Addr) (m c:Nat) (news:List Value) (hl:news.length=m*size) (hnews:∀ j u,news[j]? = some u->w.cell? (a.add j)=some u) (h1:∀ u∈news,u.oneCell'=true) (hm:0<m)
  (h63:n+m<=maxLen) (hbytes:(n+m)*bytes<=140737488355328) (hbase:base<=w.heap.size) :
  ∃ v' w',(Builtin.append_ #[t,t] ty #[v,.slice (some a) m c]).run P w=.ok v' w'/\w'.ownsRow base e size v' (n+m) (xs++news)/\∀ B,B<=base->Below B w w':=by
 rcases hown with⟨b,rfl,rfl,rfl⟩|hown
 ·subst hsize
  subst hby
  have hsmall:m<=9223372036854775807:=by simp only[maxLen]at h63;omega
  have hr:=run_append_grow (P:=P) w t ty e i z ht hi hz b 0 0 [] (by simp) (by simp) a m c news hl hnews (by omega) (by omega) (growslice_fits (by omega) hbytes);refine⟨_,_,hr,?_,fun B hB=>?_⟩
  ·have hge:=grownCap_ge w (0+m) 0 e
   have hcm:grownCap w (0+m) 0 e<=maxLen:=grownCap_le_maxLen w (0+m) 0 e h63;refine⟨by simpa using hl,.inr ⟨w.heap.size,_,_,rfl,hbase,heap_alloc_new w.drew _,hge,hcm,?_,?_⟩⟩
   ·simp only[Array.size_append,List.size_toArray,size_zeroCells,hzs,hl,List.length_nil]
    rw[Nat.zero_add,<-Nat.add_mul]
    congr 1
    omega
   ·simp only[Array.toList_append,List.nil_append]
    rw[show (0+m)*i.size=news.length by rw[Nat.zero_add,hl]];exact List.take_left
  ·exact((Below.refl B w).drew).alloc (by simp;omega) _
 ·obtain⟨v',w',hr,h2,h3,_⟩:=run_append_own (P:=P) w base t ty e i z size bytes ht hi hz hsize hby hzs hsz v n xs hown a m c news hl hnews h1 h63 hbytes hbase
  refine⟨v',w',hr,h2,fun B hB=>(Below.refl B w).grown h3 (by omega) ?_⟩;intro k hk;exact Nat.le_trans hB (hown.lt k hk).1
theorem wpList_append_own0 {P:Program} (w:World) {ops:Array Oper} {rest:List Oper} {o:Oper} {a:Act} {Q:Exit->Act->World->Prop} (hgd:o.guard=none) (s x:Operand) (t:TypeId)
  (ho:o.op=.call { callee:=.builtin .append,args:=#[s,x],argTypes:=#[t,t] })
  (base:Nat) (e:TypeId) (i:TypeInfo) (z:Value) (size bytes:Nat) (ht:P.underlying t=some (.slice e)) (hi:P.info? e=some i) (hz:i.zero=some z)
  (hsize:i.size=size) (hby:i.bytes=bytes) (hzs:z.cells.size=size) (hsz:0<size)
  (v:Value) (n:Nat) (xs:List Value) (hs:a.eval s=v) (hown:Own0 w base e size v n xs)
  (ad:Addr) (m c:Nat) (news:List Value) (hx:a.eval x=.slice (some ad) m c) (hl:news.length=m*size) (hnews:∀ j u,news[j]? = some u->w.cell? (ad.add j)=some u) (h1:∀ u∈news,u.oneCell'=true) (hm:0<m)
  (h63:n+m<=maxLen) (hbytes:(n+m)*bytes<=140737488355328) (hbase:base<=w.heap.size)
  (h:∀ v' w',w'.ownsRow base e size v' (n+m) (xs++news)->(∀ B,B<=base->Below B w w')->wpList P ops Q rest (a.put o.dst v') w'):wpList P ops Q (o :: rest) a w :=
 wpList_plain hgd fun _ hK=>by
  obtain⟨v',w',hr,h2,h3⟩:=run_append_own0 (P:=P) w base t o.type e i z size bytes ht hi hz hsize hby hzs hsz v n xs hown ad m c news hl hnews h1 hm h63 hbytes hbase;unfold Oper.wp execOp;simp only[ho,resolve,invoke,builtin,Sem.run_bind,Sem.run_pure,Result.andThen_ok,List.map_toArray,List.map_cons,List.map_nil,hs,hx,hr];exact hK _ _ (h v' w' h2 h3)
def KeepE (e:TypeId) (W W':World):Prop:=∀ (g:Nat) (cur:Array Value) (t:TypeId),t≠e->W.heap[g]? = some (.cells cur t (0,0))->W'.heap[g]? = some (.cells cur t (0,0))
theorem KeepE.below {e:TypeId} {W W':World} (h:Below W.heap.size W W'):KeepE e W W':=fun g _ _ _ hg=>(h.block g (Array.getElem?_eq_some_iff.1 hg).1).trans hg
theorem keepE_own {W W':World} {base size n:Nat} {e:TypeId} {v:Value} {xs:List Value} (h:W.grownBy W' v.ownBlock) (ho:W.ownsRow base e size v n xs):KeepE e W W':=fun g cur t ht hg=>by
 rw[h.block g (Array.getElem?_eq_some_iff.1 hg).1 (by
  intro hk;obtain⟨_,ho⟩:=ho
  rcases ho with⟨hv,_⟩|⟨k,cap,cs,hv,_,hb,_⟩
  ·subst hv
   simp[Value.ownBlock]at hk
  ·subst hv
   simp[Value.ownBlock]at hk;subst hk;rw[hb]at hg;simp at hg
   exact ht hg.2.symm)]
 exact hg
theorem run_append_own0k {P:Program} (w:World) (base:Nat) (t ty e:TypeId) (i:TypeInfo) (z:Value) (size bytes:Nat) (ht:P.underlying t=some (.slice e)) (hi:P.info? e=some i) (hz:i.zero=some z)
  (hsize:i.size=size) (hby:i.bytes=bytes) (hzs:z.cells.size=size) (hsz:0<size)
  (v:Value) (n:Nat) (xs:List Value) (hown:Own0 w base e size v n xs)
  (a:Addr) (m c:Nat) (news:List Value) (hl:news.length=m*size) (hnews:∀ j u,news[j]? = some u->w.cell? (a.add j)=some u) (h1:∀ u∈news,u.oneCell'=true) (hm:0<m)
  (h63:n+m<=maxLen) (hbytes:(n+m)*bytes<=140737488355328) (hbase:base<=w.heap.size) :
  ∃ v' w',(Builtin.append_ #[t,t] ty #[v,.slice (some a) m c]).run P w=.ok v' w'/\w'.ownsRow base e size v' (n+m) (xs++news)/\(∀ B,B<=base->Below B w w')/\KeepE e w w':=by
 rcases hown with⟨b,rfl,rfl,rfl⟩|hown
 ·subst hsize
  subst hby
  have hsmall:m<=9223372036854775807:=by simp only[maxLen]at h63;omega
  have hr:=run_append_grow (P:=P) w t ty e i z ht hi hz b 0 0 [] (by simp) (by simp) a m c news hl hnews (by omega) (by omega) (growslice_fits (by omega) hbytes);refine⟨_,_,hr,?_,fun B hB=>?_,KeepE.below (((Below.refl _ w).drew).alloc (Nat.le_refl _) _)⟩
  ·have hge:=grownCap_ge w (0+m) 0 e
   have hcm:grownCap w (0+m) 0 e<=maxLen:=grownCap_le_maxLen w (0+m) 0 e h63;refine⟨by simpa using hl,.inr ⟨w.heap.size,_,_,rfl,hbase,heap_alloc_new w.drew _,hge,hcm,?_,?_⟩⟩
   ·simp only[Array.size_append,List.size_toArray,size_zeroCells,hzs,hl,List.length_nil]
    rw[Nat.zero_add,<-Nat.add_mul]
    congr 1
    omega
   ·simp only[Array.toList_append,List.nil_append]
    rw[show (0+m)*i.size=news.length by rw[Nat.zero_add,hl]];exact List.take_left
  ·exact((Below.refl B w).drew).alloc (by simp;omega) _
 ·obtain⟨v',w',hr,h2,h3,_⟩:=run_append_own (P:=P) w base t ty e i z size bytes ht hi hz hsize hby hzs hsz v n xs hown a m c news hl hnews h1 h63 hbytes hbase
  refine⟨v',w',hr,h2,fun B hB=>(Below.refl B w).grown h3 (by omega) ?_,keepE_own h3 hown⟩;intro k hk;exact Nat.le_trans hB (hown.lt k hk).1
theorem wpList_append_own0k {P:Program} (w:World) {ops:Array Oper} {rest:List Oper} {o:Oper} {a:Act} {Q:Exit->Act->World->Prop} (hgd:o.guard=none) (s x:Operand) (t:TypeId)
  (ho:o.op=.call { callee:=.builtin .append,args:=#[s,x],argTypes:=#[t,t] })
  (base:Nat) (e:TypeId) (i:TypeInfo) (z:Value) (size bytes:Nat) (ht:P.underlying t=some (.slice e)) (hi:P.info? e=some i) (hz:i.zero=some z)
  (hsize:i.size=size) (hby:i.bytes=bytes) (hzs:z.cells.size=size) (hsz:0<size)
  (v:Value) (n:Nat) (xs:List Value) (hs:a.eval s=v) (hown:Own0 w base e size v n xs)
  (ad:Addr) (m c:Nat) (news:List Value) (hx:a.eval x=.slice (some ad) m c) (hl:news.length=m*size) (hnews:∀ j u,news[j]? = some u->w.cell? (ad.add j)=some u) (h1:∀ u∈news,u.oneCell'=true) (hm:0<m)
  (h63:n+m<=maxLen) (hbytes:(n+m)*bytes<=140737488355328) (hbase:base<=w.heap.size)
  (h:∀ v' w',w'.ownsRow base e size v' (n+m) (xs++news)->(∀ B,B<=base->Below B w w')->KeepE e w w'->wpList P ops Q rest (a.put o.dst v') w'):wpList P ops Q (o :: rest) a w :=
 wpList_plain hgd fun _ hK=>by
  obtain⟨v',w',hr,h2,h3,h4⟩:=run_append_own0k (P:=P) w base t o.type e i z size bytes ht hi hz hsize hby hzs hsz v n xs hown ad m c news hl hnews h1 hm h63 hbytes hbase;unfold Oper.wp execOp;simp only[ho,resolve,invoke,builtin,Sem.run_bind,Sem.run_pure,Result.andThen_ok,List.map_toArray,List.map_cons,List.map_nil,hs,hx,hr];exact hK _ _ (h v' w' h2 h3 h4)
end Ap
namespace Bi
def cnt (l:List Int) (v:Int):Nat:=l.countP fun x=>decide (x=v)
theorem cnt_snoc (l:List Int) (v x:Int):cnt (l++[x]) v=cnt l v+if x=v then 1 else 0:=by simp[cnt,List.countP_append,List.countP_cons]
theorem cnt_more {l:List Int} {k:Nat} (h:k<l.length) (v:Int):cnt (l.take (k+1)) v=cnt (l.take k) v+if l[k]=v then 1 else 0:=by
 rw[take_more h,cnt_snoc]
theorem cnt_take (l:List Int) (v:Int) (k:Nat):cnt (l.take k) v<=cnt l v:=by
 unfold cnt;exact List.Sublist.countP_le (List.take_sublist k l)
theorem cnt_here {l:List Int} {k:Nat} {v:Int} (h:k<l.length) (e:l[k]=v):cnt (l.take k) v+1<=cnt l v:=by
 have h1:=cnt_more h v;rw[if_pos e]at h1;have h2:=cnt_take l v (k+1);omega
def lowP (v:Nat) (x:Int):Nat:=if 0<x/\x<=v then 2 ^ (12-x.toNat) else 0
def low (l:List Int) (v:Nat):Nat:=(l.map (lowP v)).sum
theorem lowP_succ (v:Nat) (x:Int):lowP (v+1) x=lowP v x+(if x=((v+1:Nat):Int) then 1 else 0)*2 ^ (12-(v+1)):=by
 unfold lowP;by_cases h:x=((v+1:Nat):Int)
 ·rw[if_pos h,if_pos (by omega),if_neg (by omega)]
  subst h;simp
 ·rw[if_neg h]
  by_cases h2:0<x/\x<=v
  ·rw[if_pos h2,if_pos (by omega)]
   omega
  ·rw[if_neg h2,if_neg (by omega)]
   omega
theorem low_succ (l:List Int) (v:Nat):low l (v+1)=low l v+cnt l ((v+1:Nat):Int)*2 ^ (12-(v+1)):=by
 induction l with
 |nil=>simp[low,cnt]
 |cons x l ih =>
  simp only[low,List.map_cons,List.sum_cons,cnt,List.countP_cons]at ih ⊢;rw[ih,lowP_succ,Nat.add_mul];by_cases h:x=((v+1:Nat):Int)
  ·simp only[h,if_true,decide_true]
   omega
  ·simp only[h,if_false,decide_false,Bool.false_eq_true]
   omega
theorem low_zero (l:List Int):low l 0=0:=by
 induction l with
 |nil=>rfl
 |cons x l ih =>
  simp only[low,List.map_cons,List.sum_cons]at ih ⊢;rw[ih,lowP,if_neg (by omega)]
theorem low_le (l:List Int) (v:Nat):low l v<=csum l:=by
 induction l with
 |nil=>simp[low]
 |cons x l ih =>
  simp only[low,csum,List.map_cons,List.sum_cons]at ih ⊢
  have:lowP v x<=part x:=by
   unfold lowP part;generalize 2 ^ (12-x.toNat)=p
   split<;>split<;>omega
  omega
def innN (l:List Int) (v n0 k:Nat):Nat:=n0+cnt (l.take k) v
def outN (l:List Int):Nat->Nat
 |0=>0
 |v+1=>2*outN l v+cnt l ((v+1:Nat):Int)
theorem outN_low (l:List Int):∀ v,v<=12->outN l v*2 ^ (12-v)=low l v:=by
 intro v
 induction v with
 |zero=>intro _;simp[outN,low_zero]
 |succ v ih =>
  intro hv;rw[low_succ,<-ih (by omega)];simp only[outN];rw[Nat.add_mul,show 12-v=12-(v+1)+1 by omega,Nat.pow_succ,Nat.mul_comm 2 (outN l v),Nat.mul_assoc,Nat.mul_comm 2]
theorem inn_fits {l:List Int} (hr:csum l<=4096) {v k:Nat} (hv:v<12) (hk:k<l.length) (e:l[k]=((v+1:Nat):Int)):innN l (v+1) (2*outN l v) k<2 ^ (v+1):=by
 have h1:=cnt_here hk e;have h2:=outN_low l (v+1) (by omega);have h3:=low_le l (v+1)
 have h4:(2:Nat) ^ (v+1)*2 ^ (12-(v+1))=4096:=by
  rw[<-Nat.pow_add,show v+1+(12-(v+1))=12 by omega]
 have h5:outN l (v+1)*2 ^ (12-(v+1))<=2 ^ (v+1)*2 ^ (12-(v+1)):=by rw[h2,h4];omega
 have h6:outN l (v+1)<=2 ^ (v+1):=Nat.le_of_mul_le_mul_right h5 (Nat.pow_pos (by decide));simp only[outN]at h6;unfold innN;omega
theorem out_fits {l:List Int} (hr:csum l<=4096) {v:Nat} (hv:v<=12):outN l v<=2 ^ v:=by
 have h2:=outN_low l v hv;have h3:=low_le l v
 have h4:(2:Nat) ^ v*2 ^ (12-v)=4096:=by
  rw[<-Nat.pow_add,show v+(12-v)=12 by omega]
 have h5:outN l v*2 ^ (12-v)<=2 ^ v*2 ^ (12-v):=by rw[h2,h4];omega
 exact Nat.le_of_mul_le_mul_right h5 (Nat.pow_pos (by decide))
theorem out_small {l:List Int} (hr:csum l<=4096) {v:Nat} (hv:v<=12):outN l v<=4096:=by
 have h1:=out_fits hr hv;have h2:=Nat.pow_le_pow_right (n:=2) (by decide) hv;omega
theorem innN_zero (l:List Int) (v n0:Nat):innN l v n0 0=n0:=by simp[innN,cnt]
theorem innN_yes {l:List Int} {v n0 k:Nat} (h:k<l.length) (e:l[k]=(v:Int)):innN l v n0 (k+1)=innN l v n0 k+1:=by
 unfold innN;rw[cnt_more h,if_pos e];omega
theorem innN_no {l:List Int} {v n0 k:Nat} (h:k<l.length) (e:¬l[k]=(v:Int)):innN l v n0 (k+1)=innN l v n0 k:=by
 unfold innN;rw[cnt_more h,if_neg e];omega
theorem innN_all (l:List Int) (v:Nat):innN l (v+1) (2*outN l v) l.length=outN l (v+1):=by
 unfold innN;rw[List.take_length];rfl
theorem innN_le (l:List Int) (v n0 k:Nat):innN l v n0 k<=n0+l.length:=by
 unfold innN cnt
 have:=List.countP_le_length (p:=fun x=>decide (x=(v:Int))) (l:=l.take k)
 rw[List.length_take]at this;omega
def innO (l:List Int) (v n0:Nat) (o:List ByteArray):Nat->List ByteArray
 |0=>o
 |k+1=>if l[k]? = some (v:Int) then (innO l v n0 o k).set k (bitsV (innN l v n0 k) v) else innO l v n0 o k
def outO (l:List Int):Nat->List ByteArray
 |0=>List.replicate l.length ⟨#[]⟩
 |v+1=>innO l (v+1) (2*outN l v) (outO l v) l.length
def codesV (l:List Int):List ByteArray:=outO l 12
def codesR (l:List Int):List ByteArray:=if right l=true then codesV l else []
theorem innO_length (l:List Int) (v n0:Nat) (o:List ByteArray):∀ k,(innO l v n0 o k).length=o.length:=by
 intro k
 induction k with
 |zero=>rfl
 |succ k ih =>
  simp only[innO]
  split
  ·rw[List.length_set,ih]
  ·exact ih
theorem outO_length (l:List Int):∀ v,(outO l v).length=l.length:=by
 intro v
 induction v with
 |zero=>simp[outO]
 |succ v ih=>simp only[outO];rw[innO_length,ih]
theorem codesV_length (l:List Int):(codesV l).length=l.length:=outO_length l 12
theorem innO_yes {l:List Int} {v n0 k:Nat} {o:List ByteArray} (h:k<l.length) (e:l[k]=(v:Int)):innO l v n0 o (k+1)=(innO l v n0 o k).set k (bitsV (innN l v n0 k) v):=by
 simp only[innO];rw[if_pos (by rw[List.getElem?_eq_getElem h,e])]
theorem innO_no {l:List Int} {v n0 k:Nat} {o:List ByteArray} (h:k<l.length) (e:¬l[k]=(v:Int)):innO l v n0 o (k+1)=innO l v n0 o k:=by
 simp only[innO];rw[if_neg (by rw[List.getElem?_eq_getElem h];simp;exact e)]
end Bi
namespace Bi
open Sh (bt strF)
theorem innO_get (l:List Int) (v n0:Nat) (o:List ByteArray) (i:Nat) (hi:i<l.length) (ho:o.length=l.length):∀ k,k<=l.length ->
  (innO l v n0 o k)[i]? = if i<k/\l[i]=(v:Int) then some (bitsV (innN l v n0 i) v) else o[i]?:=by
 intro k
 induction k with
 |zero=>intro _;simp[innO]
 |succ k ih =>
  intro hk;by_cases e:l[k]=(v:Int)
  ·rw[innO_yes (by omega) e,List.getElem?_set]
   by_cases hik:k=i
   ·subst hik
    rw[if_pos rfl,if_pos (by rw[innO_length,ho];exact hi),if_pos ⟨by omega,e⟩]
   ·rw[if_neg hik,ih (by omega)]
    have:(i<k+1/\l[i]=(v:Int))=(i<k/\l[i]=(v:Int)):=propext ⟨fun h=>⟨by omega,h.2⟩,fun h=>⟨by omega,h.2⟩⟩
    simp only[this]
  ·rw[innO_no (by omega) e,ih (by omega)]
   by_cases hik:k=i
   ·subst hik
    rw[if_neg (fun h=>e h.2),if_neg (fun h=>e h.2)]
   ·have:(i<k+1/\l[i]=(v:Int))=(i<k/\l[i]=(v:Int)):=propext ⟨fun h=>⟨by omega,h.2⟩,fun h=>⟨by omega,h.2⟩⟩
    simp only[this]
def cnum (l:List Int) (i:Nat):Nat:=innN l (l.getD i 0).toNat (2*outN l ((l.getD i 0).toNat-1)) i
def codeOf (l:List Int) (i:Nat):ByteArray:=if 0<l.getD i 0 then bitsV (cnum l i) (l.getD i 0).toNat else ⟨#[]⟩
theorem outO_get (l:List Int) (i:Nat) (hi:i<l.length):∀ v,v<=12->(outO l v)[i]? = some (if 0<l[i]/\l[i]<=(v:Int) then codeOf l i else ⟨#[]⟩):=by
 have hg:l.getD i 0=l[i]:=by rw[List.getD_eq_getElem?_getD,List.getElem?_eq_getElem hi];rfl
 intro v
 induction v with
 |zero =>
  intro _;rw[if_neg (by omega)];simp[outO,hi]
 |succ v ih =>
  intro hv;simp only[outO];rw[innO_get l (v+1) _ _ i hi (outO_length l v) l.length (Nat.le_refl _),ih (by omega)];by_cases e:l[i]=((v+1:Nat):Int)
  ·rw[if_pos ⟨hi,e⟩,if_pos (by omega)]
   unfold codeOf cnum;rw[hg,if_pos (by omega),e];simp
  ·rw[if_neg (fun h=>e h.2)]
   have:(0<l[i]/\l[i]<=((v+1:Nat):Int))=(0<l[i]/\l[i]<=(v:Int)):=propext ⟨fun h=>⟨h.1,by omega⟩,fun h=>⟨h.1,by omega⟩⟩
   simp only[this]
theorem codes_get (l:List Int) (h:∀ x∈l,0<=x/\x<=12) (i:Nat) (hi:i<(codesV l).length):(codesV l)[i]=codeOf l i:=by
 have hi':i<l.length:=by rw[codesV_length]at hi;exact hi
 have h1:=outO_get l i hi' 12 (Nat.le_refl _);have h2:=h _ (List.getElem_mem hi')
 have hg:l.getD i 0=l[i]:=by rw[List.getD_eq_getElem?_getD,List.getElem?_eq_getElem hi'];rfl
 have h3:(codesV l)[i]? = some (codesV l)[i]:=List.getElem?_eq_getElem hi;have h4:(codesV l)[i]? = (outO l 12)[i]?:=rfl;rw[h3,h1]at h4;have h5:=Option.some.inj h4;rw[h5];by_cases hp:0<l[i]
 ·rw[if_pos ⟨hp,by omega⟩]
 ·rw[if_neg (fun x=>hp x.1)]
  unfold codeOf;rw[hg,if_neg hp]
theorem codeOf_size (l:List Int) (i:Nat):(codeOf l i).size=(l.getD i 0).toNat:=by
 unfold codeOf
 split
 ·exact bitsV_size _ _
 ·have:(l.getD i 0).toNat=0:=by omega
  rw[this];rfl
theorem codeOf_le (l:List Int) (h:∀ x∈l,0<=x/\x<=12) (i:Nat):(codeOf l i).size<=12:=by
 rw[codeOf_size];by_cases hi:i<l.length
 ·have hg:l.getD i 0=l[i]:=by rw[List.getD_eq_getElem?_getD,List.getElem?_eq_getElem hi];rfl
  have:=h _ (List.getElem_mem hi)
  rw[hg];omega
 ·rw[List.getD_eq_getElem?_getD,List.getElem?_eq_none (by omega)]
  decide
theorem codeOf_none (l:List Int) (i:Nat) (h:¬0<l.getD i 0):codeOf l i=⟨#[]⟩:=if_neg h
def okS (l:List Int) (x:Int):Prop:=0<=x/\x<l.length/\0<l.getD x.toNat 0
instance (l:List Int) (x:Int):Decidable (okS l x):=inferInstanceAs (Decidable (_/\_/\_))
def putL (l:List Int) (s:List Int):List UInt8:=s.flatMap fun x=>(codeOf l x.toNat).data.toList
def putR (l s:List Int):ByteArray:=if 400<s.length∨whole l=false∨¬(∀ x∈s,okS l x) then ⟨#[]⟩ else ⟨(putL l s).toArray⟩
theorem putR_no {l s:List Int} (h:400<s.length∨whole l=false):putR l s=⟨#[]⟩:=if_pos (by rcases h with h|h;exact Or.inl h;exact Or.inr (Or.inl h))
theorem putR_bad {l s:List Int} {j:Nat} (hj:j<s.length) (h:¬okS l s[j]):putR l s=⟨#[]⟩:=if_pos (Or.inr (Or.inr fun g=>h (g _ (List.getElem_mem hj))))
theorem putR_yes {l s:List Int} (h1:¬400<s.length) (h2:whole l=true) (h3:∀ x∈s,okS l x):putR l s=⟨(putL l s).toArray⟩:=if_neg (by
 rintro (h|h|h)
 ·exact h1 h
 ·rw[h2]at h;cases h
 ·exact h h3)
theorem putL_snoc (l s:List Int) (x:Int):putL l (s++[x])=putL l s++(codeOf l x.toNat).data.toList:=by simp[putL]
theorem putL_more {l s:List Int} {k:Nat} (h:k<s.length):putL l (s.take (k+1))=putL l (s.take k)++(codeOf l s[k].toNat).data.toList:=by
 rw[take_more h,putL_snoc]
theorem putL_le (l:List Int) (h:∀ x∈l,0<=x/\x<=12) (s:List Int):(putL l s).length<=12*s.length:=by
 induction s with
 |nil=>simp[putL]
 |cons x s ih =>
  have h1:=codeOf_le l h x.toNat
  have h2:(codeOf l x.toNat).data.toList.length=(codeOf l x.toNat).size:=by simp
  simp only[putL,List.flatMap_cons,List.length_append,List.length_cons]at ih ⊢;omega
theorem whole_right {l:List Int} (h:whole l=true):right l=true:=by
 unfold whole at h;rw[Bool.and_eq_true]at h;exact h.1
theorem whole_ok {l:List Int} (h:whole l=true):∀ x∈l,0<=x/\x<=12:=(within_yes (right_yes (whole_right h)).1).2
theorem whole_len {l:List Int} (h:whole l=true):l.length<=257:=(within_yes (right_yes (whole_right h)).1).1
end Bi
namespace Ze
theorem zrun_back (r:Nat):∀ (s:List Int) (v:Nat),((zrun r).foldl bstep (s,v)).1=s++List.replicate (v*r) 0:=by
 induction r using Nat.strongRecOn with
 |ind r ih =>
  intro s v;by_cases h0:r=0
  ·subst h0
   rw[zrun_zero];simp
  ·by_cases h1:r%2=1
   ·rw[zrun_odd h1,List.foldl_cons,bstep,if_neg (by omega),ih ((r-1)/2) (by omega),List.append_assoc,List.replicate_append_replicate]
    congr 2
    obtain⟨q,rfl⟩:∃ q,r=2*q+1:=⟨(r-1)/2,by omega⟩;rw[show (2*q+1-1)/2=q by omega,Nat.mul_add,Nat.mul_assoc];simp;omega
   ·rw[zrun_even (by omega) h1,List.foldl_cons,bstep,if_neg (by omega),ih ((r-2)/2) (by omega),List.append_assoc,List.replicate_append_replicate]
    congr 2
    obtain⟨q,rfl⟩:∃ q,r=2*q+2:=⟨(r-2)/2,by omega⟩;rw[show (2*q+2-2)/2=q by omega,Nat.mul_add,Nat.mul_assoc];simp;omega
theorem zst_back (l:List Int) (h:∀ x∈l,0<=x/\x<=255):∀ k,k<=l.length->(bst (zst (l.take k)).1).2=1/\(bst (zst (l.take k)).1).1++List.replicate (zst (l.take k)).2 0=l.take k:=by
 intro k
 induction k with
 |zero=>intro _;simp[zst,bst]
 |succ k ih =>
  intro hk;obtain⟨h1,h2⟩:=ih (by omega);have hx:=h _ (List.getElem_mem (show k<l.length by omega));by_cases h0:l[k]=0
  ·rw[zst_zero hk h0]
   refine⟨h1,?_⟩
   show (bst (zst (l.take k)).1).1++List.replicate ((zst (l.take k)).2+1) 0=_
   rw[Bi.take_more hk,h0,List.replicate_succ',<-List.append_assoc,h2]
  ·rw[zst_other hk h0]
   have e:bst ((zst (l.take k)).1++zrun (zst (l.take k)).2++[l[k]+1])=(l.take k++[l[k]],1):=by
    have hb:bst (zst (l.take k)).1=((bst (zst (l.take k)).1).1,1):=by rw[<-h1]
    have hb2:(zst (l.take k)).1.foldl bstep ([],1)=((bst (zst (l.take k)).1).1,1):=hb;unfold bst;rw[List.foldl_append,List.foldl_append,hb2,List.foldl_cons,List.foldl_nil,bstep,if_pos (by omega),zrun_back,Nat.one_mul,h2];simp
   rw[e];refine⟨rfl,?_⟩;rw[Bi.take_more hk];simp
theorem zeros_back {l:List Int} (h:numsR l 255=true):backR (zerosR l)=l:=by
 obtain⟨hl,hu⟩:=numsR_yes h;have hx:=upTo_yes hu;obtain⟨h1,h2⟩:=zst_back l hx l.length (Nat.le_refl _);rw[List.take_length]at h1 h2
 have hb:(bst (zerosR l)).1=l:=by
  rw[zerosR_yes h]
  have hb2:(zst l).1.foldl bstep ([],1)=((bst (zst l).1).1,1):=by
   show bst (zst l).1=_
   rw[<-h1]
  unfold bst;rw[List.foldl_append,hb2,zrun_back,Nat.one_mul];exact h2
 have hm:∀ k,k<=l.length->∀ x∈(zst (l.take k)).1,0<=x/\x<=256:=by
  intro k
  induction k with
  |zero=>intro _ x hx;simp[zst]at hx
  |succ k ih =>
   intro hk x hxm;have hy:=hx _ (List.getElem_mem (show k<l.length by omega));by_cases h0:l[k]=0
   ·rw[zst_zero hk h0]at hxm
    exact ih (by omega) x hxm
   ·rw[zst_other hk h0]at hxm
    rcases List.mem_append.1 hxm with hxm|hxm
    ·rcases List.mem_append.1 hxm with hxm|hxm
     ·exact ih (by omega) x hxm
     ·rcases zrun_mem _ x hxm with e|e<;>omega
    ·rw[List.mem_singleton]at hxm
     omega
 have hn:numsR (zerosR l) 256=true:=by
  rw[numsR_of (Nat.le_trans (zerosR_len l) hl)];refine upTo_of fun x hxm=>?_;rw[zerosR_yes h]at hxm
  rcases List.mem_append.1 hxm with hxm|hxm
  ·have:=hm l.length (Nat.le_refl _)
   rw[List.take_length]at this;exact this x hxm
  ·rcases zrun_mem _ x hxm with e|e<;>omega
 rw[backR_yes hn (by rw[hb];exact hl),hb]
end Ze
namespace Bi
open Sh (bt strF bt_strF strF_size strF_bt strF_congr bt_lt)
def wd (l:List Int) (i:Nat):Nat:=(l.getD i 0).toNat
theorem getD_lt {l:List Int} {i:Nat} (hi:i<l.length):l.getD i 0=l[i]:=by rw[List.getD_eq_getElem?_getD,List.getElem?_eq_getElem hi];rfl
def start (l:List Int) (i:Nat):Nat:=cnum l i*2 ^ (12-wd l i)
theorem start_eq (l:List Int) (i:Nat) (h1:1<=wd l i) (h2:wd l i<=12):start l i=low l (wd l i-1)+cnt (l.take i) (wd l i:Nat)*2 ^ (12-wd l i):=by
 have h3:=outN_low l (wd l i-1) (by omega);unfold start cnum innN;rw[<-h3]
 show (2*outN l (wd l i-1)+cnt (l.take i) ((wd l i:Nat):Int))*2 ^ (12-wd l i)=_
 rw[Nat.add_mul,show 12-(wd l i-1)=12-wd l i+1 by omega,Nat.pow_succ,Nat.mul_comm 2 (outN l (wd l i-1)),Nat.mul_assoc,Nat.mul_comm 2]
theorem wd_int {l:List Int} {i:Nat} (h:0<l.getD i 0):l.getD i 0=((wd l i:Nat):Int):=by unfold wd;omega
theorem low_mono (l:List Int) (a b:Nat) (h:a<=b):low l a<=low l b:=by
 induction b with
 |zero=>rw[show a=0 by omega];exact Nat.le_refl _
 |succ b ih =>
  by_cases e:a=b+1
  ·rw[e];exact Nat.le_refl _
  ·have:=ih (by omega)
   have h2:=low_succ l b;omega
theorem start_end (l:List Int) (i:Nat) (hi:i<l.length) (h0:0<l.getD i 0) (h2:wd l i<=12):start l i+2 ^ (12-wd l i)<=low l (wd l i):=by
 have h1:1<=wd l i:=by unfold wd;omega
 have e:l[i]=((wd l i:Nat):Int):=by rw[<-getD_lt hi];exact wd_int h0
 have hc:=cnt_here hi e;have hl:=low_succ l (wd l i-1);rw[show wd l i-1+1=wd l i by omega]at hl;rw[start_eq l i h1 h2,hl]
 have:(cnt (l.take i) ((wd l i:Nat):Int)+1)*2 ^ (12-wd l i)<=cnt l ((wd l i:Nat):Int)*2 ^ (12-wd l i):=Nat.mul_le_mul_right _ hc
 rw[Nat.add_mul,Nat.one_mul]at this;omega
theorem start_apart (l:List Int) (i j:Nat) (hi:i<l.length) (h0:0<l.getD i 0) (h0':0<l.getD j 0) (h12:wd l i<=12) (h12':wd l j<=12) (h:wd l i<wd l j∨(wd l i=wd l j/\i<j)) (_hj:j<l.length) :
  start l i+2 ^ (12-wd l i)<=start l j:=by
 have h1':1<=wd l j:=by unfold wd;omega
 have h1:1<=wd l i:=by unfold wd;omega
 rcases h with h|⟨h,hij⟩
 ·have a1:=start_end l i hi h0 h12
  have a2:=low_mono l (wd l i) (wd l j-1) (by omega);have a3:=start_eq l j h1' h12';omega
 ·have e:l[i]=((wd l i:Nat):Int):=by rw[<-getD_lt hi];exact wd_int h0
  have c1:=cnt_more hi ((wd l i:Nat):Int);rw[if_pos e]at c1
  have c2:cnt (l.take (i+1)) ((wd l i:Nat):Int)<=cnt (l.take j) ((wd l i:Nat):Int):=by
   have:=cnt_take (l.take j) ((wd l i:Nat):Int) (i+1)
   rw[List.take_take,Nat.min_eq_left (by omega)]at this;exact this
  rw[start_eq l i h1 h12,start_eq l j h1' h12',<-h]
  have:(cnt (l.take i) ((wd l i:Nat):Int)+1)*2 ^ (12-wd l i)<=cnt (l.take j) ((wd l i:Nat):Int)*2 ^ (12-wd l i):=Nat.mul_le_mul_right _ (by omega)
  rw[Nat.add_mul,Nat.one_mul]at this;omega
theorem bt_extract (t:ByteArray) (a b j:Nat) (hj:a+j<b) (_hb:b<=t.size):bt (t.extract a b) j=bt t (a+j):=by
 unfold bt
 have h1:(t.extract a b).data.toList=(t.data.toList.take b).drop a:=by
  rw[ByteArray.data_extract,Array.toList_extract];simp[List.extract_eq_take_drop,List.drop_take]
 rw[h1,List.getD_eq_getElem?_getD,List.getD_eq_getElem?_getD,List.getElem?_drop,List.getElem?_take_of_lt hj]
def val (t:ByteArray):Nat->Nat
 |0=>0
 |r+1=>2*val t r+(bt t r-48)
theorem val_of (t:ByteArray) (n v:Nat) (hn:n<2 ^ v) (h:∀ j,j<v->bt t j=bitB n (v-1-j)):∀ r,r<=v->val t r=n/2 ^ (v-r):=by
 intro r
 induction r with
 |zero=>intro _;rw[Nat.sub_zero,Nat.div_eq_of_lt hn];rfl
 |succ r ih =>
  intro hr;simp only[val];rw[ih (by omega),h r (by omega)];unfold bitB;rw[show v-r=v-(r+1)+1 by omega,Nat.pow_succ,<-Nat.div_div_eq_div_mul,show v-1-r=v-(r+1) by omega];omega
def mt (l:List Int) (t:ByteArray) (i:Nat):Prop:=i<l.length/\0<l.getD i 0/\wd l i<=t.size/\t.extract 0 (wd l i)=codeOf l i
theorem cnum_fits {l:List Int} (hr:csum l<=4096) {i:Nat} (hi:i<l.length) (h0:0<l.getD i 0) (h2:wd l i<=12):cnum l i<2 ^ wd l i:=by
 have h1:1<=wd l i:=by unfold wd;omega
 have e:l[i]=((wd l i-1+1:Nat):Int):=by rw[show wd l i-1+1=wd l i by omega,<-getD_lt hi];exact wd_int h0
 have:=inn_fits hr (v:=wd l i-1) (by omega) hi e
 rw[show wd l i-1+1=wd l i by omega]at this;exact this
theorem mt_val {l:List Int} (hr:csum l<=4096) {t:ByteArray} {i:Nat} (h:mt l t i) (h12:wd l i<=12):∀ r,r<=wd l i->val t r=cnum l i/2 ^ (wd l i-r):=by
 obtain⟨hi,h0,hs,he⟩:=h;refine val_of t (cnum l i) (wd l i) (cnum_fits hr hi h0 h12) fun j hj=>?_;have h1:=bt_extract t 0 (wd l i) j (by omega) hs;rw[Nat.zero_add,he]at h1;rw[<-h1];unfold codeOf;rw[if_pos h0];exact bt_strF _ _ j hj (bitB_lt _ _)
theorem mt_start {l:List Int} (hr:csum l<=4096) {t:ByteArray} {i j:Nat} (hi:mt l t i) (hj:mt l t j) (h12:wd l i<=12) (h12':wd l j<=12) (h:wd l i<=wd l j):start l j<start l i+2 ^ (12-wd l i):=by
 have a1:=mt_val hr hi h12 (wd l i) (Nat.le_refl _);have a2:=mt_val hr hj h12' (wd l i) h;rw[Nat.sub_self,Nat.pow_zero,Nat.div_one]at a1;rw[a1]at a2
 have a3:cnum l j<(cnum l i+1)*2 ^ (wd l j-wd l i):=by
  rw[a2];exact Nat.lt_mul_of_div_lt (Nat.lt_succ_self _) (Nat.pow_pos (by decide))
 unfold start;have a4:cnum l j*2 ^ (12-wd l j)<(cnum l i+1)*2 ^ (wd l j-wd l i)*2 ^ (12-wd l j):=Nat.mul_lt_mul_of_pos_right a3 (Nat.pow_pos (by decide));rw[Nat.mul_assoc,<-Nat.pow_add,show wd l j-wd l i+(12-wd l j)=12-wd l i by omega,Nat.add_mul,Nat.one_mul]at a4;exact a4
theorem mt_one {l:List Int} (hr:csum l<=4096) (hok:∀ x∈l,0<=x/\x<=12) {t:ByteArray} {i j:Nat} (hi:mt l t i) (hj:mt l t j):i=j:=by
 have w12:∀ k,k<l.length->wd l k<=12:=fun k hk=>by
  have:=hok _ (List.getElem_mem hk)
  unfold wd;rw[getD_lt hk];omega
 have hi12:=w12 i hi.1;have hj12:=w12 j hj.1
 rcases Nat.lt_trichotomy (wd l i) (wd l j) with h|h|h
 ·have b1:=start_apart l i j hi.1 hi.2.1 hj.2.1 hi12 hj12 (Or.inl h) hj.1
  have b2:=mt_start hr hi hj hi12 hj12 (by omega);omega
 ·rcases Nat.lt_trichotomy i j with h'|h'|h'
  ·have b1:=start_apart l i j hi.1 hi.2.1 hj.2.1 hi12 hj12 (Or.inr ⟨h,h'⟩) hj.1
   have b2:=mt_start hr hi hj hi12 hj12 (by omega);omega
  ·exact h'
  ·have b1:=start_apart l j i hj.1 hj.2.1 hi.2.1 hj12 hi12 (Or.inr ⟨h.symm,h'⟩) hi.1
   have b2:=mt_start hr hj hi hj12 hi12 (by omega);omega
 ·have b1:=start_apart l j i hj.1 hj.2.1 hi.2.1 hj12 hi12 (Or.inl h) hi.1
  have b2:=mt_start hr hj hi hj12 hi12 (by omega);omega
instance (l:List Int) (t:ByteArray) (i:Nat):Decidable (mt l t i):=inferInstanceAs (Decidable (_/\_/\_/\_))
def sym (l:List Int) (t:ByteArray):Option Nat:=(List.range l.length).find? fun i=>decide (mt l t i)
def wth (l:List Int) (t:ByteArray):Bool:=(List.range l.length).any fun i=>decide (0<l.getD i 0) && Lib.hasPrefix (codeOf l i).data.toList t.data.toList
theorem sym_mt {l:List Int} {t:ByteArray} {i:Nat} (h:sym l t=some i):mt l t i:=by
 unfold sym at h
 have:=List.find?_some h
 simpa using this
theorem sym_of {l:List Int} (hr:csum l<=4096) (hok:∀ x∈l,0<=x/\x<=12) {t:ByteArray} {i:Nat} (h:mt l t i):sym l t=some i:=by
 cases hs:sym l t with
 |none =>
  have:=List.find?_eq_none.1 hs i (List.mem_range.2 h.1)
  simp[h]at this
 |some j=>rw[mt_one hr hok (sym_mt hs) h]
theorem sym_none {l:List Int} {t:ByteArray} (h:∀ i,¬mt l t i):sym l t=none:=by
 cases hs:sym l t with
 |none=>rfl
 |some j=>exact absurd (sym_mt hs) (h j)
theorem wth_of {l:List Int} {t:ByteArray} {i:Nat} (hi:i<l.length) (h0:0<l.getD i 0) (hp:Lib.hasPrefix (codeOf l i).data.toList t.data.toList=true):wth l t=true:=by
 unfold wth;rw[List.any_eq_true];exact⟨i,List.mem_range.2 hi,by rw[decide_eq_true h0,hp];rfl⟩
theorem wth_yes {l:List Int} {t:ByteArray} (h:wth l t=true):∃ i,i<l.length/\0<l.getD i 0/\Lib.hasPrefix (codeOf l i).data.toList t.data.toList=true:=by
 unfold wth at h;rw[List.any_eq_true]at h;obtain⟨i,hi,hb⟩:=h;rw[Bool.and_eq_true]at hb;exact⟨i,List.mem_range.1 hi,of_decide_eq_true hb.1,hb.2⟩
def rst (t:ByteArray) (at_:Nat):ByteArray:=t.extract at_ t.size
theorem rst_size (t:ByteArray) (at_:Nat):(rst t at_).size=t.size-at_:=by unfold rst;rw[ByteArray.size_extract];omega
def why (l:List Int) (t:ByteArray):Int:=if wth l t=true then 4 else 3
def st (l:List Int) (t:ByteArray):Nat->Int ⊕ (List Int × Nat)
 |0=>.inr ([],0)
 |k+1=>match st l t k with
  |.inl e=>.inl e
  |.inr (xs,p)=>match sym l (rst t p) with
   |some i=>.inr (xs++[(i:Int)],p+wd l i)
   |none=>.inl (why l (rst t p))
theorem st_more {l:List Int} {t:ByteArray} {k p i:Nat} {xs:List Int} (h:st l t k=.inr (xs,p)) (hs:sym l (rst t p)=some i):st l t (k+1)=.inr (xs++[(i:Int)],p+wd l i):=by
 simp only[st,h,hs]
theorem st_bad {l:List Int} {t:ByteArray} {k p:Nat} {xs:List Int} (h:st l t k=.inr (xs,p)) (hs:sym l (rst t p)=none):st l t (k+1)=.inl (why l (rst t p)):=by
 simp only[st,h,hs]
theorem st_stay {l:List Int} {t:ByteArray} {k:Nat} {e:Int} (h:st l t k=.inl e):∀ d,st l t (k+d)=.inl e:=by
 intro d
 induction d with
 |zero=>exact h
 |succ d ih =>
  rw[<-Nat.add_assoc];simp only[st,ih]
theorem st_facts {l:List Int} {t:ByteArray}:∀ (k p:Nat) (xs:List Int),st l t k=.inr (xs,p)->p<=t.size/\xs.length=k:=by
 intro k
 induction k with
 |zero =>
  intro p xs h;simp only[st,Sum.inr.injEq,Prod.mk.injEq]at h;rw[<-h.1,<-h.2];simp
 |succ k ih =>
  intro p xs h
  cases hk:st l t k with
  |inl e=>simp only[st,hk]at h;cases h
  |inr q =>
   obtain⟨ys,r⟩:=q;obtain⟨h1,h2⟩:=ih r ys hk
   cases hs:sym l (rst t r) with
   |none=>rw[st_bad hk hs]at h;cases h
   |some i =>
    rw[st_more hk hs]at h;simp only[Sum.inr.injEq,Prod.mk.injEq]at h;have hm:=(sym_mt hs).2.2.1;rw[rst_size]at hm;rw[<-h.1,<-h.2];simp[h2];omega
def outS (x:Int ⊕ (List Int × Nat)):List Int × Int × Int:=match x with
 |.inl e=>([],0,e)
 |.inr (xs,p)=>(xs,(p:Int),0)
def getR (l:List Int) (t:ByteArray) (m:Int):List Int × Int × Int :=
 if 400<l.length∨8000<t.size then ([],0,2)
 else if whole l=false∨good t=false∨m<0∨400<m then ([],0,1)
 else outS (st l t m.toNat)
theorem getR_size {l:List Int} {t:ByteArray} {m:Int} (h:400<l.length∨8000<t.size):getR l t m=([],0,2):=if_pos h
theorem getR_form {l:List Int} {t:ByteArray} {m:Int} (h:¬(400<l.length∨8000<t.size)) (h2:whole l=false∨good t=false∨m<0∨400<m):getR l t m=([],0,1):=by
 unfold getR;rw[if_neg h,if_pos h2]
theorem getR_in {l:List Int} {t:ByteArray} {m:Nat} (h:¬(400<l.length∨8000<t.size)) (h2:whole l=true) (h3:good t=true) (h4:m<=400):getR l t m=outS (st l t m):=by
 unfold getR;rw[if_neg h,if_neg (by rw[h2,h3];simp;omega)];rfl
theorem getR_length (l:List Int) (t:ByteArray) (m:Int):(getR l t m).1.length<=400:=by
 unfold getR
 split
 ·simp
 ·split
  ·simp
  ·rename_i h
   cases hs:st l t m.toNat with
   |inl e=>simp[outS]
   |inr q =>
    obtain⟨xs,p⟩:=q
    have:=(st_facts _ _ _ hs).2
    simp only[outS];have hm:¬400<m:=fun x=>h (Or.inr (Or.inr (Or.inr x)));omega
end Bi
namespace Bi
open Sh (bt strF bt_strF strF_size strF_bt strF_congr bt_lt)
theorem hd_div (t:ByteArray) (q r:Nat):∀ d,hd t q (r+d)/2 ^ d=hd t q r
 |0=>by simp
 |d+1=>by
  have ih:=hd_div t q r d;have h1:=one_le t (8*q+(r+d));rw[show r+(d+1)=(r+d)+1 by omega,Nat.pow_succ,Nat.mul_comm,<-Nat.div_div_eq_div_mul]
  show (2*hd t q (r+d)+one t (8*q+(r+d)))/2/2 ^ d=_
  rw[show (2*hd t q (r+d)+one t (8*q+(r+d)))/2=hd t q (r+d) by omega];exact ih
theorem hd_bit (t:ByteArray) (q r:Nat) (hr:r<8):hd t q 8/2 ^ (7-r)%2=one t (8*q+r):=by
 have h:=hd_div t q (r+1) (7-r);rw[show r+1+(7-r)=8 by omega]at h;rw[h]
 show (2*hd t q r+one t (8*q+r))%2=_
 have:=one_le t (8*q+r)
 omega
theorem packV_size (t:ByteArray):(packV t).size=(t.size+7)/8:=strF_size _ _
theorem open_bit (t:ByteArray) (i:Nat) (hi:i<8*(packV t).size):bitB (bt (packV t) (i/8)) (7-i%8)=48+one t i:=by
 rw[packV_size]at hi;have h1:bt (packV t) (i/8)=pk t (i/8) 8:=bt_strF _ _ _ (by omega) (pk_lt t _ 8 (Nat.le_refl _));unfold bitB;rw[h1,<-hd_all,hd_bit t (i/8) (i%8) (by omega),show 8*(i/8)+i%8=i by omega]
theorem one_good {t:ByteArray} (hg:good t=true) (i:Nat) (hi:i<t.size):48+one t i=bt t i:=by
 unfold one
 rcases good_yes hg i hi with h|h
 ·rw[if_neg (by omega),h]
 ·rw[if_pos ⟨hi,h⟩,h]
theorem one_add_lt (t:ByteArray) (i:Nat):48+one t i<256:=by have:=one_le t i;omega
theorem strF_take (n m:Nat) (f:Nat->Nat) (h:n<=m):(strF m f).data.toList.take n=(strF n f).data.toList:=by
 unfold strF
 simp only
 rw[<-List.map_take,List.take_range,Nat.min_eq_left h]
theorem open_all {t:ByteArray} (hg:good t=true) (hs:t.size<=8000):∃ z,(openR (packV t) ((8*(packV t).size:Nat):Int)).data.toList=t.data.toList++z/\good (openR (packV t) ((8*(packV t).size:Nat):Int))=true:=by
 have hp:=packV_size t
 have e:openR (packV t) ((8*(packV t).size:Nat):Int)=strF (8*(packV t).size) (fun i=>48+one t i):=by
  rw[openR_yes _ _ (by omega) (Nat.le_refl _)];unfold openV;exact strF_congr _ _ _ fun i hi=>open_bit t i hi
 rw[e];refine⟨(strF (8*(packV t).size) (fun i=>48+one t i)).data.toList.drop t.size,?_,good_of fun j hj=>?_⟩
 ·have h1:t.data.toList=(strF (8*(packV t).size) (fun i=>48+one t i)).data.toList.take t.size:=by
   rw[strF_take t.size (8*(packV t).size) _ (by omega),strF_congr t.size (fun i=>48+one t i) (bt t) fun i hi=>one_good hg i hi,strF_bt]
  conv=>rhs;rw[h1]
  exact(List.take_append_drop _ _).symm
 ·rw[strF_size]at hj
  rw[bt_strF _ _ _ hj (one_add_lt t j)]
  have:=one_le t j
  omega
theorem putL_split (l s:List Int) (k:Nat):putL l s=putL l (s.take k)++putL l (s.drop k):=by
 unfold putL;rw[<-List.flatMap_append,List.take_append_drop]
theorem extract0 (t:ByteArray) (n:Nat):(t.extract 0 n).data.toList=t.data.toList.take n:=by
 rw[ByteArray.data_extract,Array.toList_extract];simp[List.extract_eq_take_drop]
theorem rst_list (t:ByteArray) (p:Nat):(rst t p).data.toList=t.data.toList.drop p:=by
 unfold rst;rw[ByteArray.data_extract,Array.toList_extract,List.extract_eq_take_drop];rw[List.take_of_length_le];rw[List.length_drop,Array.length_toList];exact Nat.le_refl _
theorem ext_list {a b:ByteArray} (h:a.data.toList=b.data.toList):a=b:=ByteArray.ext (by rw[<-Array.toArray_toList (xs:=a.data),h,Array.toArray_toList])
theorem st_put {l s:List Int} (hr:csum l<=4096) (hok:∀ x∈l,0<=x/\x<=12) (hs:∀ x∈s,okS l x) {t:ByteArray} {z:List UInt8} (ht:t.data.toList=putL l s++z):∀ k,k<=s.length->st l t k=.inr (s.take k,(putL l (s.take k)).length)
 |0,_=>rfl
 |k+1,hk=>by
  have ih:=st_put hr hok hs ht k (by omega);have hx:=hs s[k] (List.getElem_mem (by omega));obtain⟨h0,h1,h2⟩:=hx
  have hi:((s[k].toNat:Nat):Int)=s[k]:=by omega
  have hcs:=codeOf_size l s[k].toNat
  have hcl:(codeOf l s[k].toNat).data.toList.length=wd l s[k].toNat:=by
   rw[Array.length_toList];exact hcs
  have hrl:(rst t (putL l (s.take k)).length).data.toList=(codeOf l s[k].toNat).data.toList++(putL l (s.drop (k+1))++z):=by
   rw[rst_list,ht,putL_split l s k,List.append_assoc,List.drop_left,List.drop_eq_getElem_cons (by omega)];unfold putL;rw[List.flatMap_cons,List.append_assoc]
  have hm:mt l (rst t (putL l (s.take k)).length) s[k].toNat:=by
   refine⟨by omega,h2,?_,?_⟩
   ·have:(rst t (putL l (s.take k)).length).size=(rst t (putL l (s.take k)).length).data.toList.length:=by simp
    rw[this,hrl,List.length_append,hcl];omega
   ·refine ext_list ?_
    rw[extract0,hrl,<-hcl,List.take_left]
  rw[st_more ih (sym_of hr hok hm),hi,take_more (by omega),putL_snoc,List.length_append,hcl]
theorem get_put {l s:List Int} (hw:whole l=true) (hs:∀ x∈s,okS l x) (h4:s.length<=400) {t:ByteArray} {z:List UInt8} (ht:t.data.toList=putL l s++z) (h8:t.size<=8000) (hg:good t=true):getR l t (s.length:Int)=(s,((putL l s).length:Int),0):=by
 have h1:=(right_yes (whole_right hw)).2;have h2:=whole_len hw;rw[getR_in (by omega) hw hg h4,st_put h1 (whole_ok hw) hs ht s.length (Nat.le_refl _),List.take_length];rfl
theorem code_good (l:List Int) (i:Nat):∀ y∈(codeOf l i).data.toList,y.toNat=48∨y.toNat=49:=by
 intro y hy;unfold codeOf at hy
 split at hy
 ·unfold bitsV strF at hy
  simp only at hy
  obtain⟨j,_,rfl⟩:=List.mem_map.1 hy;rw[UInt8.toNat_ofNat',Nat.mod_eq_of_lt (bitB_lt _ _)];exact bitB_01 _ _
 ·cases hy
theorem put_good (l s:List Int):good ⟨(putL l s).toArray⟩=true:=by
 refine good_of fun j hj=>?_
 have hj':j<(putL l s).length:=by
  have:(⟨(putL l s).toArray⟩:ByteArray).size=(putL l s).toArray.size:=rfl
  rw[this,List.size_toArray]at hj;exact hj
 have hm:(putL l s)[j]∈putL l s:=List.getElem_mem hj';obtain⟨x,_,hx⟩:=List.mem_flatMap.1 hm
 have:=code_good l x.toNat _ hx
 unfold bt
 simp only
 rw[List.getD_eq_getElem?_getD,List.getElem?_eq_getElem hj'];exact this
end Bi
namespace So
open Sh (bt bt_get bt_lt strF strF_size)
def PlOk (t:ByteArray) (l:List Nat):Prop:=l.Perm (List.range t.size)/\l.Pairwise (lx (clI t))
theorem pl_unique {t:ByteArray} {l l':List Nat} (h:PlOk t l) (h':PlOk t l'):l=l' :=
 List.Perm.eq_of_pairwise (fun _ _ _ _ h1 h2=>(lx_asymm (clI_weak _) h1 h2).elim) h.2 h'.2 (h.1.trans h'.1.symm)
def plB (t:ByteArray) (b k:Nat):List Nat:=(List.range k).filter fun j=>bt t j==b
def plK (t:ByteArray) (b:Nat):List Nat:=(List.range b).flatMap fun c=>plB t c t.size
def pl (t:ByteArray):List Nat:=plK t 256
theorem plK_succ (t:ByteArray) (b:Nat):plK t (b+1)=plK t b++plB t b t.size:=by
 unfold plK;rw[List.range_succ,List.flatMap_append];simp
theorem plB_yes (t:ByteArray) (b k:Nat) (h:bt t k=b):plB t b (k+1)=plB t b k++[k]:=by
 unfold plB;rw[List.range_succ,List.filter_append];simp[h]
theorem plB_no (t:ByteArray) (b k:Nat) (h:bt t k≠b):plB t b (k+1)=plB t b k:=by
 unfold plB;rw[List.range_succ,List.filter_append];simp[h]
theorem plB_len (t:ByteArray) (b k:Nat):(plB t b k).length<=k:=by
 have:=List.length_filter_le (fun j=>bt t j==b) (List.range k)
 simpa [plB] using this
theorem plK_len (t:ByteArray) (b:Nat):(plK t b).length<=b*t.size:=by
 induction b with
 |zero=>simp[plK]
 |succ b ih =>
  rw[plK_succ,List.length_append,Nat.succ_mul]
  have:=plB_len t b t.size
  omega
theorem pl_ok (t:ByteArray):PlOk t (pl t):=by
 have hpw:(pl t).Pairwise (lx (clI t)):=by
  unfold pl plK;rw[List.pairwise_flatMap];refine⟨fun b _=>?_,?_⟩
  ·unfold plB
   have h1:(List.range t.size).Pairwise (· < ·):=List.pairwise_lt_range;have h2:=h1.sublist (List.filter_sublist (p:=fun j=>bt t j==b));refine h2.imp_of_mem fun {x y} hx hy hlt=>?_
   have ex:bt t x=b:=by have:=(List.mem_filter.1 hx).2;simpa using this
   have ey:bt t y=b:=by have:=(List.mem_filter.1 hy).2;simpa using this
   exact lx_no (by simp[clI,ex,ey]) hlt
  ·refine(List.pairwise_lt_range (n:=256)).imp fun {b c} hbc x hx y hy=>?_
   have ex:bt t x=b:=by have:=(List.mem_filter.1 hx).2;simpa using this
   have ey:bt t y=c:=by have:=(List.mem_filter.1 hy).2;simpa using this
   exact lx_yes (by simp[clI,ex,ey,hbc])
 refine⟨?_,hpw⟩;refine(List.perm_ext_iff_of_nodup ?_ List.nodup_range).2 fun x=>?_
 ·exact hpw.imp fun {x y} h e=>by
   subst e;exact lx_asymm (clI_weak t) h h
 ·simp only[pl,plK,plB,List.mem_flatMap,List.mem_filter,List.mem_range]
  constructor
  ·rintro⟨b,_,h,_⟩
   exact h
  ·intro h
   exact⟨bt t x,bt_lt _ _,h,by simp⟩
theorem pl_len (t:ByteArray):(pl t).length=t.size:=by
 have:=(pl_ok t).1.length_eq
 simpa using this
def plF (t:ByteArray):Nat->Nat:=fun j=>(pl t).getD j 0
theorem plF_seg {t:ByteArray} {f:Nat->Nat} (hp:(seg f 0 t.size).Perm (List.range t.size)) (hr:Ris (clI t) 0 t.size f) (j:Nat) (hj:j<t.size):f j=plF t j:=by
 have h:seg f 0 t.size=pl t:=pl_unique ⟨hp,seg_pairwise hr⟩ (pl_ok t);unfold plF;rw[<-h,List.getD_eq_getElem?_getD,List.getElem?_eq_getElem (by rw[seg_len];omega)];simp[seg]
theorem plF_get (t:ByteArray) (j:Nat) (hj:j<(pl t).length):(pl t)[j]=plF t j:=by
 unfold plF;rw[List.getD_eq_getElem?_getD,List.getElem?_eq_getElem hj];rfl
theorem plF_lt (t:ByteArray) (j:Nat) (hj:j<t.size):plF t j<t.size:=by
 have hl:j<(pl t).length:=by rw[pl_len];exact hj
 rw[<-plF_get t j hl]
 have:=(pl_ok t).1.mem_iff.1 (List.getElem_mem hl)
 simpa using this
def itR (t:ByteArray) (a:Nat):Nat->Nat
 |0=>a
 |k+1=>plF t (itR t a k)
theorem itR_lt (t:ByteArray) (a k:Nat) (ha:a<t.size):itR t a k<t.size:=by
 induction k with
 |zero=>exact ha
 |succ k ih=>exact plF_lt t _ ih
def backT (t:ByteArray) (a:Nat):ByteArray:=strF t.size fun j=>bt t (itR t a (j+1))
theorem backT_size (t:ByteArray) (a:Nat):(backT t a).size=t.size:=strF_size _ _
def fillK (t:ByteArray) (a k:Nat):Nat->Nat:=fun j=>if j<k then bt t (itR t a (j+1)) else 0
theorem fillK_lt (t:ByteArray) (a k j:Nat):fillK t a k j<256:=by
 unfold fillK
 split
 ·exact bt_lt _ _
 ·omega
theorem fillK_next (t:ByteArray) (a k j:Nat):Sh.upd (fun j=>((fillK t a k j:Nat):Int)) k ((bt t (itR t a (k+1)):Nat):Int) j=((fillK t a (k+1) j:Nat):Int):=by
 unfold Sh.upd fillK;by_cases e:j=k
 ·subst e
  rw[if_pos rfl,if_pos (by omega)]
 ·rw[if_neg e]
  by_cases h:j<k
  ·have h':j<k+1:=by omega
   simp only[h,h',if_true]
  ·have h':¬j<k+1:=by omega
   simp only[h,h',if_false]
theorem fillK_all (t:ByteArray) (a:Nat):strF t.size (fillK t a t.size)=backT t a:=Sh.strF_congr _ _ _ fun j hj=>by
 unfold fillK;rw[if_pos hj]
def blK (t:ByteArray) (a k:Nat):List UInt8:=(List.range k).map fun j=>UInt8.ofNat (bt t (itR t a (j+1)))
theorem blK_len (t:ByteArray) (a k:Nat):(blK t a k).length=k:=by simp[blK]
theorem blK_snoc (t:ByteArray) (a k:Nat):blK t a (k+1)=blK t a k++[UInt8.ofNat (((bt t (itR t a (k+1)):Nat):Int)).toNat]:=by
 unfold blK;rw[List.range_succ,List.map_append];rfl
theorem blK_all (t:ByteArray) (a:Nat):(⟨(blK t a t.size).toArray⟩:ByteArray)=backT t a:=rfl
def tOut (t:ByteArray) (a c:Int):Value:=.agg #[.string t,.int .i64 a,.int .i64 c]
theorem list_eq_iff (a b:ByteArray):(a.toList==b.toList)=decide (a=b):=by
 by_cases h:a=b
 ·rw[h];simp
 ·rw[decide_eq_false h,beq_eq_false_iff_ne]
  intro e
  apply h
  rw[ByteArray.toList_eq,ByteArray.toList_eq]at e
  have e2:a.data=b.data:=by rw[<-Array.toArray_toList (xs:=a.data),e,Array.toArray_toList]
  cases a;cases b;simpa using e2
open Classical in
noncomputable def unR (t:ByteArray) (a:Int):Value :=
 if 8000<t.size then tOut ⟨#[]⟩ 0 2 else if 48<t.size∨a<0∨((t.size:Int)<=a/\0<a) then tOut ⟨#[]⟩ 0 1
 else if bwtT (backT t a.toNat)=t/\(bwtA (backT t a.toNat):Int)=a then tOut (backT t a.toNat) 0 0 else tOut ⟨#[]⟩ 0 3
theorem unR_big {t:ByteArray} {a:Int} (h:8000<t.size):unR t a=tOut ⟨#[]⟩ 0 2:=by unfold unR;rw[if_pos h]
theorem unR_form {t:ByteArray} {a:Int} (h0:¬8000<t.size) (h:48<t.size∨a<0∨((t.size:Int)<=a/\0<a)):unR t a=tOut ⟨#[]⟩ 0 1:=by unfold unR;rw[if_neg h0,if_pos h]
theorem unR_yes {t:ByteArray} {a:Nat} (h0:t.size<=48) (ha:a<t.size∨a=0) (h:bwtT (backT t a)=t/\bwtA (backT t a)=a):unR t a=tOut (backT t a) 0 0:=by
 unfold unR;rw[if_neg (by omega),if_neg (by omega),Int.toNat_natCast,if_pos ⟨h.1,by rw[h.2]⟩]
theorem unR_no {t:ByteArray} {a:Nat} (h0:t.size<=48) (ha:a<t.size∨a=0) (h:¬(bwtT (backT t a)=t/\bwtA (backT t a)=a)):unR t a=tOut ⟨#[]⟩ 0 3:=by
 unfold unR;rw[if_neg (by omega),if_neg (by omega),Int.toNat_natCast,if_neg (fun q=>h ⟨q.1,by omega⟩)]
theorem unR_case (t:ByteArray) (a:Int):∃ b c,unR t a=.agg #[.string b,.int .i64 0,.int .i64 c]:=by
 unfold unR tOut
 split
 ·exact⟨_,_,rfl⟩
 ·split
  ·exact⟨_,_,rfl⟩
  ·split<;>exact⟨_,_,rfl⟩
end So
namespace So
open Sh (bt bt_get bt_lt strF strF_size bt_strF)
theorem put_at (cl:Nat->Nat->Bool) (l:List Nat) (k:Nat):∀ p,p<=l.length->(∀ j (h:j<l.length),p<=j->cl k l[j]=true) ->
  ∃ p',p'<=l.length/\(∀ j (h:j<l.length),p'<=j->cl k l[j]=true)/\(p'=0∨∃ h:p' - 1<l.length,cl k l[p' - 1]=false):=by
 intro p
 induction p with
 |zero=>intro hp h;exact⟨0,hp,h,.inl rfl⟩
 |succ p ih =>
  intro hp h
  cases e:cl k l[p] with
  |false=>exact⟨p+1,hp,h,.inr ⟨by simp;omega,e⟩⟩
  |true =>
   refine ih (by omega) fun j hj hpj=>?_
   rcases Nat.eq_or_lt_of_le hpj with e2|e2
   ·subst e2;exact e
   ·exact h j hj e2
theorem ord_ex (t:ByteArray):OrdOk t (ord t):=by
 have:∀ k,∃ l:List Nat,l.Perm (List.range k)/\l.Pairwise (lx (clT (turnV t))):=by
  intro k
  induction k with
  |zero=>exact⟨[],by simp,List.Pairwise.nil⟩
  |succ k ih =>
   obtain⟨l,hp,hs⟩:=ih;obtain⟨p,h1,h2,h3⟩:=put_at (clT (turnV t)) l k l.length (Nat.le_refl _) (fun j hj h=>absurd hj (by omega));exact⟨_,ord_put (clT_weak _) hp hs h1 h2 h3⟩
 obtain⟨l,hl⟩:=this t.size;have hok:OrdOk t l:=hl;rw[ord_of hok];exact hok
def rl (l:List UInt8) (x:Nat):List UInt8:=l.drop x++l.take x
theorem rl_len (l:List UInt8) (x:Nat):(rl l x).length=l.length:=by
 unfold rl;rw[List.length_append,List.length_drop,List.length_take];omega
theorem rl_get (l:List UInt8) (x i:Nat) (hx:x<l.length) (hi:i<l.length):(rl l x)[i]'(by rw[rl_len];exact hi)=l[(x+i)%l.length]'(Nat.mod_lt _ (by omega)):=by
 unfold rl;by_cases h:x+i<l.length
 ·rw[List.getElem_append_left (by rw[List.length_drop];omega),List.getElem_drop]
  congr 1
  rw[Nat.mod_eq_of_lt h]
 ·rw[List.getElem_append_right (by rw[List.length_drop];omega),List.getElem_take]
  congr 1
  rw[List.length_drop,show x+i=(x+i-l.length)+l.length by omega,Nat.add_mod_right,Nat.mod_eq_of_lt (by omega)];omega
theorem rl_inj {l:List UInt8} {x y:Nat} (hx:x<l.length) (hy:y<l.length) (h:rl l x=rl l y) (i:Nat) (hi:i<l.length):l[(x+i)%l.length]'(Nat.mod_lt _ (by omega))=l[(y+i)%l.length]'(Nat.mod_lt _ (by omega)):=by
 rw[<-rl_get l x i hx hi,<-rl_get l y i hy hi]
 congr 1
def prv (n x:Nat):Nat:=(x+n-1)%n
theorem prv_lt {n x:Nat} (h:0<n):prv n x<n:=Nat.mod_lt _ h
theorem prv_zero {n:Nat} (h:0<n):prv n 0=n-1:=by unfold prv;rw[Nat.zero_add,Nat.mod_eq_of_lt (by omega)]
theorem prv_succ {n x:Nat} (h:x+1<n+1):prv n (x+1)=x%n:=by unfold prv;rw[show x+1+n-1=x+n by omega,Nat.add_mod_right]
theorem prv_next {n x:Nat} (hx:x<n):(prv n x+1)%n=x:=by
 cases x with
 |zero=>rw[prv_zero (by omega),show n-1+1=n by omega,Nat.mod_self]
 |succ x=>rw[prv_succ (by omega),Nat.mod_eq_of_lt (show x<n by omega),Nat.mod_eq_of_lt hx]
theorem rl_prv (l:List UInt8) (x:Nat) (hx:x<l.length):rl l (prv l.length x)=l[prv l.length x]'(prv_lt (by omega)) :: (rl l x).dropLast:=by
 apply List.ext_getElem
 ·rw[rl_len,List.length_cons,List.length_dropLast,rl_len];omega
 ·intro i h1 h2
  rw[rl_len]at h1;rw[rl_get l _ i (prv_lt (by omega)) h1]
  cases i with
  |zero =>
   simp only[List.getElem_cons_zero,Nat.add_zero]
   congr 1
   exact Nat.mod_eq_of_lt (prv_lt (by omega))
  |succ i =>
   rw[List.getElem_cons_succ,List.getElem_dropLast,rl_get l x i hx (by omega)]
   congr 1
   have:=prv_next hx
   rw[show prv l.length x+(i+1)=(prv l.length x+1)+i by omega,Nat.add_mod,this,Nat.mod_eq_of_lt (show i<l.length by omega)]
theorem lt_snoc:∀ (a b:List UInt8) (x y:UInt8),a.length=b.length->a<b->a++[x]<b++[y]
 |[],[],_,_,_,h=>absurd h (List.lt_irrefl _)
 |[],_ :: _,_,_,h,_=>by simp at h
 |_ :: _,[],_,_,h,_=>by simp at h
 |u :: a,v :: b,x,y,hl,h=>by
  rw[List.cons_lt_cons_iff]at h;rw[List.cons_append,List.cons_append,List.cons_lt_cons_iff]
  rcases h with h|⟨h1,h2⟩
  ·exact .inl h
  ·exact .inr ⟨h1,lt_snoc a b x y (by simpa using hl) h2⟩
theorem dropLast_le {a b:List UInt8} (hl:a.length=b.length) (h:¬b<a):¬b.dropLast<a.dropLast:=by
 intro h2;by_cases e:a=[]
 ·subst e
  simp at h2
 ·have e2:b≠[]:=by
   intro eb;subst eb;simp at hl;exact e hl
  apply h
  rw[<-List.dropLast_concat_getLast e,<-List.dropLast_concat_getLast e2];exact lt_snoc _ _ _ _ (by simp;omega) h2
end So
namespace So
open Sh (bt bt_get bt_lt strF strF_size bt_strF strF_congr)
def ch (t:ByteArray) (y:Nat):Nat:=bt t (y%t.size)
theorem bt_list (t:ByteArray) (j:Nat) (h:j<t.data.toList.length):bt t j=(t.data.toList[j]).toNat:=by
 unfold bt;rw[List.getD_eq_getElem?_getD,List.getElem?_eq_getElem h];rfl
theorem size_list (t:ByteArray):t.data.toList.length=t.size:=by simp
theorem ch_of {t:ByteArray} {x y:Nat} (hx:x<t.size) (hy:y<t.size) (h:rl t.data.toList x=rl t.data.toList y) (i:Nat):ch t (x+i)=ch t (y+i):=by
 have e:∀ z,ch t (z+i)=ch t (z+i%t.size):=fun z=>by
  unfold ch;rw[Nat.add_mod_mod]
 have hl:=size_list t;rw[e x,e y];have hi:i%t.size<t.size:=Nat.mod_lt _ (by omega);unfold ch;rw[bt_list t _ (by rw[hl];exact Nat.mod_lt _ (by omega)),bt_list t _ (by rw[hl];exact Nat.mod_lt _ (by omega))]
 have:=rl_inj (by rw[hl];exact hx) (by rw[hl];exact hy) h (i%t.size) (by rw[hl];exact hi)
 simp only[hl]at this;rw[this]
theorem ch_prv (t:ByteArray) (x i:Nat) (hx:x<t.size):ch t (prv t.size x+(i+1))=ch t (x+i):=by
 unfold ch;rw[show prv t.size x+(i+1)=(prv t.size x+1)+i by omega,Nat.add_mod,prv_next hx,Nat.add_mod x i,Nat.mod_eq_of_lt hx]
theorem clT_list (t:ByteArray) (x y:Nat):clT (turnV t) x y=decide (rl t.data.toList x<rl t.data.toList y):=by
 unfold clT;rw[bless_eq,ByteArray.toList_eq,ByteArray.toList_eq,turnV_list,turnV_list];rfl
theorem atK_hit (f:Nat->Nat):∀ n,(∃ k,k<n/\f k=0)->atK f n<n/\f (atK f n)=0:=by
 intro n
 induction n with
 |zero=>rintro⟨k,h,_⟩;omega
 |succ n ih =>
  rintro⟨k,h1,h2⟩;by_cases h0:f n=0
  ·rw[atK,if_pos h0]
   exact⟨by omega,h0⟩
  ·rw[atK,if_neg h0]
   have hk:k<n:=by
    rcases Nat.lt_or_ge k n with h|h
    ·exact h
    ·have:k=n:=by omega
     subst this;exact absurd h2 h0
   have:=ih ⟨k,hk,h2⟩
   exact⟨by omega,this.2⟩
theorem ord_len (t:ByteArray):(ord t).length=t.size:=by
 have:=(ord_ex t).1.length_eq
 simpa using this
theorem ord_map (t:ByteArray):(List.range t.size).map (ordF t)=ord t:=by
 apply List.ext_getElem
 ·simp[ord_len]
 ·intro i h1 h2
  rw[List.getElem_map,List.getElem_range,ordF_list (ord_ex t) i h2]
theorem ordF_lt (t:ByteArray) (j:Nat) (hj:j<t.size):ordF t j<t.size:=by
 have hl:j<(ord t).length:=by rw[ord_len];exact hj
 rw[ordF_list (ord_ex t) j hl]
 have:=(ord_ex t).1.mem_iff.1 (List.getElem_mem hl)
 simpa using this
theorem prv_perm (n:Nat):((List.range n).map (prv n)).Perm (List.range n):=by
 refine(List.perm_ext_iff_of_nodup ?_ List.nodup_range).2 fun y=>?_
 ·unfold List.Nodup
  rw[List.pairwise_map];refine List.nodup_range.imp_of_mem fun {x y} hx hy hne e=>hne ?_;have h1:=prv_next (List.mem_range.1 hx);have h2:=prv_next (List.mem_range.1 hy);rw[e]at h1;omega
 ·rw[List.mem_map,List.mem_range]
  constructor
  ·rintro⟨x,hx,rfl⟩
   exact prv_lt (by have:=List.mem_range.1 hx;omega)
  ·intro hy
   by_cases h:y+1<n
   ·exact⟨y+1,List.mem_range.2 h,by rw[prv_succ (by omega),Nat.mod_eq_of_lt hy]⟩
   ·exact⟨0,List.mem_range.2 (by omega),by rw[prv_zero (by omega)];omega⟩
theorem bwtT_size {t:ByteArray} (ht:t.size<=48):(bwtT t).size=t.size:=by
 unfold bwtT;rw[if_pos ht,strF_size]
theorem bwtT_bt {t:ByteArray} (ht:t.size<=48) (j:Nat) (hj:j<t.size):bt (bwtT t) j=bt t (prv t.size (ordF t j)):=by
 unfold bwtT;rw[if_pos ht,bt_strF t.size (fun j=>lastB t (ordF t j)) j hj (bt_lt _ _)];rfl
theorem lt_not {a b:List UInt8} (h:a<b):¬b<a:=fun h2=>List.lt_irrefl _ (List.lt_trans h h2)
theorem ord_le {t:ByteArray} {j j':Nat} (h:j<j') (hj:j' < t.size):¬rl t.data.toList (ordF t j')<rl t.data.toList (ordF t j):=by
 have h1:j<(ord t).length:=by rw[ord_len];omega
 have h2:j' < (ord t).length:=by rw[ord_len];omega
 have:=List.pairwise_iff_getElem.1 (ord_ex t).2 j j' h1 h2 h
 rw[<-ordF_list (ord_ex t) j h1,<-ordF_list (ord_ex t) j' h2]at this
 rcases this with e|⟨e,_⟩
 ·rw[clT_list]at e
  exact lt_not (of_decide_eq_true e)
 ·rw[clT_list]at e
  exact of_decide_eq_false e
theorem step {t:ByteArray} (ht:t.size<=48) (j:Nat) (hj:j<t.size):rl t.data.toList (prv t.size (ordF t (plF (bwtT t) j)))=rl t.data.toList (ordF t j):=by
 have hl:=size_list t;have hs:=bwtT_size ht
 have hn:0<t.size:=by omega
 have hb:∀ x,x<t.size->∀ (h:prv t.size (ordF t x)<t.data.toList.length),bt (bwtT t) x=(t.data.toList[prv t.size (ordF t x)]).toNat:=fun x hx h=>by
  rw[bwtT_bt ht x hx,bt_list t _ h]
 have hrp:∀ x,x<t.size->rl t.data.toList (prv t.size (ordF t x))=t.data.toList[prv t.size (ordF t x)]'(by rw[hl];exact prv_lt hn) :: (rl t.data.toList (ordF t x)).dropLast:=fun x hx=>by
  have:=rl_prv t.data.toList (ordF t x) (by rw[hl];exact ordF_lt t x hx)
  simp only[hl]at this;exact this
 have hA:((pl (bwtT t)).map fun j=>rl t.data.toList (prv t.size (ordF t j))).Pairwise (fun a b=>¬b<a):=by
  rw[List.pairwise_map];refine(pl_ok (bwtT t)).2.imp_of_mem fun {x y} hx hy hxy=>?_
  have hx':x<t.size:=by
   have:=(pl_ok (bwtT t)).1.mem_iff.1 hx
   rw[hs]at this
   simpa using this
  have hy':y<t.size:=by
   have:=(pl_ok (bwtT t)).1.mem_iff.1 hy
   rw[hs]at this
   simpa using this
  rw[hrp x hx',hrp y hy'];intro hlt;rw[List.cons_lt_cons_iff]at hlt;have bx:=hb x hx' (by rw[hl];exact prv_lt hn);have byy:=hb y hy' (by rw[hl];exact prv_lt hn)
  rcases hxy with e|⟨e,hlt2⟩
  ·have e2:bt (bwtT t) x<bt (bwtT t) y:=of_decide_eq_true e
   rw[bx,byy]at e2
   rcases hlt with h|⟨h,_⟩
   ·have:(t.data.toList[prv t.size (ordF t y)]'(by rw[hl];exact prv_lt hn)).toNat<(t.data.toList[prv t.size (ordF t x)]'(by rw[hl];exact prv_lt hn)).toNat:=h
    omega
   ·rw[h]at e2
    omega
  ·have e2:¬bt (bwtT t) y<bt (bwtT t) x:=of_decide_eq_false e
   rw[bx,byy]at e2
   rcases hlt with h|⟨_,h⟩
   ·exact e2 h
   ·exact dropLast_le (by rw[rl_len,rl_len]) (ord_le hlt2 hy') h
 have hB:((ord t).map (rl t.data.toList)).Pairwise (fun a b=>¬b<a):=by
  rw[List.pairwise_map];refine(ord_ex t).2.imp fun {x y} h=>?_
  rcases h with e|⟨e,_⟩
  ·rw[clT_list]at e
   exact lt_not (of_decide_eq_true e)
  ·rw[clT_list]at e
   exact of_decide_eq_false e
 have hP:((pl (bwtT t)).map fun j=>rl t.data.toList (prv t.size (ordF t j))).Perm ((ord t).map (rl t.data.toList)):=by
  have h1:((pl (bwtT t)).map fun j=>prv t.size (ordF t j)).Perm ((List.range t.size).map fun j=>prv t.size (ordF t j)):=by
   have:=(pl_ok (bwtT t)).1
   rw[hs]at this;exact this.map _
  have h2:((List.range t.size).map fun j=>prv t.size (ordF t j))=(ord t).map (prv t.size):=by
   rw[<-ord_map t,List.map_map];rfl
  rw[h2]at h1;have h3:=(h1.trans ((ord_ex t).1.map (prv t.size))).trans ((prv_perm t.size).trans (ord_ex t).1.symm);have h4:=h3.map (rl t.data.toList);rw[List.map_map]at h4;exact h4
 have hE:((pl (bwtT t)).map fun j=>rl t.data.toList (prv t.size (ordF t j)))=(ord t).map (rl t.data.toList):=by
  refine List.Perm.eq_of_pairwise ?_ hA hB hP;intro a b _ _ h1 h2;exact List.le_antisymm (show a<=b from h1) (show b<=a from h2)
 have hlp:j<(pl (bwtT t)).length:=by rw[pl_len,hs];exact hj
 have hlo:j<(ord t).length:=by rw[ord_len];exact hj
 have h5:((pl (bwtT t)).map fun j=>rl t.data.toList (prv t.size (ordF t j)))[j]'(by simpa using hlp)=((ord t).map (rl t.data.toList))[j]'(by simpa using hlo):=by
  simp only[hE]
 rw[List.getElem_map,List.getElem_map,plF_get _ j hlp,<-ordF_list (ord_ex t) j hlo]at h5;exact h5
theorem strF_bt (t:ByteArray):strF t.size (bt t)=t:=by
 have:((List.range t.size).map fun j=>UInt8.ofNat (bt t j))=t.data.toList:=by
  apply List.ext_getElem
  ·simp
  ·intro i h1 h2
   rw[List.getElem_map,List.getElem_range,bt_list t i h2];simp
 unfold strF;rw[this]
theorem back_bwt {t:ByteArray} (ht:t.size<=48):backT (bwtT t) (bwtA t)=t:=by
 have hs:=bwtT_size ht;unfold backT;rw[hs];refine Eq.trans (strF_congr _ _ _ fun k hk=>?_) (strF_bt t)
 have hn:0<t.size:=by omega
 have hat:bwtA t<t.size/\ordF t (bwtA t)=0:=by
  unfold bwtA;rw[if_pos ht]
  apply atK_hit
  have h0:0∈ord t:=(ord_ex t).1.mem_iff.2 (List.mem_range.2 hn);obtain⟨i,hi,e⟩:=List.getElem_of_mem h0;exact⟨i,by rw[<-ord_len];exact hi,by rw[ordF_list (ord_ex t) i hi];exact e⟩
 have hlt:∀ k,itR (bwtT t) (bwtA t) k<t.size:=fun k=>by
  have:=itR_lt (bwtT t) (bwtA t) k (by rw[hs];exact hat.1)
  rw[hs]at this;exact this
 have hst:∀ j,j<t.size->∀ i,ch t (prv t.size (ordF t (plF (bwtT t) j))+i)=ch t (ordF t j+i):=fun j hj i=>by
  have hq:plF (bwtT t) j<t.size:=by
   have:=plF_lt (bwtT t) j (by rw[hs];exact hj)
   rw[hs]at this;exact this
  exact ch_of (prv_lt hn) (ordF_lt t j hj) (step ht j hj) i
 have inv:∀ k,∀ i,ch t (ordF t (itR (bwtT t) (bwtA t) k)+i)=ch t (k+i):=by
  intro k
  induction k with
  |zero =>
   intro i
   show ch t (ordF t (bwtA t)+i)=_
   rw[hat.2]
  |succ k ih =>
   intro i;have h1:=hst (itR (bwtT t) (bwtA t) k) (hlt k) (i+1);rw[ch_prv t (ordF t (plF (bwtT t) (itR (bwtT t) (bwtA t) k))) i (ordF_lt t _ (hlt (k+1))),ih (i+1)]at h1;rw[show k+1+i=k+(i+1) by omega];exact h1
 rw[bwtT_bt ht _ (hlt (k+1))];have h1:=hst (itR (bwtT t) (bwtA t) k) (hlt k) 0;rw[inv k 0]at h1;simp only[Nat.add_zero]at h1;unfold ch at h1;rw[Nat.mod_eq_of_lt hk,Nat.mod_eq_of_lt (prv_lt hn)]at h1;exact h1
theorem unR_bwt {t:ByteArray} (ht:t.size<=48):unR (bwtT t) ((bwtA t:Nat):Int)=tOut t 0 0:=by
 have hb:=back_bwt ht;have hs:=bwtT_size ht
 have ha:bwtA t<=t.size:=by unfold bwtA;rw[if_pos ht];exact atK_le _ _
 have hlt:bwtA t<(bwtT t).size∨bwtA t=0:=by
  rw[hs];by_cases h0:t.size=0
  ·right;omega
  ·left
   unfold bwtA;rw[if_pos ht];refine(atK_hit _ _ ?_).1;have h0:0∈ord t:=(ord_ex t).1.mem_iff.2 (List.mem_range.2 (by omega));obtain⟨i,hi,e⟩:=List.getElem_of_mem h0;exact⟨i,by rw[<-ord_len];exact hi,by rw[ordF_list (ord_ex t) i hi];exact e⟩
 rw[unR_yes (by omega) hlt (by rw[hb];exact⟨rfl,rfl⟩),hb]
end So
namespace In
end In
namespace In
open St (Aft)
def OwnIn (w:World) (lo hi:Nat) (v:Value) (l:List Int):Prop :=
 (v=.slice none 0 0/\l=[])∨∃ g cap,v=.slice (some ⟨g,0,none⟩) l.length cap/\lo<=g/\g<hi/\IsO w g 2 l
theorem OwnI.inn {w:World} {base:Nat} {v:Value} {l:List Int} (h:OwnI w base v l):OwnIn w base w.heap.size v l:=by
 rcases h.split with h|⟨g,cap,hv,hg,_,ho⟩
 ·exact .inl h
 ·exact .inr ⟨g,cap,hv,hg,ho.lt,ho⟩
theorem OwnIn.ints {w:World} {lo hi:Nat} {v:Value} {l:List Int} (h:OwnIn w lo hi v l):∃ a cap,v=.slice a l.length cap/\Ints w hi a l:=by
 rcases h with⟨rfl,rfl⟩|⟨g,cap,rfl,_,hh,ho⟩
 ·exact⟨none,0,rfl,.inl rfl⟩
 ·exact⟨_,cap,rfl,ho.ints hh⟩
def IntMarked (w:World) (lo hi:Nat) (v:Value) (n:Nat):Prop:=OwnIn w lo hi v (marks 1 n)
end In
namespace St
def dg (k:Nat) (o:ByteArray):ByteArray:=if _h:k=0 then o else dg (k/10) (⟨#[UInt8.ofNat (48+k%10)]⟩++o)
termination_by k
decreasing_by omega
def markT (k:Nat):ByteArray:=⟨#[109]⟩++dg k ⟨#[]⟩
theorem one_str (W:World) (y:Nat) (h:y<256):(convert 22 9 (.slice (some ⟨W.heap.size,0,none⟩) 1 1)).run prog (W.alloc (.cells #[.int .u8 (y:Int)] 5))=.ok (.string ⟨#[UInt8.ofNat y]⟩) (W.alloc (.cells #[.int .u8 (y:Int)] 5)):=by
 refine run_convert_bytes_back (P:=prog) (W.alloc (.cells #[.int .u8 (y:Int)] 5)) 22 9 5 ⟨W.heap.size,0,none⟩ 1 [UInt8.ofNat y] underlying22 underlying5 underlying9 ?_;intro j hj
 match j,hj with
 |0,_ =>
  simp[Addr.add];omega
def marks (k n:Nat):List ByteArray:=(List.range n).map fun j=>markT (k+j)
def mmid (l:List ByteArray) (k i:Nat):List ByteArray:=marks k i++l.drop i
end St
namespace St
def OwnIn (w:World) (lo hi:Nat) (v:Value) (l:List ByteArray):Prop :=
 (v=.slice none 0 0/\l=[])∨∃ g cap,v=.slice (some ⟨g,0,none⟩) l.length cap/\lo<=g/\g<hi/\IsO w g 9 l
def Marked (w:World) (lo hi:Nat) (v:Value) (n:Nat):Prop:=OwnIn w lo hi v (marks 1 n)
end St
namespace Ze
theorem zeros_list (m:Nat):(Builtin.zeroCells (Value.int .i64 0).cells m)=(List.replicate m (Value.int .i64 0)).toArray:=by
 apply Array.ext'
 apply List.ext_getElem
 ·simp[Builtin.zeroCells,Value.cells]
 ·intro i h1 h2
  simp[Builtin.zeroCells,Value.cells,Nat.mod_one]
theorem one_zeros (m:Nat):∀ u∈List.replicate m (Value.int .i64 0),u.oneCell'=true:=by
 intro u hu;rw[(List.mem_replicate.1 hu).2];rfl
theorem run_append_zeros {P:Program} (w:World) (base:Nat) (t ti ty e:TypeId) (i:TypeInfo) (ht:P.underlying t=some (.slice e)) (hti:P.underlying ti=some (.int .i64)) (hi:P.info? e=some i) (hz:i.zero=some (.int .i64 0))
  (hsize:i.size=1) (hby:i.bytes=8)
  (v:Value) (n:Nat) (xs:List Value) (hown:w.ownsRow base e 1 v n xs) (m:Nat) (hs:n+m<=1048576) (hbase:base<=w.heap.size) :
  ∃ v' w',(Builtin.append_ #[t,ti] ty #[v,.int .i64 m]).run P w=.ok v' w'/\w'.ownsRow base e 1 v' (n+m) (xs++List.replicate m (.int .i64 0))/\w.grownBy w' v.ownBlock:=by
 have hlen:(xs++List.replicate m (Value.int .i64 0)).length=(n+m)*1:=by rw[List.length_append,hown.1,List.length_replicate];omega
 have hwrap:IntKind.i64.wrap (m:Int)=m:=by
  simp[IntKind.wrap,IntKind.bits,IntKind.signed];omega
 have hwrap0:IntKind.i64.wrap 0=0:=by simp[IntKind.wrap,IntKind.bits,IntKind.signed]
 have h0:¬((m:Int)<0):=by omega
 have h1:¬((m:Int)*((8:Nat):Int) > 2 ^ 48):=by omega
 have grown:∀ (old:Nat),old<n+m->∀ (row:Option Nat),
   (w.drew.alloc (.cells (xs.toArray++(List.replicate m (Value.int .i64 0)).toArray++Builtin.zeroCells (Value.int .i64 0).cells (grownCap w (n+m) old e-(n+m))) e)).ownsRow base e 1
    (.slice (some ⟨w.heap.size,0,none⟩) (n+m) (grownCap w (n+m) old e)) (n+m) (xs++List.replicate m (Value.int .i64 0)) /\
   w.grownBy (w.drew.alloc (.cells (xs.toArray++(List.replicate m (Value.int .i64 0)).toArray++Builtin.zeroCells (Value.int .i64 0).cells (grownCap w (n+m) old e-(n+m))) e)) row:=by
  intro old ho row;have hge:=grownCap_ge w (n+m) old e;have hcm:grownCap w (n+m) old e<=maxLen:=grownCap_le_maxLen w (n+m) old e (by unfold maxLen;omega);refine⟨⟨hlen,.inr ⟨w.heap.size,_,_,rfl,hbase,heap_alloc_new w.drew _,hge,hcm,?_,?_⟩⟩,⟨rfl,rfl,rfl,by simp,fun k hk _=>heap_alloc_old w.drew _ hk⟩⟩
  ·have h2:=hown.1
   simp only[Array.size_append,List.size_toArray,size_zeroCells,List.length_replicate,Value.cells,List.size_toArray,List.length_cons,List.length_nil];omega
  ·simp only[Array.toList_append,List.append_assoc]
   rw[<-List.append_assoc,<-hlen];exact List.take_left
 have hnew:∀ W:World,(if m*1=0 then (pure #[]:Sem (Array Value)) else do pure (Builtin.zeroCells (<-zeroValue e).cells m)).run P W=.ok (List.replicate m (Value.int .i64 0)).toArray W:=by
  intro W;by_cases hm:m=0
  ·subst hm
   simp
  ·rw[if_neg (by omega)]
   simp[zeroValue,typeInfo,hi,hz,zeros_list]
 rcases hown.2 with⟨rfl,rfl⟩|⟨g,cap,cur,rfl,hbg,hg,hnc,hcm,hcs,htake⟩
 ·have hx:xs=[]:=List.eq_nil_of_length_eq_zero (by simpa using hown.1)
  subst hx;by_cases hm:m=0
  ·subst hm
   refine⟨.slice none 0 0,w,?_,World.ownsRow_nil w base e 1,⟨rfl,rfl,rfl,Nat.le_refl _,fun _ _ _=>rfl⟩⟩;simp[Builtin.append_,run_underlying ht,run_underlying hti,sizeOf,typeInfo,hi,hby,asInt,asIntOf,hwrap0]
  ·have hgr:=grown 0 (by omega) (Value.ownBlock (.slice none 0 0))
   simp only[Nat.zero_add,List.nil_append,Array.empty_append]at hgr ⊢;refine⟨_,_,?_,hgr.1,hgr.2⟩
   have hnc:¬(281474976710656<Builtin.nextslicecap m 0*8):=by rw[nextslicecap_zero (by omega)];omega
   have h63':¬(9223372036854775807<(m:Int)):=by omega
   have hq:¬(281474976710656<(m:Int)*8):=by omega
   simp[Builtin.append_,run_underlying ht,run_underlying hti,sizeOf,typeInfo,zeroValue,hi,hz,hsize,hby,asInt,asIntOf,hwrap,h0,hq,hm,h63',hnc,Question.forced,run_firstCells_none,newRow,grownCap,zeros_list]
 ·by_cases hroom:n+m<=cap
  ·have hfit:n*1+(List.replicate m (Value.int .i64 0)).length<=cur.size:=by rw[List.length_replicate,hcs];omega
   have hst:=run_storeCells_at P g (n*1) e (List.replicate m (Value.int .i64 0)) 0 cur w hg (by simpa using hfit) (one_zeros m);simp only[Nat.add_zero]at hst
   have hq:¬(281474976710656<(m:Int)*8):=by omega
   refine⟨.slice (some ⟨g,0,none⟩) (n+m) cap,w.setRow g (cur.toList.take (n*1)++List.replicate m (Value.int .i64 0)++cur.toList.drop (n*1+(List.replicate m (Value.int .i64 0)).length)).toArray,?_,⟨hlen,.inr ⟨g,cap,_,rfl,hbg,setRow_heap w g cur _ e _ hg,hroom,hcm,?_,?_⟩⟩,⟨rfl,rfl,rfl,by simp,fun k _ hk=>setRow_other w g k _ (fun e=>hk (by simp[Value.ownBlock,e]))⟩⟩
   ·by_cases hm:m=0
    ·subst hm
     simp at hst;simp[Builtin.append_,run_underlying ht,run_underlying hti,sizeOf,typeInfo,zeroValue,hi,hsize,hby,asInt,asIntOf,hnc,Addr.add_lit,hwrap0,hst]
    ·simp at hst
     simp[Builtin.append_,run_underlying ht,run_underlying hti,sizeOf,typeInfo,zeroValue,hi,hz,hsize,hby,asInt,asIntOf,hwrap,h0,hq,hm,hroom,Addr.add_lit,zeros_list,hst]
   ·simp only[List.size_toArray,List.length_append,List.length_take,List.length_drop,Array.length_toList,List.length_replicate]
    omega
   ·rw[htake,<-hlen]
    exact List.take_left
  ·have holds:∀ j u,xs[j]? = some u->w.cell? ((⟨g,0,none⟩:Addr).add j)=some u:=hown.cells (g:=g) rfl
   have hm:m≠0:=by omega
   have hgr:=grown cap (by omega) (Value.ownBlock (.slice (some ⟨g,0,none⟩) n cap));refine⟨_,_,?_,hgr.1,hgr.2⟩;have hfo:=run_firstCells_some (P:=P) w.drew 1 n ⟨g,0,none⟩ n cap xs hown.1 (by simpa using holds)
   have hn:¬(n+m<=cap):=by omega
   have h63':¬(9223372036854775807<((n:Int)+(m:Int))):=by omega
   have hfits:Builtin.nextslicecap (n+m) cap*8<=281474976710656:=growslice_fits (by omega) (by omega)
   have h48':¬(281474976710656<Builtin.nextslicecap (n+m) cap*8):=by omega
   have hq:¬(281474976710656<(m:Int)*8):=by omega
   simp[Builtin.append_,run_underlying ht,run_underlying hti,sizeOf,typeInfo,zeroValue,hi,hz,hsize,hby,asInt,asIntOf,hwrap,h0,hq,hm,hn,h63',h48',Question.forced,hfo,newRow,grownCap,zeros_list]
theorem wpList_append_zeros {P:Program} (w:World) {ops:Array Oper} {rest:List Oper} {o:Oper} {a:Act} {Q:Exit->Act->World->Prop} (hgd:o.guard=none) (s x:Operand) (t ti:TypeId)
  (ho:o.op=.call { callee:=.builtin .append,args:=#[s,x],argTypes:=#[t,ti] })
  (base:Nat) (e:TypeId) (i:TypeInfo) (ht:P.underlying t=some (.slice e)) (hti:P.underlying ti=some (.int .i64)) (hi:P.info? e=some i) (hz:i.zero=some (.int .i64 0)) (hsize:i.size=1) (hby:i.bytes=8)
  (v:Value) (n:Nat) (xs:List Value) (hv:a.eval s=v) (hown:w.ownsRow base e 1 v n xs) (m:Nat) (hx:a.eval x=.int .i64 m) (hs:n+m<=1048576) (hbase:base<=w.heap.size)
  (h:∀ v' w',w'.ownsRow base e 1 v' (n+m) (xs++List.replicate m (.int .i64 0))->w.grownBy w' v.ownBlock->wpList P ops Q rest (a.put o.dst v') w'):wpList P ops Q (o :: rest) a w :=
 wpList_plain hgd fun _ hK=>by
  obtain⟨v',w',hr,h2,h3⟩:=run_append_zeros (P:=P) w base t ti o.type e i ht hti hi hz hsize hby v n xs hown m hs hbase;unfold Oper.wp execOp;simp only[ho,resolve,invoke,builtin,Sem.run_bind,Sem.run_pure,Result.andThen_ok,List.map_toArray,List.map_cons,List.map_nil,hv,hx,hr];exact hK _ _ (h v' w' h2 h3)
end Ze
namespace Ze
open Bi (upTo_impl ret_boolB)
open In (Ints OwnI one_newI one_cellI app_one)
open In.Tryz (infoI2)
theorem OwnI.alloc {w:World} {base:Nat} {v:Value} {l:List Int} (h:OwnI w base v l) (o:Obj):OwnI (w.alloc o) base v l :=
 h.below ((Below.refl _ _).alloc (Nat.le_refl _) o)
theorem putZeros_any (l:List Int) (r base:Nat) (v:Value) (w:World) (ho:OwnI w base v l) (hb:base<=w.heap.size) (hs:l.length+r<=1048576) :
  Calls prog 158 #[v,.int .i64 r] w fun e w'=>∃ v',e=.returned v'/\OwnI w' base v' (l++zrun r)/\Below base w w':=by
 obtain⟨i0,hi0,hz0,hz1,hz2⟩:=info_parts infoI2;have HO:=hideZ ho;obtain⟨a,cap,rfl,_,_⟩:=ho.ints;clear ho;generalize hln:l.length=n at hs HO;have HLN:=hideZ hln;clear hln;go_enter func158,ntmps158
 go_wp2_with fail
 go_loopw [0,1] (fun u m wr=>∃ (l':List Int) (r':Nat),m=.int .i64 r'/\OwnI wr base u l'/\l'++zrun r'=l++zrun r/\l'.length+r'<=1048576/\Below base w wr) (fun _ m _=>(intOf m).toNat)
 case atStart=>exact⟨l,r,rfl,HO.o,rfl,by have:=HLN.o;omega,Below.refl _ _⟩
 case round =>
  obtain⟨l',r',rfl,hown,he,hs',hbel⟩:=hrel;have G1:=hideZ hown;have GB:=hideZ hbel;have HE:=hideZ he;have hz:=hbel.size;have HS:=hideZ hs'
  have hs2:r'<=1048576:=by omega
  clear he hbel hs';obtain⟨a',cap',rfl,_,_⟩:=hown.ints;clear hown;by_cases h0:0<r'
  ·by_cases h1:r' % 2=1
   ·have hq:(r':Int).tmod 2=1:=by rw[Int.tmod_eq_emod_of_nonneg (by omega)];omega
    have hd:((r':Int)-1).tdiv 2=(((r' - 1)/2:Nat):Int):=by rw[Int.tdiv_eq_ediv_of_nonneg (by omega)];omega
    have HZ:Hid (l'++([0]++zrun ((r' - 1)/2))=l++zrun r):=by
     unfold Hid;rw[<-HE.o,zrun_odd h1];rfl
    go_wp2_with (at_builtin;refine wpList_append_own _ rfl (.tmp 10) (.tmp 11) 80 rfl base 2 i0 (.int .i64 0) 1 8 underlying80 hi0 hz0 hz1 hz2 rfl (by decide) _ _ _ rfl (OwnI.alloc G1.o _) ⟨wr.heap.size,0,none⟩ 1 1 [.int .i64 0] rfl rfl (one_newI _ _ _) (one_cellI _) (by unfold maxLen;have:=HS.o;omega) (by have:=HS.o;omega) (by simp;omega) ?_)
    intro v' w5 hown' hgrow _;have N5:=hideZ (OwnI.snoc hown');have b5:=hideZ (app_one GB.o (by omega) (Nat.le_refl _) G1.o hgrow);clear hown' hgrow;(go_wp2_with fail)
    go_roundw
    case rel=>exact⟨l'++[0],(r' - 1)/2,by go_num,N5.o,by rw[List.append_assoc];exact HZ.o,by have:=HS.o;simp;omega,b5.o⟩
    case measure=>simp[intOf];omega
   ·have hq:(r':Int).tmod 2=0:=by rw[Int.tmod_eq_emod_of_nonneg (by omega)];omega
    have hd:((r':Int)-2).tdiv 2=(((r' - 2)/2:Nat):Int):=by rw[Int.tdiv_eq_ediv_of_nonneg (by omega)];omega
    have HZ:Hid (l'++([1]++zrun ((r' - 2)/2))=l++zrun r):=by
     unfold Hid;rw[<-HE.o,zrun_even h0 h1];rfl
    go_wp2_with (at_builtin;refine wpList_append_own _ rfl (.tmp 16) (.tmp 17) 80 rfl base 2 i0 (.int .i64 0) 1 8 underlying80 hi0 hz0 hz1 hz2 rfl (by decide) _ _ _ rfl (OwnI.alloc G1.o _) ⟨wr.heap.size,0,none⟩ 1 1 [.int .i64 1] rfl rfl (one_newI _ _ _) (one_cellI _) (by unfold maxLen;have:=HS.o;omega) (by have:=HS.o;omega) (by simp;omega) ?_)
    intro v' w5 hown' hgrow _;have N5:=hideZ (OwnI.snoc hown');have b5:=hideZ (app_one GB.o (by omega) (Nat.le_refl _) G1.o hgrow);clear hown' hgrow;(go_wp2_with fail)
    go_roundw
    case rel=>exact⟨l'++[1],(r' - 2)/2,by go_num,N5.o,by rw[List.append_assoc];exact HZ.o,by have:=HS.o;simp;omega,b5.o⟩
    case measure=>simp[intOf];omega
  ·obtain rfl:r'=0:=by omega
   have HZ:Hid (l'=l++zrun r):=by
    unfold Hid;rw[<-HE.o,zrun_zero,List.append_nil]
   go_wp2_with fail
   go_ret;exact⟨_,rfl,by rw[<-HZ.o];exact G1.o,GB.o⟩
end Ze
namespace Ze
open Bi (upTo_impl ret_boolB is_yes is_no)
open In (Ints OwnI one_newI one_cellI app_one)
open In.Tryz (infoI2)
theorem OwnI.empty (w:World):OwnI (w.alloc (.cells #[] 2)) w.heap.size (.slice (some ⟨w.heap.size,0,none⟩) 0 0) [] :=
 ⟨rfl,.inr ⟨w.heap.size,0,#[],rfl,Nat.le_refl _,heap_alloc_last w _,Nat.le_refl _,by decide,rfl,rfl⟩⟩
theorem zerosOf_impl (l:List Int) (a:Option Addr) (cap B:Nat) (w:World) (hi:Ints w B a l) (hB:B<=w.heap.size) (hn:l.length<=1048576) :
  Calls prog 118 #[.slice a l.length cap] w fun e w'=>∃ v,e=.returned v/\OwnI w' w.heap.size v (zerosR l)/\Below w.heap.size w w':=by
 obtain⟨i0,hi0,hz0,hz1,hz2⟩:=info_parts infoI2;by_cases hlong:400<l.length
 ·rw[zerosR_no (numsR_long hlong)]
  clear hi;generalize l.length=n at hlong hn ⊢;go_enter func118,ntmps118
  go_wp2_with fail
  go_ret;exact⟨_,rfl,OwnI.nil _ _,Below.refl _ _⟩
 ·have HU:=hideZ (upTo_impl l 255 a cap B w hi hn)
  cases hu:upTo l 255 with
  |false =>
   rw[zerosR_no ((numsR_of (by omega)).trans hu)];rw[hu]at HU;clear hi hu;generalize l.length=n at HU hlong hn ⊢;have hd:decide (400<(n:Int))=false:=decide_eq_false (by omega);go_enter func118,ntmps118
   go_wp2_with fail
   refine HU.o.mono ?_;rintro e w' ⟨rfl,hw⟩;subst w'
   go_wp2_with fail
   go_ret;exact⟨_,rfl,OwnI.nil _ _,Below.refl _ _⟩
  |true =>
   rw[zerosR_yes ((numsR_of (by omega)).trans hu)];have HUP:=hideZ (upTo_yes hu);rw[hu]at HU;have HS:=hideZ (hi.mono hB);clear hi hu;obtain⟨n,hln⟩:∃ n,n=l.length:=⟨_,rfl⟩;have HLN:=hideZ hln;rw[<-hln]at HU hlong ⊢;clear hln hn;have hd:decide (400<(n:Int))=false:=decide_eq_false (by omega);go_enter func118,ntmps118
   go_wp2_with fail
   refine HU.o.mono ?_;rintro e w' ⟨rfl,hw⟩;subst w'
   go_wp2_with fail
   go_loopw [17,3,4] (fun i u m wr=>∃ k z:Nat,i=.int .i64 k/\m=.int .i64 z/\k<=n/\z=(zst (l.take k)).2/\OwnI wr w.heap.size u (zst (l.take k)).1/\Below w.heap.size w wr) (fun i _ _ _=>n-(intOf i).toNat)
   case atStart=>exact⟨0,0,rfl,rfl,Nat.zero_le _,rfl,OwnI.nil _ _,Below.refl _ _⟩
   case round =>
    obtain⟨k,z,rfl,rfl,hk,hz,hown,hbel⟩:=hrel;have hzl:=zst_len (l.take k);rw[List.length_take]at hzl;have hzk:(zst (l.take k)).1.length+z<=k:=(by omega);have G1:=hideZ hown;have GB:=hideZ hbel;have HZ:=hideZ hz;have hsz:=hbel.size;clear hzl;obtain⟨a',cap',rfl,_,_⟩:=hown.ints;generalize hnl:(zst (l.take k)).1.length=nl at hzk G1;have HNL:=hideZ hnl;clear hz hown hbel hnl;by_cases hlt:k<n
    ·have hkl:k<l.length:=by rw[<-HLN.o];exact hlt
     obtain⟨b,off,rfl,hb,hc⟩:=(HS.o.below GB.o).some (by omega);have ci:=hc k hkl;have hx255:=HUP.o _ (List.getElem_mem hkl);obtain⟨x,hx⟩:∃ x,x=l[k]:=⟨_,rfl⟩;have HX:=hideZ hx;rw[<-hx]at ci hx255;clear hc hx;by_cases h0:x=0
     ·have HZ1:Hid (zst (l.take (k+1))=((zst (l.take k)).1,z+1)):=by
       unfold Hid;rw[zst_zero hkl (by rw[<-HX.o];exact h0),HZ.o]
      have hbx:(x==0)=true:=beq_iff_eq.2 h0;clear h0;(go_wp2_with fail)
      go_roundw
      case rel=>exact⟨k+1,z+1,by go_num,by go_num,by omega,by rw[HZ1.o],by rw[HZ1.o];exact G1.o,GB.o⟩
      case measure=>simp[intOf];omega
     ·have HZ1:Hid (zst (l.take (k+1))=((zst (l.take k)).1++zrun z++[x+1],0)):=by
       unfold Hid;rw[zst_other hkl (by rw[<-HX.o];exact h0),HZ.o,HX.o]
      have hbx:(x==0)=false:=beq_eq_false_iff_ne.2 h0;have HPZ:=hideZ (putZeros_any (zst (l.take k)).1 z w.heap.size (.slice a' nl cap') wr G1.o (by omega) (by have:=HNL.o;omega));have hrl:=zrun_len z;clear h0;(go_wp2_with fail);refine HPZ.o.mono ?_;rintro e w4 ⟨v4,rfl,hown4,hbel4⟩
      have HL4:Hid (((zst (l.take k)).1++zrun z).length<=400):=by
       unfold Hid;rw[List.length_append,HNL.o];omega
      obtain⟨l4,hl4⟩:∃ l4,l4=(zst (l.take k)).1++zrun z:=⟨_,rfl⟩;rw[<-hl4]at hown4 HZ1 HL4;have G4:=hideZ hown4;have B4:=hideZ (GB.o.trans hbel4);have z4:=hbel4.size;obtain⟨a4,cap4,rfl,_,_⟩:=hown4.ints;clear hown4 hbel4 hl4
      go_wp2_with (at_builtin;refine wpList_append_own _ rfl (.tmp 27) (.tmp 30) 80 rfl w.heap.size 2 i0 (.int .i64 0) 1 8 underlying80 hi0 hz0 hz1 hz2 rfl (by decide) _ _ _ rfl (OwnI.alloc G4.o _) ⟨w4.heap.size,0,none⟩ 1 1 [.int .i64 (x+1)] rfl rfl (one_newI _ _ _) (one_cellI _) (by unfold maxLen;have:=HL4.o;omega) (by have:=HL4.o;omega) (by simp;omega) ?_)
      intro v' w5 hown' hgrow _;have N5:=hideZ (OwnI.snoc hown');have b5:=hideZ (app_one B4.o (by omega) (Nat.le_refl _) G4.o hgrow);clear hown' hgrow;(go_wp2_with fail)
      go_roundw
      case rel=>exact⟨k+1,0,by go_num,rfl,by omega,by rw[HZ1.o],by rw[HZ1.o];exact N5.o,b5.o⟩
      case measure=>simp[intOf];omega
    ·have hkn:k=l.length:=by have:=HLN.o;omega
     have HT:Hid (l.take k=l):=by
      unfold Hid;rw[hkn,List.take_length]
     have HPZ:=hideZ (putZeros_any (zst (l.take k)).1 z w.heap.size (.slice a' nl cap') wr G1.o (by omega) (by have:=HNL.o;omega));rw[HT.o]at HPZ HZ;rw[HZ.o]at HPZ ⊢;clear hkn HZ;(go_wp2_with fail);refine HPZ.o.mono ?_;rintro e w4 ⟨v4,rfl,hown4,hbel4⟩;have G4:=hideZ hown4;have B4:=hideZ (GB.o.trans hbel4);clear hown4 hbel4;(go_wp2_with fail);go_ret;exact⟨_,rfl,G4.o,B4.o⟩
end Ze
namespace Sh
def OwnB (w:World) (base:Nat) (v:Value) (n:Nat) (f:Nat->Nat):Prop :=
 ∃ g cap,v=.slice (some ⟨g,0,none⟩) n cap/\base<=g/\g<w.heap.size/\n<=cap/\cap<=maxLen/\(∀ j,j<n->w.cell? ⟨g,j,none⟩=some (.int .u8 (f j:Nat))) /\
  ∀ j,n<=j->j<cap->(w.cell? ⟨g,j,none⟩).isSome=true/\w.frozen? ⟨g,j,none⟩=false
theorem OwnB.congr {w:World} {base:Nat} {v:Value} {n:Nat} {f f':Nat->Nat} (h:OwnB w base v n f) (e:∀ j,j<n->f j=f' j):OwnB w base v n f':=by
 obtain⟨g,cap,h1,h2,h3,h4,h5,h6,h7⟩:=h;exact⟨g,cap,h1,h2,h3,h4,h5,fun j hj=>by rw[h6 j hj,e j hj],h7⟩
theorem OwnB.alloc {w:World} {base:Nat} {v:Value} {n:Nat} {f:Nat->Nat} (h:OwnB w base v n f) (o:Obj):OwnB (w.alloc o) base v n f:=by
 obtain⟨g,cap,h1,h2,h3,h4,h5,h6,h7⟩:=h;refine⟨g,cap,h1,h2,by simp;omega,h4,h5,fun j hj=>?_,fun j hj1 hj2=>?_⟩
 ·rw[World.cell?_alloc_past o g j h3];exact h6 j hj
 ·rw[World.cell?_alloc_past o g j h3,World.frozen?_alloc_past o g j h3];exact h7 j hj1 hj2
theorem OwnB.below {w w':World} {base B:Nat} {v:Value} {n:Nat} {f:Nat->Nat} (h:OwnB w base v n f) (b:Below B w w') (hB:w.heap.size<=B):OwnB w' base v n f:=by
 obtain⟨g,cap,h1,h2,h3,h4,h5,h6,h7⟩:=h;refine⟨g,cap,h1,h2,Nat.lt_of_lt_of_le h3 b.size,h4,h5,fun j hj=>?_,fun j hj1 hj2=>?_⟩
 ·rw[b.cell (p:=⟨g,j,none⟩) (show g<B by omega)];exact h6 j hj
 ·rw[b.cell (p:=⟨g,j,none⟩) (show g<B by omega),b.frozen (p:=⟨g,j,none⟩) (show g<B by omega)];exact h7 j hj1 hj2
theorem OwnB.slice {w:World} {base:Nat} {v:Value} {n:Nat} {f:Nat->Nat} (h:OwnB w base v n f):∃ g cap,v=.slice (some ⟨g,0,none⟩) n cap/\n<=cap:=by
 obtain⟨g,cap,h1,_,_,h4,_⟩:=h;exact⟨g,cap,h1,h4⟩
theorem own_of_string (w:World) (base:Nat) (s:ByteArray) (e:TypeId) (hs:s.size<=maxLen) (hb:base<=w.heap.size) :
  OwnB (w.drew.alloc (.cells (bytesRow s (grownCap w s.size 0 e)) e ((bytesRow s (grownCap w s.size 0 e)).size,(bytesRow s (grownCap w s.size 0 e)).size+1))) base
   (.slice (some ⟨w.heap.size,0,none⟩) s.size (grownCap w s.size 0 e)) s.size (bt s):=by
 have hge:=grownCap_ge w s.size 0 e;have hcm:=grownCap_le_maxLen w s.size 0 e hs;generalize grownCap w s.size 0 e=cap at hge hcm
 have hsz:(bytesRow s cap).size=cap:=by
  have:s.data.size=s.size:=rfl
  simp[bytesRow];omega
 have hc:∀ j,(w.drew.alloc (.cells (bytesRow s cap) e ((bytesRow s cap).size,(bytesRow s cap).size+1))).cell? ⟨w.heap.size,j,none⟩=(bytesRow s cap)[j]?:=fun j =>
  cell_of_row _ w.heap.size j _ e _ (heap_alloc_last w.drew _)
 refine⟨w.heap.size,cap,rfl,hb,by simp,hge,hcm,fun j hj=>?_,fun j hj1 hj2=>?_⟩
 ·rw[hc,bytesRow_at s cap j (show j<s.data.size from hj)]
  have:=bt_get s j hj
  simp only[<-this];rfl
 ·rw[hc]
  refine⟨by rw[Array.getElem?_eq_getElem (by omega)];rfl,?_⟩;unfold World.frozen?;rw[show (w.drew.alloc (.cells (bytesRow s cap) e ((bytesRow s cap).size,(bytesRow s cap).size+1))).heap[(⟨w.heap.size,j,none⟩:Addr).block]? = some (.cells (bytesRow s cap) e ((bytesRow s cap).size,(bytesRow s cap).size+1)) from heap_alloc_last w.drew _];simp[hsz];omega
theorem run_append_b {P:Program} (w:World) (base:Nat) (t ty e:TypeId) (i:TypeInfo) (ht:P.underlying t=some (.slice e)) (hi:P.info? e=some i) (hz:i.zero=some (.int .u8 0))
  (hsize:i.size=1) (hby:i.bytes=1) (v:Value) (n:Nat) (f:Nat->Nat) (hown:OwnB w base v n f) (ad:Addr) (c x:Nat) (hx:w.cell? (ad.add 0)=some (.int .u8 (x:Nat))) (hn:n+1<=140737488355328) (hbase:base<=w.heap.size) :
  ∃ v' w',(Builtin.append_ #[t,t] ty #[v,.slice (some ad) 1 c]).run P w=.ok v' w'/\OwnB w' base v' (n+1) (fun j=>if j=n then x else f j)/\w.grownBy w' v.ownBlock:=by
 obtain⟨g,cap,rfl,hg1,hg2,hnc,hcm,hcl,hsp⟩:=hown
 have hnews:∀ (j:Nat) (u:Value),[Value.int .u8 (x:Nat)][j]? = some u->w.cell? (ad.add j)=some u:=by
  intro j u hj
  match j,hj with
  |0,hj=>simp at hj;subst hj;exact hx
 have hone:∀ u∈[Value.int .u8 (x:Nat)],u.oneCell'=true:=by
  intro u hu;simp at hu;subst hu;rfl
 by_cases hroom:n+1<=cap
 ·obtain⟨sp1,sp2⟩:=hsp n (Nat.le_refl _) hroom
  have hr:=run_append_room_cells (P:=P) w t ty e i ht hi g 0 n cap ad 1 c [.int .u8 (x:Nat)] (by simp[hsize]) hnews hone hroom
   (fun j hj=>by simp at hj;subst hj;simpa [hsize] using sp1) (fun j hj=>by simp at hj;subst hj;simpa [hsize] using sp2)
  refine⟨_,_,hr,?_,⟨rfl,rfl,rfl,?_,?_⟩⟩
  ·obtain⟨y,hy⟩:=Option.isSome_iff_exists.1 sp1
   simp only[hsize,Nat.mul_one,Nat.zero_add,World.setCells];refine⟨g,cap,rfl,hg1,by simpa using hg2,hroom,hcm,fun j hj=>?_,fun j hj1 hj2=>?_⟩
   ·by_cases e':j=n
    ·subst e'
     rw[World.cell?_setCell_same w _ _ hy];simp
    ·rw[World.cell?_setCell_other w _ _ _ (by simp<;>omega),hcl j (by omega)]
     simp[e']
   ·rw[World.cell?_setCell_other w _ _ _ (by simp<;>omega),World.frozen?_setCell]
    exact hsp j (by omega) hj2
  ·simp[hsize,World.setCells]
  ·intro k _ hk
   simp only[hsize,World.setCells];exact heap_setCell_other w _ k _ (by intro e';exact hk (by simp[Value.ownBlock,e']))
 ·have hcap:cap=n:=by omega
  have hr:=run_append_grow (P:=P) w t ty e i (.int .u8 0) ht hi hz ⟨g,0,none⟩ n cap ((List.range n).map fun j=>Value.int .u8 (f j:Nat)) (by simp[hsize])
   (fun j u hj=>by
    have hadd:(⟨g,0,none⟩:Addr).add j=⟨g,j,none⟩:=by unfold Addr.add;split<;>simp_all
    rw[hadd];by_cases hjn:j<n
    ·simp[hjn]at hj
     rw[hcl j hjn,hj]
    ·simp[hjn]at hj)
   ad 1 c [.int .u8 (x:Nat)] (by simp[hsize]) hnews (by omega) (by omega) (by rw[hby];exact growslice_fits (by omega) (by omega))
  have hge:=grownCap_ge w (n+1) cap e;have hcm2:=grownCap_le_maxLen w (n+1) cap e (by unfold maxLen;omega);refine⟨_,_,hr,?_,⟨rfl,rfl,rfl,by simp,fun k hk _=>Below.heap_alloc w.drew _ k hk⟩⟩;generalize grownCap w (n+1) cap e=cap' at hge hcm2;have hcc:∀ (cs:Array Value) (j:Nat),(w.drew.alloc (.cells cs e)).cell? ⟨w.heap.size,j,none⟩=cs[j]?:=fun cs j=>World.cell?_alloc_new w.drew cs e j;have hff:∀ (cs:Array Value) (j:Nat),(w.drew.alloc (.cells cs e)).frozen? ⟨w.heap.size,j,none⟩=false:=fun cs j=>World.frozen?_alloc_new w.drew cs e j;refine⟨w.heap.size,cap',rfl,hbase,by simp,hge,hcm2,fun j hj=>?_,fun j hj1 hj2=>⟨?_,hff _ j⟩⟩
  ·rw[hcc]
   by_cases e':j=n
   ·subst e'
    simp[Array.getElem?_append]
   ·have hjn:j<n:=by omega
    simp[Array.getElem?_append,hjn,hj,e']
  ·rw[hcc,Array.getElem?_eq_getElem]
   ·rfl
   ·simp[size_zeroCells,Value.cells]
    omega
theorem wpList_append_b {P:Program} {w:World} {ops:Array Oper} {rest:List Oper} {o:Oper} {a:Act} {Q:Exit->Act->World->Prop} (hgd:o.guard=none) (s y:Operand) (t:TypeId)
  (ho:o.op=.call { callee:=.builtin .append,args:=#[s,y],argTypes:=#[t,t] })
  (base:Nat) (e:TypeId) (i:TypeInfo) (ht:P.underlying t=some (.slice e)) (hi:P.info? e=some i) (hz:i.zero=some (.int .u8 0)) (hsize:i.size=1) (hby:i.bytes=1)
  (v:Value) (n:Nat) (f:Nat->Nat) (hs:a.eval s=v) (hown:OwnB w base v n f) (ad:Addr) (c x:Nat) (hy:a.eval y=.slice (some ad) 1 c) (hx:w.cell? (ad.add 0)=some (.int .u8 (x:Nat)))
  (hn:n+1<=140737488355328) (hbase:base<=w.heap.size)
  (h:∀ v' w',OwnB w' base v' (n+1) (fun j=>if j=n then x else f j)->w.grownBy w' v.ownBlock->wpList P ops Q rest (a.put o.dst v') w'):wpList P ops Q (o :: rest) a w:=by
 refine wpList_plain hgd fun K hK=>?_;obtain⟨v',w',hr,h2,h3⟩:=run_append_b (P:=P) w base t o.type e i ht hi hz hsize hby v n f hown ad c x hx hn hbase;unfold Oper.wp execOp;simp only[ho,resolve,invoke,builtin,Sem.run_bind,Sem.run_pure,Result.andThen_ok,List.map_toArray,List.map_cons,List.map_nil,hs,hy,hr];exact hK _ _ (h v' w' h2 h3)
theorem pad_first (t:ByteArray) (j:Nat) (h:j<t.size+1):(if j=t.size then 128 else bt t j)=pad t j:=by
 by_cases e:j=t.size
 ·subst e;simp[pad,padK]
 ·have:j<t.size:=by omega
  simp[pad,padK,e,this]
theorem pad_zero (t:ByteArray) (n:Nat) (h1:t.size<n) (h2:n+8<chunks t.size*64):pad t n=0:=by
 have a:¬n<t.size:=by omega
 have b:¬n=t.size:=by omega
 have c:¬chunks t.size*64<=n+8:=by omega
 simp[pad,padK,a,b,c]
theorem pad_len (t:ByteArray) (m:Nat) (hm:m<8):pad t (chunks t.size*64-8+m)=t.size*8/2 ^ (56-8*m)%256:=by
 have hr:=chunks_room t.size
 have a:¬chunks t.size*64-8+m<t.size:=by omega
 have b:¬chunks t.size*64-8+m=t.size:=by omega
 have c:chunks t.size*64<=chunks t.size*64-8+m+8:=by omega
 have d:chunks t.size*64-1-(chunks t.size*64-8+m)=7-m:=by omega
 have e:8*(7-m)=56-8*m:=by omega
 simp only[pad,padK,if_neg a,if_neg b,if_pos c,d,e]
theorem pad_app (t:ByteArray) (n x:Nat) (hx:x=pad t n) (j:Nat):(if j=n then x else pad t j)=pad t j:=by
 by_cases e:j=n
 ·subst e;simp[hx]
 ·simp[e]
theorem part_congr (B B':Nat->Nat) (h:∀ j,j<64->B j=B' j) (i:Nat) (hi:i<16):∀ j,j<=4->part B i j=part B' i j
 |0,_=>rfl
 |j+1,hj=>by simp only[part];rw[part_congr B B' h i hi j (by omega),h _ (by omega)]
theorem wv_congr (B B':Nat->Nat) (h:∀ j,j<64->B j=B' j) (i:Nat):wv B i=wv B' i:=by
 induction i using Nat.strongRecOn with
 |_ i ih =>
  by_cases hi:i<16
  ·rw[wv_lo B i hi,wv_lo B' i hi]
   simp only[word];rw[part_congr B B' h i hi 4 (Nat.le_refl _)]
  ·rw[wv_hi B i hi,wv_hi B' i hi,ih (i-16) (by omega),ih (i-15) (by omega),ih (i-7) (by omega),ih (i-2) (by omega)]
theorem run_congr (B B':Nat->Nat) (s:Nat->Int) (h:∀ j,j<64->B j=B' j):∀ k,run B s k=run B' s k
 |0=>rfl
 |k+1=>by simp only[run];rw[run_congr B B' s h k,wv_congr B B' h k]
theorem blk_congr (B B':Nat->Nat) (s:Nat->Int) (h:∀ j,j<64->B j=B' j):blk B s=blk B' s:=by
 funext j
 simp only[blk];rw[run_congr B B' s h 64]
theorem blk_str (t:ByteArray) (k:Nat) (s:Nat->Int):blk (bt (strF 64 (blkB t k))) s=blk (blkB t k) s :=
 blk_congr _ _ s (fun j hj=>bt_strF 64 _ j hj (blkB_lt t k j))
theorem firstF_range (j:Nat):0<=firstF j/\firstF j<4294967296:=by
 by_cases h:j<8
 ·have:j=0∨j=1∨j=2∨j=3∨j=4∨j=5∨j=6∨j=7:=by omega
  rcases this with rfl|rfl|rfl|rfl|rfl|rfl|rfl|rfl<;>decide
 ·simp[firstF,firstL,List.getD,List.getElem?_eq_none (show [1779033703,3144134277,1013904242,2773480762,1359893119,2600822924,528734635,(1541459225:Int)].length<=j by simp;omega)]
theorem shaS_range (t:ByteArray) (k j:Nat):0<=shaS t k j/\shaS t k j<4294967296:=by
 cases k with
 |zero=>exact firstF_range j
 |succ k=>simp only[shaS,blk];omega
theorem OwnB.piece {P:Program} {w:World} {base g cap L:Nat} {f:Nat->Nat} (h:OwnB w base (.slice (some ⟨g,0,none⟩) L cap) L f) (off m c:Nat) (hm:off+m<=L) (hf:∀ j,f j<256) {src dst e:TypeId}
  (hs:P.underlying src=some (.slice e)) (he:P.underlying e=some (.int .u8)) (hd:P.underlying dst=some .string) :
  (convert src dst (.slice (some ⟨g,off,none⟩) m c)).run P w=.ok (.string (strF m (fun j=>f (off+j)))) w:=by
 obtain⟨g',cap',e1,_,_,_,_,hcl,_⟩:=h;simp at e1;obtain⟨rfl,rfl⟩:=e1
 have hl:((List.range m).map fun j=>UInt8.ofNat (f (off+j))).length=m:=by simp
 have:=run_convert_bytes_back (P:=P) w src dst e ⟨g,off,none⟩ c ((List.range m).map fun j=>UInt8.ofNat (f (off+j))) hs he hd (by
  intro j hj;rw[hl]at hj
  have hadd:(⟨g,off,none⟩:Addr).add j=⟨g,off+j,none⟩:=by unfold Addr.add;split<;>simp_all
  rw[hadd,hcl (off+j) (by omega)];have h3:=hf (off+j);simp
  omega)
 rw[hl]at this;exact this
theorem own_str {P:Program} {w:World} {base e:Nat} {v:Value} {n:Nat} {f:Nat->Nat} (h:w.ownsRow base e 1 v n (rowF .u8 n (fun j=>(f j:Nat))).toList) (hf:∀ j,f j<256) {src dst:TypeId}
  (hs:P.underlying src=some (.slice e)) (he:P.underlying e=some (.int .u8)) (hd:P.underlying dst=some .string) :
  (convert src dst v).run P w=.ok (.string (strF n f)) w:=by
 have hl:((List.range n).map fun j=>UInt8.ofNat (f j)).length=n:=by simp
 have hm:((List.range n).map fun j=>UInt8.ofNat (f j)).map Nu.bv=(rowF .u8 n (fun j=>(f j:Nat))).toList:=by
  simp only[rowF,List.map_map]
  apply List.map_congr_left
  intro j _
  have:=hf j
  simp[Nu.bv];omega
 have:=Nu.own_string (P:=P) (src:=src) (dst:=dst) ((List.range n).map fun j=>UInt8.ofNat (f j)) (by rw[hl,hm];exact h) hs he hd
 exact this
theorem outF_at (s:Nat->Int) (j r:Nat) (hr:r<4):((outF s (4*j+r):Nat):Int)=s j/2 ^ (24-8*r)%256:=by
 rw[<-outF_cast]
 have h1:(4*j+r)/4=j:=by omega
 have h2:(4*j+r)%4=r:=by omega
 rw[h1,h2]
theorem out_four (s:Nat->Int) (j:Nat) (x0 x1 x2 x3:Int) (h0:x0=s j/16777216%256) (h1:x1=s j/65536%256) (h2:x2=s j/256%256) (h3:x3=s j%256) :
  (rowF .u8 (4*j) (fun q=>(outF s q:Nat))).toList++[.int .u8 x0,.int .u8 x1,.int .u8 x2,.int .u8 x3]=(rowF .u8 (4*(j+1)) (fun q=>(outF s q:Nat))).toList:=by
 have e0:x0=((outF s (4*j):Nat):Int):=by rw[h0];exact(outF_at s j 0 (by decide)).symm
 have e1:x1=((outF s (4*j+1):Nat):Int):=by rw[h1];exact(outF_at s j 1 (by decide)).symm
 have e2:x2=((outF s (4*j+2):Nat):Int):=by rw[h2];exact(outF_at s j 2 (by decide)).symm
 have e3:x3=((outF s (4*j+3):Nat):Int):=by
  rw[h3,outF_at s j 3 (by decide)];simp
 rw[e0,e1,e2,e3,show 4*(j+1)=4*j+1+1+1+1 by omega,<-rowF_snoc,<-rowF_snoc,<-rowF_snoc,<-rowF_snoc];simp
theorem four_new (W:World) (a b c d:Value) (t:TypeId):∀ (j:Nat) (u:Value),[a,b,c,d][j]? = some u->(W.alloc (.cells #[a,b,c,d] t)).cell? ((⟨W.heap.size,0,none⟩:Addr).add j)=some u:=by
 intro j u hj
 match j,hj with
 |0,hj=>simp at hj;subst hj;simp[Addr.add]
 |1,hj=>simp at hj;subst hj;simp[Addr.add]
 |2,hj=>simp at hj;subst hj;simp[Addr.add]
 |3,hj=>simp at hj;subst hj;simp[Addr.add]
end Sh
namespace Dr
theorem blk_set3 {W:World} {B:Nat} {x0 x1 x2 x3:Value} {T:TypeId} (h:W.heap[B]? = some (.cells #[x0,x1,x2,x3] T (0,0))) (v:Value) :
  (W.setCell ⟨B,3,none⟩ v).heap[B]? = some (.cells #[x0,x1,x2,v] T (0,0)):=by
 rw[heap_setCell_same W B 3 _ T v h];rfl
def sobj (a:Option Addr) (len cap:Nat) (mix size:Int):Obj:=.cells #[.slice a len cap,.int .i64 0,.int .u64 mix,.int .i64 size] 78 (0,0)
theorem src_of {w wr:World} {a:Option Addr} {len cap:Nat} {mix size:Int} (hr:Row w w.heap.size a len) (ho:Only w.heap.size (w.alloc (sobj a len cap 88172645463325252 0)) wr)
  (hb:wr.heap[w.heap.size]? = some (sobj a len cap mix size)) (h1:0<=mix) (h2:mix<=18446744073709551615) (h3:0<=size) (h4:size<=12):Src wr w.heap.size a len cap:=by
 refine⟨ho.row ?_,0,mix,size,hb,Int.le_refl _,by omega,h1,h2,h3,h4⟩
 rcases hr with h0|⟨b,off,rfl,hne,hc⟩
 ·exact .inl h0
 ·refine .inr ⟨b,off,rfl,hne,fun i hi=>?_⟩
  obtain⟨z,hz,z1,z2⟩:=hc i hi;exact⟨z,(World.cell?_alloc_lt _ _ ⟨b,off+i,none⟩ (World.block_lt_of_cell? w _ hz)).trans hz,z1,z2⟩
theorem source_any (a:Option Addr) (len cap:Nat) (w:World) (hl:len<=1048576) (hr:Row w w.heap.size a len) :
  Calls prog 26 #[.slice a len cap] w fun e w'=>e=.returned (.pointer (some ⟨w.heap.size,0,none⟩))/\Src w' w.heap.size a len cap/\Below w.heap.size w w'/\w'.heap.size=w.heap.size+1:=by
 have HR:=hideD hr;clear hr;go_enter func26,ntmps26
 go_wp2
 go_loopw [4] (fun i wr=>∃ (k:Nat) (mix:Int),i=.int .i64 k/\k<=len/\0<=mix/\mix<=18446744073709551615/\wr.heap[w.heap.size]? = some (sobj a len cap mix 0)/\Only w.heap.size (w.alloc (sobj a len cap 88172645463325252 0)) wr) (fun i _=>len-(intOf i).toNat)
 case atStart=>exact⟨0,88172645463325252,rfl,Nat.zero_le _,by decide,by decide,heap_alloc_new _ _,Only.refl _ _⟩
 case round =>
  obtain⟨k,mix,rfl,hk,h2,h3,hb,ho⟩:=hrel
  have c2:wr.cell? ⟨w.heap.size,2,none⟩=some (.int .u64 mix):=by rw[cell_of_row wr _ 2 _ _ _ hb];rfl
  have c3:wr.cell? ⟨w.heap.size,3,none⟩=some (.int .i64 0):=by rw[cell_of_row wr _ 3 _ _ _ hb];rfl
  have f:=fun o=>frozen_of_row wr w.heap.size o _ _ hb;have HB:=hideD hb;have HO:=hideD ho;clear hb ho;by_cases hlt:k<len
  ·by_cases h64:k<64
   ·rcases HR.o with h0|⟨b,off,rfl,hne,hc⟩
    ·exfalso;omega
    ·obtain⟨z,hz,z1,z2⟩:=hc k hlt
     have hzr:wr.cell? ⟨b,off+k,none⟩=some (.int .u8 z):=(World.cell?_of_block (w:=w.alloc _) (a:=⟨b,off+k,none⟩) (HO.o.2.2.2.2 b (Nat.ne_of_lt hne))).trans ((World.cell?_alloc_lt _ _ ⟨b,off+k,none⟩ hne).trans hz);clear hc hz;have g1:(k:Int)<(len:Int):=(by omega)
     go_wp2
     go_region
     go_wp2
     go_roundw
     case rel=>exact⟨k+1,_,by go_num,by omega,(wrap64_bd _).1,(wrap64_bd _).2,blk_set HB.o _,(HO.o.set 2 _).drew⟩
     case measure=>simp[intOf];omega
   ·have hd:decide ((k:Int)<64)=false:=decide_eq_false (by omega)
    have g1:(k:Int)<(len:Int):=by omega
    have s3:=fun v=>sc1 (W:=wr) (p:=⟨w.heap.size,3,none⟩) (x:=.int .i64 0) c3 v;by_cases hbig:(12:Int)<(len:Int)/20
    ·go_wp2
     go_ret;refine⟨rfl,src_of HR.o ((HO.o.set 3 _).set 3 _) (blk_set3 (blk_set3 HB.o _) _) h2 h3 (by omega) (by omega),?_,?_⟩
     ·exact((HO.o.set 3 _).set 3 _).below ((Below.refl _ _).alloc (Nat.le_refl _) _) (Nat.le_refl _)
     ·have:=((HO.o.set 3 (.int .i64 0)).set 3 (.int .i64 0)).2.2.2.1
      simpa [World.setCell] using this
    ·go_wp2
     go_ret;refine⟨rfl,src_of HR.o (HO.o.set 3 _) (blk_set3 HB.o _) h2 h3 (by omega) (by omega),?_,?_⟩
     ·exact(HO.o.set 3 _).below ((Below.refl _ _).alloc (Nat.le_refl _) _) (Nat.le_refl _)
     ·have:=(HO.o.set 3 (.int .i64 0)).2.2.2.1
      simpa [World.setCell] using this
  ·have hd:decide ((k:Int)<(len:Int))=false:=decide_eq_false (by omega)
   have s3:=fun v=>sc1 (W:=wr) (p:=⟨w.heap.size,3,none⟩) (x:=.int .i64 0) c3 v;by_cases hbig:(12:Int)<(len:Int)/20
   ·go_wp2
    go_ret;refine⟨rfl,src_of HR.o ((HO.o.set 3 _).set 3 _) (blk_set3 (blk_set3 HB.o _) _) h2 h3 (by omega) (by omega),?_,?_⟩
    ·exact((HO.o.set 3 _).set 3 _).below ((Below.refl _ _).alloc (Nat.le_refl _) _) (Nat.le_refl _)
    ·have:=((HO.o.set 3 (.int .i64 0)).set 3 (.int .i64 0)).2.2.2.1
     simpa [World.setCell] using this
   ·go_wp2
    go_ret;refine⟨rfl,src_of HR.o (HO.o.set 3 _) (blk_set3 HB.o _) h2 h3 (by omega) (by omega),?_,?_⟩
    ·exact(HO.o.set 3 _).below ((Below.refl _ _).alloc (Nat.le_refl _) _) (Nat.le_refl _)
    ·have:=(HO.o.set 3 (.int .i64 0)).2.2.2.1
     simpa [World.setCell] using this
end Dr
namespace Dr
open Nu (bv own_string)
structure Aft (B:Nat) (w w':World):Prop where
 os:w'.os=w.os
 tape:w'.tape=w.tape
 output:w'.output=w.output
 size:w.heap.size<=w'.heap.size
 block:∀ k,k<w.heap.size->k≠B->w'.heap[k]? = w.heap[k]?
theorem Aft.refl (B:Nat) (w:World):Aft B w w:=⟨rfl,rfl,rfl,Nat.le_refl _,fun _ _ _=>rfl⟩
theorem Aft.trans {B:Nat} {a b c:World} (h:Aft B a b) (k:Aft B b c):Aft B a c :=
 ⟨k.os.trans h.os,k.tape.trans h.tape,k.output.trans h.output,Nat.le_trans h.size k.size,fun i hi hn=>(k.block i (Nat.lt_of_lt_of_le hi h.size) hn).trans (h.block i hi hn)⟩
theorem Only.aft {B:Nat} {w w':World} (h:Only B w w'):Aft B w w':=⟨h.1,h.2.1,h.2.2.1,by rw[h.2.2.2.1];exact Nat.le_refl _,fun k _ hk=>h.2.2.2.2 k hk⟩
theorem aft_below {B:Nat} {w w':World} (h:Below w.heap.size w w'):Aft B w w':=⟨h.os,h.tape,h.output,h.size,fun k hk _=>h.block k hk⟩
theorem Aft.below {B C:Nat} {w0 w w':World} (hb:Below C w0 w) (h:Aft B w w') (hC:C<=B) (hS:C<=w.heap.size):Below C w0 w' :=
 hb.trans ⟨h.os,h.tape,h.output,h.size,fun k hk=>h.block k (by omega) (by omega)⟩
theorem Src.stays {B:Nat} {w w':World} {a:Option Addr} {len cap:Nat} (hs:Src w B a len cap) (h:∀ k,k<=B->w'.heap[k]? = w.heap[k]?):Src w' B a len cap:=by
 obtain⟨hr,at_,mix,size,hb,h0⟩:=hs;refine⟨?_,at_,mix,size,(h B (Nat.le_refl _)).trans hb,h0⟩
 rcases hr with h0|⟨b,off,rfl,hlt,hc⟩
 ·exact .inl h0
 ·refine .inr ⟨b,off,rfl,hlt,fun i hi=>?_⟩
  obtain⟨z,hz,z1,z2⟩:=hc i hi;exact⟨z,(World.cell?_of_block (w:=w) (a:=⟨b,off+i,none⟩) (h b (Nat.le_of_lt hlt))).trans hz,z1,z2⟩
theorem Src.lt {B:Nat} {w:World} {a:Option Addr} {len cap:Nat} (hs:Src w B a len cap):B<w.heap.size:=by
 obtain⟨_,at_,mix,size,hb,_⟩:=hs
 rcases Nat.lt_or_ge B w.heap.size with h|h
 ·exact h
 ·rw[Array.getElem?_eq_none h]at hb
  exact absurd hb (by simp)
theorem Src.below {B:Nat} {w w':World} {a:Option Addr} {len cap:Nat} (hs:Src w B a len cap) (h:Below w.heap.size w w'):Src w' B a len cap :=
 hs.stays fun k hk=>h.block k (Nat.lt_of_le_of_lt hk hs.lt)
theorem one_any (B:Nat) (a:Option Addr) (len cap:Nat) (most:Int) (w:World) (hl:len<=1048576) (hm2:most<=9223372036854775807) (hs:Src w B a len cap) :
  Calls prog 38 #[.pointer (some ⟨B,0,none⟩),.int .i64 most] w fun e w'=>∃ r:Bool,e=.returned (.bool r)/\Src w' B a len cap/\Only B w w':=by
 go_enter func38,ntmps38
 go_wp2_with fail
 refine(n_any B a len cap most _ hl hm2 hs).mono ?_;rintro e w1 ⟨r,rfl,h0,h1,h2,h3⟩
 go_wp2
 go_ret;exact⟨_,rfl,h2,h3⟩
theorem owns_only {B base:Nat} {w w':World} {e:TypeId} {v:Value} {n size:Nat} {xs:List Value} (h:w.ownsRow base e size v n xs) (ho:Only B w w') (hB:B<base):w'.ownsRow base e size v n xs:=by
 obtain⟨h1,h2⟩:=h;refine⟨h1,?_⟩
 rcases h2 with h2|⟨g,cap,cur,e1,e2,e3,e4⟩
 ·exact .inl h2
 ·exact .inr ⟨g,cap,cur,e1,e2,(ho.2.2.2.2 g (by omega)).trans e3,e4⟩
theorem aft_more {B:Nat} {w w1 w2:World} (h:Aft B w w1) (hb:Below w.heap.size w1 w2):Aft B w w2 :=
 ⟨hb.os.trans h.os,hb.tape.trans h.tape,hb.output.trans h.output,Nat.le_trans h.size hb.size,fun k hk hn=>(hb.block k hk).trans (h.block k hk hn)⟩
theorem bv_int (r:Int) (h0:0<=r) (h1:r<=255):bv (UInt8.ofNat r.toNat)=.int .u8 r:=by
 unfold bv;rw[UInt8.toNat_ofNat',Nat.mod_eq_of_lt (by omega)]
 congr 1
 omega
theorem Tryz.infoD5:(prog.info? 5).map (fun i=>(i.zero,i.size,i.bytes))=some (some (.int .u8 0),1,1):=by kernel_rfl
/-- s.bytes(n): a text of n bytes -/
theorem bytes_any (B:Nat) (a:Option Addr) (len cap m:Nat) (w:World) (hl:len<=1048576) (hm:m<=1048576) (hs:Src w B a len cap) :
  Calls prog 86 #[.pointer (some ⟨B,0,none⟩),.int .i64 m] w fun e w'=>∃ l:List UInt8,l.length=m/\e=.returned (.string ⟨l.toArray⟩)/\Src w' B a len cap/\Aft B w w':=by
 have hB:=hs.lt;have HS:=hideD hs;clear hs;obtain⟨i0,hi,hz0,hz1,hz2⟩:=info_parts Tryz.infoD5;go_enter func86,ntmps86
 go_wp2
 go_loopw [5,6] (fun v i wr=>∃ (k:Nat) (l:List UInt8),i=.int .i64 k/\k<=m/\l.length=k/\wr.ownsRow w.heap.size 5 1 v k (l.map bv)/\Src wr B a len cap/\Aft B w wr) (fun _ i _=>m-(intOf i).toNat)
 case atStart =>
  exact⟨0,[],rfl,Nat.zero_le _,rfl,World.ownsRow_made _ _ _ (Nat.le_refl _) (by decide) rfl,HS.o.below ((Below.refl _ _).alloc (Nat.le_refl _) _),aft_below ((Below.refl _ _).alloc (Nat.le_refl _) _)⟩
 case round =>
  obtain⟨k,l,rfl,hk,hlen,hown,hsr,haft⟩:=hrel;have HL:=hideD hlen;have HSR:=hideD hsr;have HA:=hideD haft;have HO:=hideD hown;clear hlen hsr haft hown;by_cases hlt:k<m
  ·go_wp2_with fail
   refine(n_any B a len cap 256 _ hl (by omega) HSR.o).mono ?_;rintro e w1 ⟨r,rfl,r0,r1,hs1,ho1⟩
   have r2:r<=255:=by omega
   have hown1:=owns_only HO.o ho1 hB;have HS1:=hideD hs1;have HA1:=hideD (HA.o.trans ho1.aft);clear hs1
   go_wp2_with (at_builtin;refine wpList_append_own _ rfl (.tmp 13) (.tmp 17) 22 rfl w.heap.size 5 i0 (.int .u8 0) 1 1 underlying22 hi hz0 hz1 hz2 rfl (by decide) _ _ _ rfl (hown1.alloc _) ⟨w1.heap.size,0,none⟩ 1 1 [.int .u8 r] rfl rfl ?c1 ?c2 ?c3 ?c4 ?c5 ?_)
   case c1 =>
    intro j u hj
    match j,hj with
    |0,hj=>simp at hj;subst hj;simp[Addr.add]
   case c2=>intro u hu;simp at hu;subst hu;rfl
   case c3=>unfold maxLen;omega
   case c4=>omega
   case c5=>have:=HA1.o.size;simp;omega
   intro v' w2 hown2 hgrow _;have hb2:=Go.Proofs.YtaejgfdkfcmjeaaGreatDoor.Nu.app_below (w:=w1) (Below.refl w.heap.size w1) HA1.o.size hown1 hgrow;have HS2:=hideD (HS1.o.stays fun j hj=>hb2.block j (by omega));have HA2:=hideD (aft_more HA1.o hb2)
   have HO2:Hid (w2.ownsRow w.heap.size 5 1 v' (k+1) ((l++[UInt8.ofNat r.toNat]).map bv)):=by
    unfold Hid;rw[List.map_append,List.map_singleton,bv_int r r0 r2];exact hown2
   clear hown2 hgrow hown1 hb2 ho1
   go_wp2
   go_roundw
   case rel=>exact⟨k+1,l++[UInt8.ofNat r.toNat],by go_num,by omega,by rw[List.length_append,HL.o];rfl,HO2.o,HS2.o,HA2.o⟩
   case measure=>simp[intOf];omega
  ·have hkm:k=m:=by omega
   have HKM:=hideD hkm;have hconv:=own_string (P:=prog) (src:=22) (dst:=9) l (by rw[HL.o];exact HO.o) underlying22 underlying5 underlying9;clear hkm
   go_wp2
   go_ret;exact⟨l,by rw[HL.o,HKM.o],rfl,HSR.o,HA.o⟩
end Dr
end Go.Proofs.YtaejgfdkfcmjeaaGreatDoor
