/- Texts put together: PackWalks, GetImpl2, GetTop2, OpenWalks, DrawBase, DrawN, DrawSource, DrawMore, UnNum, GetNext, GetSpec2, GetTop3, PutSpec, PackSpec. -/
import Derived.Test.YtkgjfdanjmnmbaaGreatDoorOz28
import Derived.Test.YtkgjfdanjmnmbaaGreatDoorOz16
import Derived.Laws.AppendOwn
import Derived.BigRegion
import Derived.Test.YtkgjfdanjmnmbaaGreatDoorOz35
import Derived.Test.YtkgjfdanjmnmbaaGreatDoorOz34
import Derived.Maps.OwnOps
import Derived.Test.YtkgjfdanjmnmbaaGreatDoorChecked
import Derived.WalkKit
import Derived.WalkSpells
import Derived.WalkLawsBesides
import Derived.Deep.QuietTactic
import Derived.BigQuiet
import Derived.Laws.BitsAllLaws
import Derived.Test.YtkgjfdanjmnmbaaGreatDoorOz4
import Derived.Test.YtkgjfdanjmnmbaaGreatDoorOz24
import Derived.Deep.RegionWith
import Derived.Deep.CutRange
import Derived.Deep.RegionHeld3
import Derived.Test.YtkgjfdanjmnmbaaGreatDoorOz31
set_option maxRecDepth 100000
set_option maxHeartbeats 8000000
namespace Go.Proofs.YtkgjfdanjmnmbaaGreatDoor.Bi
open Go.RowKit
open Sh
open Nu (ret_strJ bv own_string app_below)
theorem byte_at (t:ByteArray) (j:Nat) (h:j<t.size):∃ y:UInt8,t[j]=y/\y.toNat=bt t j:=⟨t[j],rfl,bt_get t j h⟩
theorem all_more (t:ByteArray) (k:Nat) (h:∀ j,j<k->bt t j=48∨bt t j=49) (hk:bt t k=48∨bt t k=49):∀ j,j<k+1->bt t j=48∨bt t j=49:=by
 intro j hj
 by_cases e:j=k
 ·rw[e];exact hk
 ·exact h j (by omega)
theorem good_impl (t:ByteArray) (w:World) (ht:t.size<=1048576) :
  Calls Tryz.prog 143 #[.string t] w fun e w'=>e=.returned (.bool (good t))/\w'=w:=by
 go_enter Tryz.func143,Tryz.ntmps143
 go_wp2_with fail
 go_loopw [6] (fun i wr=>∃ k:Nat,i=.int .i64 k/\k<=t.size/\(∀ j,j<k->bt t j=48∨bt t j=49)/\wr=w) (fun i _=>t.size-(intOf i).toNat)
 case atStart=>exact⟨0,rfl,Nat.zero_le _,fun j hj=>absurd hj (Nat.not_lt_zero j),rfl⟩
 case round =>
  obtain⟨k,rfl,hk,hall,hw⟩:=hrel
  subst hw
  have HA:=hideB hall
  clear hall
  by_cases hlt:k<t.size
  ·obtain⟨y,b0,hy⟩:=byte_at t k hlt
   have HY:=hideB hy
   by_cases e8:(y.toNat:Int)=48
   ·have n8:((y.toNat:Int) != 48)=false:=by rw[e8];rfl
    have HM:Hid (∀ j,j<k+1->bt t j=48∨bt t j=49):=all_more t k HA.out (by rw[<-HY.out];omega)
    clear hy e8
    go_wp2_with fail
    go_roundw
    case rel=>exact⟨k+1,by go_num,by omega,HM.out,trivial⟩
    case measure=>simp[intOf];omega
   ·have n8:((y.toNat:Int) != 48)=true:=by rw[bne_iff_ne];exact e8
    by_cases e9:(y.toNat:Int)=49
    ·have n9:((y.toNat:Int) != 49)=false:=by rw[e9];rfl
     have HM:Hid (∀ j,j<k+1->bt t j=48∨bt t j=49):=all_more t k HA.out (by rw[<-HY.out];omega)
     clear hy e8 e9
     go_wp2_with fail
     go_roundw
     case rel=>exact⟨k+1,by go_num,by omega,HM.out,trivial⟩
     case measure=>simp[intOf];omega
    ·have n9:((y.toNat:Int) != 49)=true:=by rw[bne_iff_ne];exact e9
     have HN:=hideB (good_not hlt (by rw[<-HY.out];omega) (by rw[<-HY.out];omega))
     clear hy e8 e9
     go_wp2_with fail
     go_ret
     exact⟨ret_boolB HN.out.symm,rfl⟩
  ·have HG:=hideB (good_of (t:=t) (fun j hj=>HA.out j (by omega)))
   go_wp2_with fail
   go_ret
   exact⟨ret_boolB HG.out.symm,rfl⟩
theorem good_spec (t:ByteArray) (w:World) (ht:t.size<=1048576) :
  Calls Tryz.prog 107 #[.string t] w fun e w'=>e=.returned (.bool (good t))/\w'=w:=by
 go_enter Tryz.func107,Tryz.ntmps107
 go_wp2_with fail
 go_loopw [3] (fun i wr=>∃ k:Nat,i=.int .i64 k/\k<=t.size/\(∀ j,j<k->bt t j=48∨bt t j=49)/\wr=w) (fun i _=>t.size-(intOf i).toNat)
 case atStart=>exact⟨0,rfl,Nat.zero_le _,fun j hj=>absurd hj (Nat.not_lt_zero j),rfl⟩
 case round =>
  obtain⟨k,rfl,hk,hall,hw⟩:=hrel
  subst hw
  have HA:=hideB hall
  clear hall
  by_cases hlt:k<t.size
  ·obtain⟨y,b0,hy⟩:=byte_at t k hlt
   have HY:=hideB hy
   by_cases e8:(y.toNat:Int)=48
   ·have n8:((y.toNat:Int) != 48)=false:=by rw[e8];rfl
    have HM:Hid (∀ j,j<k+1->bt t j=48∨bt t j=49):=all_more t k HA.out (by rw[<-HY.out];omega)
    clear hy e8
    go_wp2_with fail
    go_roundw
    case rel=>exact⟨k+1,by go_num,by omega,HM.out,trivial⟩
    case measure=>simp[intOf];omega
   ·have n8:((y.toNat:Int) != 48)=true:=by rw[bne_iff_ne];exact e8
    by_cases e9:(y.toNat:Int)=49
    ·have n9:((y.toNat:Int) != 49)=false:=by rw[e9];rfl
     have HM:Hid (∀ j,j<k+1->bt t j=48∨bt t j=49):=all_more t k HA.out (by rw[<-HY.out];omega)
     clear hy e8 e9
     go_wp2_with fail
     go_roundw
     case rel=>exact⟨k+1,by go_num,by omega,HM.out,trivial⟩
     case measure=>simp[intOf];omega
    ·have n9:((y.toNat:Int) != 49)=true:=by rw[bne_iff_ne];exact e9
     have HN:=hideB (good_not hlt (by rw[<-HY.out];omega) (by rw[<-HY.out];omega))
     clear hy e8 e9
     go_wp2_with fail
     go_ret
     exact⟨ret_boolB HN.out.symm,rfl⟩
  ·have HG:=hideB (good_of (t:=t) (fun j hj=>HA.out j (by omega)))
   go_wp2_with fail
   go_ret
   exact⟨ret_boolB HG.out.symm,rfl⟩
theorem pack_yes (t:ByteArray) (w:World) (ht:¬8000<t.size) (hg:good t=true) :
  Calls Tryz.prog 99 #[.string t] w fun e w'=>e=.returned (.string (packV t))/\Below w.heap.size w w':=by
 obtain⟨i0,hi,hz0,hz1,hz2⟩:=info_parts Nu.Tryz.infoJ5
 obtain⟨m,hm⟩:∃ m,m=(t.size+7)/8:=⟨_,rfl⟩
 have hmi:((t.size:Int)+8-1)/8=(m:Int):=by omega
 have HMM:=hideB hm
 have HMI:=hideB hmi
 have hd8:decide (8000<(t.size:Int))=false:=decide_eq_false (by omega)
 clear hmi
 have HG:=hideB (good_impl t w (by omega))
 rw[hg]at HG
 have HA:=hideB (good_yes hg)
 clear hm hg
 have hm2:m<=1001:=by have:=HMM.out;omega
 go_enter Tryz.func99,Tryz.ntmps99
 go_wp2_with fail
 refine HG.out.mono ?_
 rintro e w' ⟨rfl,hw⟩
 subst w'
 go_wp2_with (at_make;refine wpList_make_full _ rfl (.tmp 17) (.tmp 17) 87 rfl w.heap.size 5 i0 (.int .u8 0) 1 Tryz.underlying87 hi hz0 hz1 .i64 .i64 _ _ m rfl rfl HMI.out HMI.out (by rw[hz2];omega) (by unfold maxLen;omega) (Nat.le_refl _) ?_;intro w1 hown1 hgrow1;have HR:=hideB (made_row hown1);have HB:=hideB ((Below.refl w.heap.size w).grown hgrow1 (Nat.le_refl _) (by simp));clear hown1 hgrow1)
 go_loopw [21] (fun i wr=>∃ k:Nat,i=.int .i64 k/\k<=t.size/\IsB wr w.heap.size 5 .u8 m (fun j=>(pkK t k j:Nat))/\Below w.heap.size w wr) (fun i _=>t.size-(intOf i).toNat)
 case atStart=>exact⟨0,rfl,by omega,IsB.congr HR.out (fun j hj=>by rw[pkK_zero];rfl),HB.out⟩
 case round =>
  obtain⟨k,rfl,hk,hr,hbel⟩:=hrel
  have HR2:=hideB hr
  by_cases hlt:k<t.size
  ·obtain⟨y,b0,hy⟩:=byte_at t k hlt
   have h01:=HA.out k hlt
   rw[<-hy]at h01
   have HY:=hideB hy
   clear hy
   by_cases e9:(y.toNat:Int)=49
   ·have n9:((y.toNat:Int)==49)=true:=by rw[e9];rfl
    have HO:Hid (one t k=1):=by
     unfold Hid one
     rw[if_pos ⟨hlt,by rw[<-HY.out];omega⟩]
    obtain⟨q,hq⟩:∃ q:Nat,q=k/8:=⟨_,rfl⟩
    obtain⟨r,hrr⟩:∃ r:Nat,r=k%8:=⟨_,rfl⟩
    have hqi:(k:Int)/8=q:=by omega
    have hri:(k:Int)%8=r:=by omega
    have hqm:q<m:=by have:=HMM.out;omega
    have hr8:r<8:=by omega
    have ce:=hr.cell (j:=q) hqm
    have cf:=hr.frozen q
    obtain⟨s,hs⟩:∃ s:Nat,s=7-r:=⟨_,rfl⟩
    have hsi:(7:Int)-r=s:=by omega
    have HV:Hid (bits BinOp.or IntKind.u8 ((pkK t k q:Nat):Int) ((2:Int) ^ s)=((pk t (k/8) (k%8)+2 ^ (7-k%8):Nat):Int)):=by
     unfold Hid
     rw[hq,pkK_here,<-hrr,<-hs]
     have:=pk_or t (k/8) r hr8
     rw[<-hs]at this
     rw[<-this]
     simp
    have hpw:(2:Int) ^ s<256:=by
     have:=Nat.pow_le_pow_right (n:=2) (by decide) (show s<=7 by omega)
     have hcast:((2 ^ s:Nat):Int)=(2:Int) ^ s:=by simp
     omega
    have hpw0:(0:Int)<(2:Int) ^ s:=by
     have:=Nat.pow_pos (n:=s) (a:=2) (by decide)
     have hcast:((2 ^ s:Nat):Int)=(2:Int) ^ s:=by simp
     omega
    have HQ:=hideB hq
    clear hr e9 h01 hq hrr hs
    generalize pkK t k q=pv at ce HV
    go_wp2_with fail
    go_region
    all_goals (try go_wp2_with fail)
    all_goals go_roundw
    case rel=>exact⟨k+1,by go_num,by omega,IsB.congr (HR2.out.set q _) (fun j hj=>by rw[HQ.out];exact pkK_set t k j _ HO.out HV.out),Below.drew (hbel.setCell (Nat.le_refl _) _)⟩
    case measure=>simp[intOf];omega
   ·have n9:((y.toNat:Int)==49)=false:=by rw[beq_eq_false_iff_ne];exact e9
    have HO:Hid (one t k=0):=by
     unfold Hid one
     rw[if_neg (by rw[<-HY.out];omega)]
    clear hr e9 h01
    go_wp2_with fail
    go_roundw
    case rel=>exact⟨k+1,by go_num,by omega,IsB.congr HR2.out (fun j hj=>pkK_skip t k j HO.out),hbel⟩
    case measure=>simp[intOf];omega
  ·obtain rfl:k=t.size:=by omega
   have hcv:=hr.str (P:=Tryz.prog) (src:=87) (dst:=9) m m (Nat.le_refl _) (fun j _=>pkK_lt t t.size j) Tryz.underlying87 Tryz.underlying5 Tryz.underlying9
   rw[HMM.out,pack_all,<-HMM.out]at hcv
   clear hr
   go_wp2_with fail
   go_ret
   exact⟨rfl,hbel⟩
theorem pack_impl (t:ByteArray) (w:World) (ht:t.size<=1048576) :
  Calls Tryz.prog 99 #[.string t] w fun e w'=>e=.returned (.string (packR t))/\Below w.heap.size w w':=by
 by_cases h:8000<t.size
 ·have HE:=hideB (packR_no t (Or.inl h))
  go_enter Tryz.func99,Tryz.ntmps99
  go_wp2_with fail
  go_ret
  exact⟨ret_strJ HE.out.symm,Below.refl _ _⟩
 ·cases hg:good t with
  |false =>
   have HE:=hideB (packR_no t (Or.inr hg))
   have HG:=hideB (good_impl t w (by omega))
   rw[hg]at HG
   go_enter Tryz.func99,Tryz.ntmps99
   go_wp2_with fail
   refine HG.out.mono ?_
   rintro e w' ⟨rfl,hw⟩
   subst w'
   go_wp2_with fail
   go_ret
   exact⟨ret_strJ HE.out.symm,Below.refl _ _⟩
  |true =>
   rw[packR_yes t h hg]
   exact pack_yes t w h hg
end Go.Proofs.YtkgjfdanjmnmbaaGreatDoor.Bi


namespace Go.Proofs.YtkgjfdanjmnmbaaGreatDoor.Bi
open Go.RowKit Go.Maps
open Go.WideMaps (keyOf_string_mk string_of_keyOf)
open In (Ints IsI OwnIn made_ints)
open Nu (ret_strJ)
theorem Tryz.infoG2:(Tryz.prog.info? 2).map (fun i=>(i.zero,i.size,i.bytes))=some (some (.int .i64 0),1,8):=by kernel_rfl
def fill (xs:List Int) (m:Nat):List Int:=xs++List.replicate (m-xs.length) 0
theorem fill_length (xs:List Int) (m:Nat) (h:xs.length<=m):(fill xs m).length=m:=by simp[fill];omega
theorem fill_next (xs:List Int) (m:Nat) (x:Int) (h:xs.length<m):(fill xs m).set xs.length x=fill (xs++[x]) m:=by
 unfold fill
 rw[List.set_append,if_neg (by omega),Nat.sub_self,List.length_append]
 obtain⟨d,hd⟩:∃ d,m-xs.length=d+1:=⟨m-xs.length-1,by omega⟩
 rw[hd,show m-(xs.length + [x].length)=d by simp;omega,List.replicate_succ,List.set_cons_zero]
 simp
theorem fill_all (xs:List Int) (m:Nat) (h:xs.length=m):fill xs m=xs:=by simp[fill,h]
theorem fill_none (m:Nat):fill [] m=List.replicate m 0:=by simp[fill]
def Out0 (w:World) (g:Nat):Prop:=w.heap[g]? = some (.cells #[.slice none 0 0,.int .i64 0,.int .i64 0] 122 (0,0))
theorem Out0.c0 {w:World} {g:Nat} (h:Out0 w g):w.cell? ⟨g,0,none⟩=some (.slice none 0 0):=(cell_of_row w g 0 _ _ _ h).trans rfl
theorem Out0.c1 {w:World} {g:Nat} (h:Out0 w g):w.cell? ⟨g,1,none⟩=some (.int .i64 0):=(cell_of_row w g 1 _ _ _ h).trans rfl
theorem Out0.c2 {w:World} {g:Nat} (h:Out0 w g):w.cell? ⟨g,2,none⟩=some (.int .i64 0):=(cell_of_row w g 2 _ _ _ h).trans rfl
theorem Out0.fr {w:World} {g:Nat} (h:Out0 w g) (j:Nat):w.frozen? ⟨g,j,none⟩=false:=frozen_of_row w g j _ _ h
theorem Out0.lt {w:World} {g:Nat} (h:Out0 w g):g<w.heap.size:=(Array.getElem?_eq_some_iff.1 h).1
theorem Out0.below {w w':World} {g B:Nat} (h:Out0 w g) (b:Below B w w') (hg:g<B):Out0 w' g:=by unfold Out0;rw[b.block g hg];exact h
theorem Out0.set {w:World} {g:Nat} (h:Out0 w g) (a:Addr) (v:Value) (ha:g≠a.block):Out0 (w.setCell a v) g:=by unfold Out0;rw[heap_setCell_other w a g v ha];exact h
theorem Out0.new (w:World):Out0 (w.alloc (.cells #[.slice none 0 0,.int .i64 0,.int .i64 0] 122)) w.heap.size:=heap_alloc_last w _
theorem get_yes (l:List Int) (t:ByteArray) (m:Nat) (a:Option Addr) (cap:Nat) (w:World) (hl:Ints w w.heap.size a l) (h4:¬400<l.length) (h8:¬8000<t.size) (hw:whole l=true) (hg:good t=true) (hm:m<=400) :
  Calls Tryz.prog 131 #[.slice a l.length cap,.string t,.int .i64 m] w fun e w'=>∃ v,e=.returned (.agg #[v,.int .i64 (outS (st l t m)).2.1,.int .i64 (outS (st l t m)).2.2])/\OwnIn w' w.heap.size w'.heap.size v (outS (st l t m)).1/\Below w.heap.size w w':=by
 obtain⟨i0,hi0,hz0,hz1,hz2⟩:=info_parts Tryz.infoG2
 have hd4:decide (400<(l.length:Int))=false:=decide_eq_false (by omega)
 have hd8:decide (8000<(t.size:Int))=false:=decide_eq_false (by omega)
 have hdm:decide ((m:Int)<0)=false:=decide_eq_false (by omega)
 have hdm4:decide ((400:Int)<m)=false:=decide_eq_false (by omega)
 obtain⟨W0,hW0⟩:∃ W0,W0=w.alloc (.cells #[.slice none 0 0,.int .i64 0,.int .i64 0] 122):=⟨_,rfl⟩
 have z0:W0.heap.size=w.heap.size+1:=by rw[hW0];simp
 have B0:=hideB (show Below w.heap.size w W0 by rw[hW0];exact(Below.refl _ _).alloc (Nat.le_refl _) _)
 have O0:=hideB (show Out0 W0 w.heap.size by rw[hW0];exact Out0.new w)
 have hl0:=(hl.below B0.out).mono B0.out.size
 have HWH:=hideB (whole_impl l a cap W0.heap.size W0 hl0 (by omega))
 rw[hw]at HWH
 have HGO:=hideB (good_impl t W0 (by omega))
 rw[hg]at HGO
 have HSY:=hideB (symbols_any l a cap W0 hl0 (whole_right hw))
 have HR:=hideB (whole_right hw)
 clear hl hl0 hw hg h4
 obtain⟨n,hln⟩:∃ n,n=l.length:=⟨_,rfl⟩
 have HLN:=hideB hln
 rw[<-hln]at hd4 HWH HSY ⊢
 clear hln
 go_enter Tryz.func131,Tryz.ntmps131
 go_wp2_with fail
 rw[<-hW0]
 have HW0:=hideB hW0
 clear hW0
 refine HWH.out.mono ?_
 rintro e w' ⟨rfl,hw'⟩
 subst w'
 go_wp2_with fail
 refine HGO.out.mono ?_
 rintro e w' ⟨rfl,hw'⟩
 subst w'
 go_wp2_with fail
 refine HSY.out.mono ?_
 rintro e w1 ⟨D,rfl,hown1,hcm,hb1⟩
 have M1:=hideB hown1
 have HCM:=hideB hcm
 have B1:=hideB (B0.out.trans (hb1.mono (by omega)))
 have O1:=hideB (O0.out.below hb1 (by omega))
 have z1:W0.heap.size<w1.heap.size:=hown1.lt
 clear hown1 hcm hb1 HWH HGO HSY
 obtain⟨b,hb⟩:∃ b,b=W0.heap.size:=⟨_,rfl⟩
 rw[<-hb]at z0 z1 M1 ⊢
 have zb:w.heap.size<b:=by omega
 clear z0
 clear hb HW0 O0 B0
 go_wp2_with (at_make;refine wpList_make_full _ rfl (.tmp 40) (.tmp 40) 114 rfl w1.heap.size 2 i0 (.int .i64 0) 1 Tryz.underlying114 hi0 hz0 hz1 .i64 .i64 _ _ m rfl rfl (by simp) (by simp) (by rw[hz2];omega) (by unfold maxLen;omega) (Nat.le_refl _) ?_;intro w2 hown2 hgrow2;have R2:=hideB (made_ints hown2);have b2:=(Below.refl w1.heap.size w1).grown hgrow2 (Nat.le_refl _) (by simp);have B2:=hideB (B1.out.trans (b2.mono B1.out.size));have O2:=hideB (O1.out.below b2 (by omega));have M2:=hideB (M1.out.kept hgrow2 (by simp));clear hown2 hgrow2 b2)
 go_loopw [43,9] (fun i at_ wr=>∃ (k p:Nat) (xs:List Int),i=.int .i64 k/\at_=.int .i64 p/\k<=m/\st l t k=.inr (xs,p)/\wr.ownsMap Tryz.prog 9 (plainElem Tryz.prog 2) b n D/\IsI wr w1.heap.size 2 (fill xs m)/\Out0 wr w.heap.size/\Below w.heap.size w wr) (fun i _ _=>m-(intOf i).toNat)
 case atStart=>exact⟨0,0,[],rfl,rfl,Nat.zero_le _,rfl,M2.out,by rw[fill_none];exact R2.out,O2.out,B2.out⟩
 case round =>
  obtain⟨k,p,xs,rfl,rfl,hk,hst,hown,hi,ho,hbel⟩:=hrel
  have HST:=hideB hst
  have M3:=hideB hown
  have I3:=hideB hi
  have O3:=hideB ho
  have B3:=hideB hbel
  obtain⟨hps,hxl⟩:=st_facts k p xs hst
  have HXL:=hideB hxl
  clear hst hown hi ho hbel hxl
  by_cases hlt:k<m
  ·have hpi:(p:Int)<=t.size:=by omega
   have HFI:=hideB (first_any l (rst t p) b n D wr M3.out (by rw[<-HLN.out];exact HCM.out) HR.out (by rw[rst_size];omega))
   have HRE:Hid (rst t p=t.extract p t.size):=rfl
   cases hs:sym l (rst t p) with
   |none =>
    have HT:Hid (symT l (rst t p)=⟨#[]⟩):=by
     unfold Hid symT
     rw[hs]
    rw[HT.out,HRE.out]at HFI
    have HB:=hideB (st_bad HST.out hs)
    have HE:Hid (outS (st l t m)=([],0,why l (rst t p))):=by
     have h1:=st_stay HB.out (m-(k+1))
     rw[show k+1+(m-(k+1))=m by omega]at h1
     unfold Hid
     rw[h1]
     rfl
    have HWY:=hideB (why_any l (rst t p) b n b D wr M3.out (by rw[<-HLN.out];exact HCM.out) (Nat.le_refl _) (Nat.le_of_lt M3.out.lt))
    rw[HRE.out]at HWY HE
    generalize why l (t.extract p t.size)=wy at HWY HE
    clear hs
    go_wp2_with fail
    refine HFI.out.mono ?_
    rintro e w' ⟨rfl,hw'⟩
    subst w'
    go_wp2_with fail
    refine HWY.out.mono ?_
    rintro e w4 ⟨rfl,hb4⟩
    have O4:=hideB (O3.out.below hb4 (by omega))
    have B4:=hideB (B3.out.trans (hb4.mono (by omega)))
    have c0:=O4.out.c0
    have c1:=O4.out.c1
    have c2:=O4.out.c2
    have f0:=O4.out.fr 0
    have f1:=O4.out.fr 1
    have f2:=O4.out.fr 2
    clear hb4
    go_wp2_with fail
    refine bodyPost_ret (v:=.agg #[.slice none 0 0,.int .i64 0,.int .i64 wy]) (by simp[results,Tryz.results131,go_sem,c0,c1,c2]) rfl ⟨.slice none 0 0,?_,?_,?_⟩
    ·rw[HE.out]
    ·rw[HE.out]
     exact .inl ⟨rfl,rfl⟩
    ·exact((B4.out.setCell (Nat.le_refl _) _).setCell (Nat.le_refl _) _).setCell (Nat.le_refl _) _
   |some i =>
    have HT:Hid (symT l (rst t p)=codeOf l i):=by
     unfold Hid symT
     rw[hs]
    have hmt:=sym_mt hs
    have HSM:=hideB (st_more HST.out hs)
    have HCO:=hideB (codeOf_size l i)
    have hcl:=codeOf_le l (within_yes (right_yes HR.out).1).2 i
    have HAT:=hideB (HCM.out.2 i (by rw[HLN.out];exact hmt.1) hmt.1 hmt.2.1)
    have hw1:1<=wd l i:=by have:=hmt.2.1;unfold wd;omega
    rw[show (l.getD i 0).toNat=wd l i from rfl]at HCO
    rw[<-HCO.out]at HSM hw1
    rw[HT.out,HRE.out]at HFI
    obtain⟨c,hc⟩:∃ c,c=codeOf l i:=⟨_,rfl⟩
    rw[<-hc]at HFI HSM hw1 hcl HAT
    have hne:c.toList.isEmpty=false:=nonempty c hw1
    have hkey:keyOf Tryz.prog 9 (.string c)=some (kl c):=keyOf_string_mk Tryz.underlying9 (by unfold maxLen;omega)
    have hkf:k<(fill xs m).length:=by rw[fill_length xs m (by have:=HXL.out;omega)];exact hlt
    have cf:=I3.out.frozen k
    obtain⟨v0,ce⟩:∃ v0,wr.cell? ⟨w1.heap.size,k,none⟩=some (.int .i64 v0):=⟨_,I3.out.cell hkf⟩
    have HFN:Hid ((fill xs m).set k (i:Int)=fill (xs++[(i:Int)]) m):=by
     have h1:=HXL.out
     unfold Hid
     rw[<-h1]
     exact fill_next xs m i (by omega)
    have hown:=M3.out
    clear hs hmt hc hkf HT
    go_wp2_with fail
    refine HFI.out.mono ?_
    rintro e w' ⟨rfl,hw'⟩
    subst w'
    go_wp2_with (first|(at_lookup;refine wpList_lookup_own_int _ rfl _ _ 210 rfl 9 2 .i64 lawS Tryz.underlying210 Tryz.underlying2 (zeroI _) b n D rfl hown _ _ rfl hkey ?_;intro c' hat hwc;have hci:c'=(i:Int):=(by rw[HAT.out]at hat;simpa using hat.symm);subst hci;clear hat hwc))
    go_wp2_with fail
    go_roundw
    case rel=>exact⟨k+1,p+c.size,xs++[(i:Int)],by go_num,by go_num,by omega,HSM.out,M3.out.setCell (a:=⟨w1.heap.size,k,none⟩) (by simp;omega) _,by rw[<-HFN.out];exact I3.out.set k _,O3.out.set _ _ (by simp;omega),B3.out.setCell (p:=⟨w1.heap.size,k,none⟩) (by simp;omega) _⟩
    case measure=>simp[intOf];omega
  ·obtain rfl:k=m:=by omega
   have HE:Hid (outS (st l t k)=(xs,(p:Int),0)):=by
    unfold Hid
    rw[HST.out]
    rfl
   have HI:Hid (IsI wr w1.heap.size 2 xs):=by
    have:=I3.out
    rw[fill_all xs k HXL.out]at this
    exact this
   have c0:=O3.out.c0
   have c1:=O3.out.c1
   have c2:=O3.out.c2
   have f0:=O3.out.fr 0
   have f1:=O3.out.fr 1
   have f2:=O3.out.fr 2
   have HXK:Hid (k=xs.length):=HXL.out.symm
   go_wp2_with fail
   refine bodyPost_ret (v:=.agg #[.slice (some ⟨w1.heap.size,0,none⟩) k k,.int .i64 p,.int .i64 0]) (by simp[results,Tryz.results131,go_sem,c0,c1,c2]) rfl ⟨.slice (some ⟨w1.heap.size,0,none⟩) k k,?_,?_,?_⟩
   ·rw[HE.out]
   ·rw[HE.out]
    refine .inr ⟨w1.heap.size,k,by rw[<-HXK.out],by omega,?_,?_⟩
    ·have:=HI.out.lt
     simpa [World.setCell] using this
    ·exact(((HI.out.set_other ⟨w.heap.size,0,none⟩ _ (by simp;omega)).set_other ⟨w.heap.size,1,none⟩ _ (by simp;omega)).set_other ⟨w.heap.size,2,none⟩ _ (by simp;omega)).own
   ·exact((B3.out.setCell (Nat.le_refl _) _).setCell (Nat.le_refl _) _).setCell (Nat.le_refl _) _
end Go.Proofs.YtkgjfdanjmnmbaaGreatDoor.Bi


namespace Go.Proofs.YtkgjfdanjmnmbaaGreatDoor.Bi
open Go.RowKit Go.Maps
open In (Ints IsI OwnIn)
open St (IsS Strs)
theorem nil_in (w:World) (lo hi:Nat):OwnIn w lo hi (.slice none 0 0) []:=.inl ⟨rfl,rfl⟩
theorem get_impl (l:List Int) (t:ByteArray) (m:Int) (a:Option Addr) (cap:Nat) (w:World) (hl:Ints w w.heap.size a l) (hn:l.length<=1048576) (ht:t.size<=1048576) :
  Calls Tryz.prog 131 #[.slice a l.length cap,.string t,.int .i64 m] w fun e w'=>∃ v,e=.returned (.agg #[v,.int .i64 (getR l t m).2.1,.int .i64 (getR l t m).2.2])/\OwnIn w' w.heap.size w'.heap.size v (getR l t m).1/\Below w.heap.size w w':=by
 by_cases h4:400<l.length
 ·rw[getR_size (Or.inl h4)]
  clear hl
  generalize l.length=n at hn h4 ⊢
  go_enter Tryz.func131,Tryz.ntmps131
  go_wp2_with fail
  refine bodyPost_ret (v:=.agg #[.slice none 0 0,.int .i64 0,.int .i64 2]) (by simp[results,Tryz.results131,go_sem]) rfl ⟨.slice none 0 0,rfl,nil_in _ _ _,(Below.refl _ _).alloc (Nat.le_refl _) _⟩
 ·have hd4:decide (400<(l.length:Int))=false:=decide_eq_false (by omega)
  by_cases h8:8000<t.size
  ·rw[getR_size (Or.inr h8)]
   clear hl
   generalize l.length=n at hn h4 hd4 ⊢
   go_enter Tryz.func131,Tryz.ntmps131
   go_wp2_with fail
   refine bodyPost_ret (v:=.agg #[.slice none 0 0,.int .i64 0,.int .i64 2]) (by simp[results,Tryz.results131,go_sem]) rfl ⟨.slice none 0 0,rfl,nil_in _ _ _,(Below.refl _ _).alloc (Nat.le_refl _) _⟩
  ·have hd8:decide (8000<(t.size:Int))=false:=decide_eq_false (by omega)
   have hno:¬(400<l.length∨8000<t.size):=by omega
   have hl0:=(hl.below ((Below.refl w.heap.size w).alloc (Nat.le_refl _) (.cells #[.slice none 0 0,.int .i64 0,.int .i64 0] 122))).mono (by simp:w.heap.size<=(w.alloc (.cells #[.slice none 0 0,.int .i64 0,.int .i64 0] 122)).heap.size)
   have HWH:=hideB (whole_impl l a cap _ _ hl0 hn)
   have HGO:=hideB (good_impl t (w.alloc (.cells #[.slice none 0 0,.int .i64 0,.int .i64 0] 122)) ht)
   clear hl0
   cases hw:whole l with
   |false =>
    rw[getR_form hno (Or.inl hw)]
    rw[hw]at HWH
    clear hl hno
    generalize l.length=n at hn h4 hd4 HWH ⊢
    go_enter Tryz.func131,Tryz.ntmps131
    go_wp2_with fail
    refine HWH.out.mono ?_
    rintro e w' ⟨rfl,hw'⟩
    subst w'
    go_wp2_with fail
    refine bodyPost_ret (v:=.agg #[.slice none 0 0,.int .i64 0,.int .i64 1]) (by simp[results,Tryz.results131,go_sem]) rfl ⟨.slice none 0 0,rfl,nil_in _ _ _,(Below.refl _ _).alloc (Nat.le_refl _) _⟩
   |true =>
    cases hg:good t with
    |false =>
     rw[getR_form hno (Or.inr (Or.inl hg))]
     rw[hw]at HWH
     rw[hg]at HGO
     clear hl hno hw
     generalize l.length=n at hn h4 hd4 HWH ⊢
     go_enter Tryz.func131,Tryz.ntmps131
     go_wp2_with fail
     refine HWH.out.mono ?_
     rintro e w' ⟨rfl,hw'⟩
     subst w'
     go_wp2_with fail
     refine HGO.out.mono ?_
     rintro e w' ⟨rfl,hw'⟩
     subst w'
     go_wp2_with fail
     refine bodyPost_ret (v:=.agg #[.slice none 0 0,.int .i64 0,.int .i64 1]) (by simp[results,Tryz.results131,go_sem]) rfl ⟨.slice none 0 0,rfl,nil_in _ _ _,(Below.refl _ _).alloc (Nat.le_refl _) _⟩
    |true =>
     by_cases hm:m<0
     ·rw[getR_form hno (Or.inr (Or.inr (Or.inl hm)))]
      rw[hw]at HWH
      rw[hg]at HGO
      clear hl hno hw hg
      generalize l.length=n at hn h4 hd4 HWH ⊢
      go_enter Tryz.func131,Tryz.ntmps131
      go_wp2_with fail
      refine HWH.out.mono ?_
      rintro e w' ⟨rfl,hw'⟩
      subst w'
      go_wp2_with fail
      refine HGO.out.mono ?_
      rintro e w' ⟨rfl,hw'⟩
      subst w'
      go_wp2_with fail
      refine bodyPost_ret (v:=.agg #[.slice none 0 0,.int .i64 0,.int .i64 1]) (by simp[results,Tryz.results131,go_sem]) rfl ⟨.slice none 0 0,rfl,nil_in _ _ _,(Below.refl _ _).alloc (Nat.le_refl _) _⟩
     ·by_cases hm4:400<m
      ·rw[getR_form hno (Or.inr (Or.inr (Or.inr hm4)))]
       have hdm:decide (m<0)=false:=decide_eq_false hm
       rw[hw]at HWH
       rw[hg]at HGO
       clear hl hno hw hg
       generalize l.length=n at hn h4 hd4 HWH ⊢
       go_enter Tryz.func131,Tryz.ntmps131
       go_wp2_with fail
       refine HWH.out.mono ?_
       rintro e w' ⟨rfl,hw'⟩
       subst w'
       go_wp2_with fail
       refine HGO.out.mono ?_
       rintro e w' ⟨rfl,hw'⟩
       subst w'
       go_wp2_with fail
       refine bodyPost_ret (v:=.agg #[.slice none 0 0,.int .i64 0,.int .i64 1]) (by simp[results,Tryz.results131,go_sem]) rfl ⟨.slice none 0 0,rfl,nil_in _ _ _,(Below.refl _ _).alloc (Nat.le_refl _) _⟩
      ·obtain⟨k,rfl⟩:∃ k:Nat,m=k:=⟨m.toNat,by omega⟩
       rw[getR_in hno hw hg (by omega)]
       exact get_yes l t k a cap w hl h4 h8 hw hg (by omega)
end Go.Proofs.YtkgjfdanjmnmbaaGreatDoor.Bi


namespace Go.Proofs.YtkgjfdanjmnmbaaGreatDoor.Bi
open Go.RowKit
open Sh
open Nu (ret_strJ)
theorem open_yes (t:ByteArray) (m:Nat) (w:World) (ht:¬8000<t.size) (hm:m<=8*t.size) :
  Calls Tryz.prog 130 #[.string t,.int .i64 m] w fun e w'=>e=.returned (.string (openV t m))/\Below w.heap.size w w':=by
 obtain⟨i0,hi,hz0,hz1,hz2⟩:=info_parts Nu.Tryz.infoJ5
 have hd8:decide (8000<(t.size:Int))=false:=decide_eq_false (by omega)
 have hd0:decide ((m:Int)<0)=false:=decide_eq_false (by omega)
 have hd1:decide (8*(t.size:Int)<m)=false:=decide_eq_false (by omega)
 go_enter Tryz.func130,Tryz.ntmps130
 go_wp2_with (at_make;refine wpList_make_full _ rfl (.tmp 21) (.tmp 21) 87 rfl w.heap.size 5 i0 (.int .u8 0) 1 Tryz.underlying87 hi hz0 hz1 .i64 .i64 _ _ m rfl rfl (by simp) (by simp) (by rw[hz2];omega) (by unfold maxLen;omega) (Nat.le_refl _) ?_;intro w1 hown1 hgrow1;have HR:=hideB (made_row hown1);have HB:=hideB ((Below.refl w.heap.size w).grown hgrow1 (Nat.le_refl _) (by simp));clear hown1 hgrow1)
 go_loopw [24] (fun i wr=>∃ k:Nat,i=.int .i64 k/\k<=m/\IsB wr w.heap.size 5 .u8 m (fun j=>(opK t k j:Nat))/\Below w.heap.size w wr) (fun i _=>m-(intOf i).toNat)
 case atStart=>exact⟨0,rfl,by omega,IsB.congr HR.out (fun j hj=>by rw[opK_zero];rfl),HB.out⟩
 case round =>
  obtain⟨k,rfl,hk,hr,hbel⟩:=hrel
  have HR2:=hideB hr
  by_cases hlt:k<m
  ·obtain⟨q,hq⟩:∃ q:Nat,q=k/8:=⟨_,rfl⟩
   have hqi:(k:Int)/8=q:=by omega
   have hqt:q<t.size:=by omega
   obtain⟨y,b0,hy⟩:=byte_at t q hqt
   obtain⟨s,hs⟩:∃ s:Nat,s=7-k%8:=⟨_,rfl⟩
   have hsi:(7:Int)-(k:Int)%8=s:=by omega
   have ce:=hr.cell (j:=k) (by omega)
   have cf:=hr.frozen k
   have hy2:(y.toNat:Int)<256:=by have:=y.toNat_lt;omega
   have HO:=hideB (bitOf_any y.toNat s wr (by omega))
   have HV:Hid (((bitB y.toNat s:Nat):Int)=((bitB (bt t (k/8)) (7-k%8):Nat):Int)):=by
    unfold Hid
    rw[hy,hs,hq]
   clear hr hy hs hq
   go_wp2_with fail
   refine HO.out.mono ?_
   rintro e w' ⟨rfl,hw⟩
   subst w'
   go_wp2_with fail
   go_roundw
   case rel =>
    exact⟨k+1,by go_num,by omega,IsB.congr (HR2.out.set k _) (fun j hj=>opK_next t k j _ HV.out),hbel.setCell (Nat.le_refl _) _⟩
   case measure=>simp[intOf];omega
  ·obtain rfl:k=m:=by omega
   have hcv:=hr.str (P:=Tryz.prog) (src:=87) (dst:=9) k k (Nat.le_refl _) (fun j _=>opK_lt t k j) Tryz.underlying87 Tryz.underlying5 Tryz.underlying9
   rw[opK_all]at hcv
   clear hr
   go_wp2_with fail
   go_ret
   exact⟨rfl,hbel⟩
theorem open_impl (t:ByteArray) (m:Int) (w:World) (ht:t.size<=1048576) :
  Calls Tryz.prog 130 #[.string t,.int .i64 m] w fun e w'=>e=.returned (.string (openR t m))/\Below w.heap.size w w':=by
 by_cases h:8000<t.size
 ·have HE:=hideB (openR_no t m (Or.inl h))
  go_enter Tryz.func130,Tryz.ntmps130
  go_wp2_with fail
  go_ret
  exact⟨ret_strJ HE.out.symm,Below.refl _ _⟩
 ·have hd8:decide (8000<(t.size:Int))=false:=decide_eq_false (by omega)
  by_cases h0:m<0
  ·have HE:=hideB (openR_no t m (Or.inr (Or.inl h0)))
   go_enter Tryz.func130,Tryz.ntmps130
   go_wp2_with fail
   go_ret
   exact⟨ret_strJ HE.out.symm,Below.refl _ _⟩
  ·by_cases h1:8*(t.size:Int)<m
   ·have HE:=hideB (openR_no t m (Or.inr (Or.inr h1)))
    have hd0:decide (m<0)=false:=decide_eq_false (by omega)
    go_enter Tryz.func130,Tryz.ntmps130
    go_wp2_with fail
    go_ret
    exact⟨ret_strJ HE.out.symm,Below.refl _ _⟩
   ·obtain⟨k,rfl⟩:∃ k:Nat,m=k:=⟨m.toNat,by omega⟩
    rw[openR_yes t k h (by omega)]
    exact open_yes t k w h (by omega)
theorem lit8 (W:World) (t:TypeId) (r:Nat) (h:r<8):∃ p:Int,(W.alloc (Obj.cells #[Value.int IntKind.i64 128,Value.int IntKind.i64 64,Value.int IntKind.i64 32,Value.int IntKind.i64 16,Value.int IntKind.i64 8,Value.int IntKind.i64 4,Value.int IntKind.i64 2,Value.int IntKind.i64 1] t)).cell? ⟨W.heap.size,r,none⟩=some (.int .i64 p)/\p=(2:Int) ^ (7-r)/\0<p/\p<=128:=by
 have h8:r=0∨r=1∨r=2∨r=3∨r=4∨r=5∨r=6∨r=7:=by omega
 rcases h8 with rfl|rfl|rfl|rfl|rfl|rfl|rfl|rfl
 ·exact⟨128,(cell_of_row _ _ 0 _ t (0,0) (heap_alloc_last W _)).trans rfl,by decide,by decide⟩
 ·exact⟨64,(cell_of_row _ _ 1 _ t (0,0) (heap_alloc_last W _)).trans rfl,by decide,by decide⟩
 ·exact⟨32,(cell_of_row _ _ 2 _ t (0,0) (heap_alloc_last W _)).trans rfl,by decide,by decide⟩
 ·exact⟨16,(cell_of_row _ _ 3 _ t (0,0) (heap_alloc_last W _)).trans rfl,by decide,by decide⟩
 ·exact⟨8,(cell_of_row _ _ 4 _ t (0,0) (heap_alloc_last W _)).trans rfl,by decide,by decide⟩
 ·exact⟨4,(cell_of_row _ _ 5 _ t (0,0) (heap_alloc_last W _)).trans rfl,by decide,by decide⟩
 ·exact⟨2,(cell_of_row _ _ 6 _ t (0,0) (heap_alloc_last W _)).trans rfl,by decide,by decide⟩
 ·exact⟨1,(cell_of_row _ _ 7 _ t (0,0) (heap_alloc_last W _)).trans rfl,by decide,by decide⟩
theorem quo_pow (y s:Nat) (v:Int) (hv:v=(2:Int) ^ s):(48+(y:Int)/v%2)%256=((bitB y s:Nat):Int):=by
 subst hv
 rw[div_cast]
 unfold bitB
 omega
theorem openS_yes (t:ByteArray) (m:Nat) (w:World) (ht:¬8000<t.size) (hm:m<=8*t.size) :
  Calls Tryz.prog 77 #[.string t,.int .i64 m] w fun e w'=>e=.returned (.string (openV t m))/\Below w.heap.size w w':=by
 obtain⟨i0,hi,hz0,hz1,hz2⟩:=info_parts Nu.Tryz.infoJ5
 have hd8:decide (8000<(t.size:Int))=false:=decide_eq_false (by omega)
 have HI:=hideB (is_yes m 0 (8*(t.size:Int)) w (by omega) (by omega))
 go_enter Tryz.func77,Tryz.ntmps77
 go_wp2_with fail
 refine HI.out.mono ?_
 rintro e w' ⟨rfl,hw⟩
 subst w'
 go_wp2_with (at_make;refine wpList_make_full _ rfl (.tmp 19) (.tmp 19) 87 rfl w.heap.size 5 i0 (.int .u8 0) 1 Tryz.underlying87 hi hz0 hz1 .i64 .i64 _ _ m rfl rfl (by simp) (by simp) (by rw[hz2];omega) (by unfold maxLen;omega) (Nat.le_refl _) ?_;intro w1 hown1 hgrow1;have HR:=hideB (made_row hown1);have HB:=hideB ((Below.refl w.heap.size w).grown hgrow1 (Nat.le_refl _) (by simp));clear hown1 hgrow1)
 go_loopw [6] (fun i wr=>∃ k:Nat,i=.int .i64 k/\k<=m/\IsB wr w.heap.size 5 .u8 m (fun j=>(opK t k j:Nat))/\Below w.heap.size w wr) (fun i _=>m-(intOf i).toNat)
 case atStart=>exact⟨0,rfl,by omega,IsB.congr HR.out (fun j hj=>by rw[opK_zero];rfl),HB.out⟩
 case round =>
  obtain⟨k,rfl,hk,hr,hbel⟩:=hrel
  have HR2:=hideB hr
  have GB:=hideB hbel
  have hsz:=hbel.size
  clear hbel
  by_cases hlt:k<m
  ·obtain⟨q,hq⟩:∃ q:Nat,q=k/8:=⟨_,rfl⟩
   have hqi:(k:Int)/8=q:=by omega
   have hqt:q<t.size:=by omega
   obtain⟨y,b0,hy⟩:=byte_at t q hqt
   have HY:=hideB hy
   have HQ:=hideB hq
   have ce:∀ o,(wr.alloc o).cell? ⟨w.heap.size,k,none⟩=some (.int .u8 ((opK t k k:Nat):Int)):=fun o=>(hr.alloc o).cell (by omega)
   have cf:∀ o,(wr.alloc o).frozen? ⟨w.heap.size,k,none⟩=false:=fun o=>(hr.alloc o).frozen k
   clear hr hy hq
   have hy2:(y.toNat:Int)<256:=by have:=y.toNat_lt;omega
   obtain⟨r,hr8⟩:∃ r:Nat,r=k%8:=⟨_,rfl⟩
   have hri:(k:Int)%8=r:=by omega
   have hrl:r<8:=by omega
   obtain⟨p,hp,hp2,hp3⟩:=lit8 wr 2 r hrl
   have HV:Hid ((48+(y.toNat:Int)/p%2)%256=((bitB (bt t (k/8)) (7-k%8):Nat):Int)):=by
    unfold Hid
    rw[quo_pow y.toNat (7-r) p hp2,<-hr8,HY.out,HQ.out]
   have HV2:Hid (48+(y.toNat:Int)/p%2=((bitB (bt t (k/8)) (7-k%8):Nat):Int)):=by
    unfold Hid
    rw[<-HV.out]
    omega
   have hpz:(p==0)=false:=by rw[beq_eq_false_iff_ne];omega
   have hq0:0<=(y.toNat:Int)/p:=Int.ediv_nonneg (by omega) (by omega)
   have hq1:(y.toNat:Int)/p<256:=Int.lt_of_le_of_lt (Int.ediv_le_self _ (by omega)) hy2
   clear hp2 hr8
   go_wp2_with fail
   go_region
   all_goals (try go_wp2_with fail)
   all_goals go_roundw
   case rel=>exact⟨k+1,by go_num,by omega,IsB.congr (IsB.set (IsB.of_heap (w':=World.drew (World.alloc wr _)) (IsB.alloc HR2.out _) rfl) k _) (fun j hj=>opK_next t k j _ (by first|exact HV.out|exact HV2.out)),Below.setCell (Below.drew (GB.out.alloc hsz _)) (Nat.le_refl _) _⟩
   case measure=>simp[intOf];omega
  ·obtain rfl:k=m:=by omega
   have hcv:=hr.str (P:=Tryz.prog) (src:=87) (dst:=9) k k (Nat.le_refl _) (fun j _=>opK_lt t k j) Tryz.underlying87 Tryz.underlying5 Tryz.underlying9
   rw[opK_all]at hcv
   clear hr
   go_wp2_with fail
   go_ret
   exact⟨rfl,GB.out⟩
theorem open_spec (t:ByteArray) (m:Int) (w:World) (ht:t.size<=1048576) :
  Calls Tryz.prog 77 #[.string t,.int .i64 m] w fun e w'=>e=.returned (.string (openR t m))/\Below w.heap.size w w':=by
 by_cases h:8000<t.size
 ·have HE:=hideB (openR_no t m (Or.inl h))
  go_enter Tryz.func77,Tryz.ntmps77
  go_wp2_with fail
  go_ret
  exact⟨ret_strJ HE.out.symm,Below.refl _ _⟩
 ·have hd8:decide (8000<(t.size:Int))=false:=decide_eq_false (by omega)
  by_cases h0:m<0∨8*(t.size:Int)<m
  ·have HE:=hideB (openR_no t m (Or.inr h0))
   have HI:=hideB (is_no m 0 (8*(t.size:Int)) w h0)
   clear h0
   go_enter Tryz.func77,Tryz.ntmps77
   go_wp2_with fail
   refine HI.out.mono ?_
   rintro e w' ⟨rfl,hw⟩
   subst w'
   go_wp2_with fail
   go_ret
   exact⟨ret_strJ HE.out.symm,Below.refl _ _⟩
  ·obtain⟨k,rfl⟩:∃ k:Nat,m=k:=⟨m.toNat,by omega⟩
   rw[openR_yes t k h (by omega)]
   exact openS_yes t k w h (by omega)
end Go.Proofs.YtkgjfdanjmnmbaaGreatDoor.Bi


/- The draws' own base: a source of draws in memory, and the number that it gives: some number below what is asked, and nothing turns but the source itself. -/
namespace Go.Proofs.YtkgjfdanjmnmbaaGreatDoor.Dr
open Go.RowKit
def Row (w:World) (B:Nat) (a:Option Addr) (len:Nat):Prop :=
 len=0∨∃ b off,a=some ⟨b,off,none⟩/\b<B/\∀ i,i<len->∃ z:Int,w.cell? ⟨b,off+i,none⟩=some (.int .u8 z)/\0<=z/\z<=255
def Only (B:Nat) (w w':World):Prop:=w'.os=w.os/\w'.tape=w.tape/\w'.output=w.output/\w'.heap.size=w.heap.size/\∀ k,k≠B->w'.heap[k]? = w.heap[k]?
theorem Only.refl (B:Nat) (w:World):Only B w w:=⟨rfl,rfl,rfl,rfl,fun _ _=>rfl⟩
theorem Only.drew {B:Nat} {w w':World} (h:Only B w w'):Only B w w'.drew:=h
theorem Only.drewN {B:Nat} (w:World) (n:Nat):Only B w (w.drewN n):=⟨rfl,rfl,rfl,rfl,fun _ _=>rfl⟩
theorem Only.set {B:Nat} {w w':World} (h:Only B w w') (o:Nat) (v:Value):Only B w (w'.setCell ⟨B,o,none⟩ v) :=
 ⟨h.1,h.2.1,h.2.2.1,by simpa [World.setCell] using h.2.2.2.1,fun k hk=>(heap_setCell_other w' ⟨B,o,none⟩ k v hk).trans (h.2.2.2.2 k hk)⟩
theorem Only.trans {B:Nat} {a b c:World} (h:Only B a b) (k:Only B b c):Only B a c :=
 ⟨k.1.trans h.1,k.2.1.trans h.2.1,k.2.2.1.trans h.2.2.1,k.2.2.2.1.trans h.2.2.2.1,fun i hi=>(k.2.2.2.2 i hi).trans (h.2.2.2.2 i hi)⟩
theorem Only.below {B C:Nat} {w0 w w':World} (hb:Below C w0 w) (h:Only B w w') (hC:C<=B):Below C w0 w' :=
 hb.trans ⟨h.1,h.2.1,h.2.2.1,by rw[h.2.2.2.1];exact Nat.le_refl _,fun k hk=>h.2.2.2.2 k (by omega)⟩
end Go.Proofs.YtkgjfdanjmnmbaaGreatDoor.Dr


/- The number that a source of draws gives. -/
namespace Go.Proofs.YtkgjfdanjmnmbaaGreatDoor.Dr
open Go.RowKit
end Go.Proofs.YtkgjfdanjmnmbaaGreatDoor.Dr


/- The making of a source of draws: it lies in a new block, and draws from the bytes that it was handed. -/
namespace Go.Proofs.YtkgjfdanjmnmbaaGreatDoor.Dr
open Go.RowKit
end Go.Proofs.YtkgjfdanjmnmbaaGreatDoor.Dr


/- What stays of a source while other memory is made; a coin, and bytes, that it gives. -/
namespace Go.Proofs.YtkgjfdanjmnmbaaGreatDoor.Dr
open Go.RowKit
open Nu (bv own_string)
structure Aft (B:Nat) (w w':World):Prop where
 os:w'.os=w.os
 tape:w'.tape=w.tape
 output:w'.output=w.output
 size:w.heap.size<=w'.heap.size
 block:∀ k,k<w.heap.size->k≠B->w'.heap[k]? = w.heap[k]?
theorem Aft.refl (B:Nat) (w:World):Aft B w w:=⟨rfl,rfl,rfl,Nat.le_refl _,fun _ _ _=>rfl⟩
theorem Aft.trans {B:Nat} {a b c:World} (h:Aft B a b) (k:Aft B b c):Aft B a c :=
 ⟨k.os.trans h.os,k.tape.trans h.tape,k.output.trans h.output,Nat.le_trans h.size k.size,fun i hi hn=>(k.block i (Nat.lt_of_lt_of_le hi h.size) hn).trans (h.block i hi hn)⟩
theorem Only.aft {B:Nat} {w w':World} (h:Only B w w'):Aft B w w':=⟨h.1,h.2.1,h.2.2.1,by rw[h.2.2.2.1];exact Nat.le_refl _,fun k _ hk=>h.2.2.2.2 k hk⟩
theorem aft_below {B:Nat} {w w':World} (h:Below w.heap.size w w'):Aft B w w':=⟨h.os,h.tape,h.output,h.size,fun k hk _=>h.block k hk⟩
theorem Aft.below {B C:Nat} {w0 w w':World} (hb:Below C w0 w) (h:Aft B w w') (hC:C<=B) (hS:C<=w.heap.size):Below C w0 w' :=
 hb.trans ⟨h.os,h.tape,h.output,h.size,fun k hk=>h.block k (by omega) (by omega)⟩
end Go.Proofs.YtkgjfdanjmnmbaaGreatDoor.Dr


namespace Go.Proofs.YtkgjfdanjmnmbaaGreatDoor.Up
open Go.RowKit
open Gn (rd getV getV_rd outN)
open Dr (Aft Only)
theorem hideQ {p:Prop} (h:p):Hid p:=h
def Rdr (w:World) (B:Nat) (t:ByteArray) (at_:Int) (bad:Bool):Prop:=w.heap[B]? = some (.cells #[.string t,.int .i64 at_,.bool bad] 119 (0,0))
theorem rdr_lt {w:World} {B:Nat} {t:ByteArray} {a:Int} {b:Bool} (h:Rdr w B t a b):B<w.heap.size:=(Array.getElem?_eq_some_iff.1 h).1
theorem set_k3 {W:World} {g:Nat} {x y z:Value} {T:TypeId} (h:W.heap[g]? = some (.cells #[x,y,z] T (0,0))) (v:Value):(W.setCell ⟨g,0,none⟩ v).heap[g]? = some (.cells #[v,y,z] T (0,0))/\(W.setCell ⟨g,1,none⟩ v).heap[g]? = some (.cells #[x,v,z] T (0,0))/\(W.setCell ⟨g,2,none⟩ v).heap[g]? = some (.cells #[x,y,v] T (0,0)):=by
 refine⟨?_,?_,?_⟩
 ·rw[heap_setCell_same W g 0 _ T v h];rfl
 ·rw[heap_setCell_same W g 1 _ T v h];rfl
 ·rw[heap_setCell_same W g 2 _ T v h];rfl
theorem lq_alloc {w W:World} (h:Below w.heap.size w W) (o:Obj):Below w.heap.size w (W.alloc o):=h.alloc h.size o
theorem lq_drew {w W:World} (h:Below w.heap.size w W):Below w.heap.size w W.drew:=h.drew
theorem lq_set {w W:World} (h:Below w.heap.size w W) (k:Nat) (v:Value):Below w.heap.size w (W.setCell ⟨w.heap.size,k,none⟩ v):=h.setCell (p:=⟨w.heap.size,k,none⟩) (Nat.le_refl _) v
theorem lq_keep {w0 w w':World} (h:Below w0.heap.size w0 w) (hb:Below w.heap.size w w'):Below w0.heap.size w0 w':=h.trans (hb.mono h.size)
theorem blk_low {w w':World} {g:Nat} {x:Obj} (h:w.heap[g]? = some x) (hb:Below w.heap.size w w'):w'.heap[g]? = some x:=(hb.block g (Array.getElem?_eq_some_iff.1 h).1).trans h
theorem aft_set {B:Nat} {w W:World} (h:Below w.heap.size w W) (o:Nat) (v:Value):Aft B w (W.setCell ⟨B,o,none⟩ v):=(Dr.aft_below h).trans (Dr.Only.aft ((Only.refl B W).set o v))
def okN (t:ByteArray) (at_:Int) (bad:Bool) (most:Int):Prop:=bad=false/\(rd t at_).2.2=0/\0<=(rd t at_).1/\(rd t at_).1<=most
theorem get_case (t:ByteArray) (a:Int):∃ n p c:Int,getV t a=.agg #[.int .i64 n,.int .i64 p,.int .i64 c]/\((c=0/\rd t a=(n,p.toNat,0)/\0<=p)∨(¬c=0/\¬(rd t a).2.2=0)):=by
 rw[getV_rd]
 by_cases h:(rd t a).2.2=0
 ·rw[if_pos h]
  refine⟨_,_,_,rfl,.inl ⟨rfl,?_,by omega⟩⟩
  rw[Int.toNat_natCast,<-h]
 ·rw[if_neg h]
  exact⟨_,_,_,rfl,.inr ⟨h,h⟩⟩
theorem num_any (B:Nat) (t:ByteArray) (at_ most:Int) (bad:Bool) (w:World) (ht:t.size<=1048576) (hb:Rdr w B t at_ bad) :
  Calls Tryz.prog 75 #[.pointer (some ⟨B,0,none⟩),.int .i64 most] w fun e w'=>((okN t at_ bad most/\e=.returned (.int .i64 (rd t at_).1)/\Rdr w' B t ((rd t at_).2.1:Int) false)∨(¬okN t at_ bad most/\e=.returned (.int .i64 0)/\Rdr w' B t at_ true))/\Aft B w w':=by
 have HB:=hideQ hb
 have c0:w.cell? ⟨B,0,none⟩=some (.string t):=cell_of_row w B 0 _ _ _ hb
 have c1:w.cell? ⟨B,1,none⟩=some (.int .i64 at_):=cell_of_row w B 1 _ _ _ hb
 clear hb
 obtain⟨n,p,c,hv,hcase⟩:=get_case t at_
 have HC:=hideQ hcase
 have HGS:Hid (∀ W,Calls Tryz.prog 36 #[.string t,.int .i64 at_] W fun e w'=>e=.returned (.agg #[.int .i64 n,.int .i64 p,.int .i64 c])/\Below W.heap.size W w'):=fun W=>by
  have:=Gn.get_spec t at_ W (by unfold maxLen;omega)
  rw[hv]at this
  exact this
 clear hv hcase
 go_enter Tryz.func75,Tryz.ntmps75
 have K0:Hid (Below w.heap.size w w.drew):=(Below.refl _ _).drew
 have KA:Hid (∀ o,Below w.heap.size w (w.drew.alloc o)):=fun o=>(Below.refl _ _).drew.alloc (Nat.le_refl _) o
 have KB:Hid (∀ o,Below w.heap.size w (w.alloc o).drew):=fun o=>((Below.refl _ _).alloc (Nat.le_refl _) o).drew
 have CB:Hid (∀ W,Below w.heap.size w W->W.cell? ⟨B,0,none⟩=some (.string t)/\W.cell? ⟨B,1,none⟩=some (.int .i64 at_)):=fun W h=>⟨(h.cell (p:=⟨B,0,none⟩) (rdr_lt HB.out)).trans c0,(h.cell (p:=⟨B,1,none⟩) (rdr_lt HB.out)).trans c1⟩
 clear c0 c1
 go_upto_region 1 with fail
 go_cut [5] from 6 to 14 (fun s5 wx=>∃ g:Nat,s5=.pointer (some ⟨g,0,none⟩)/\wx.heap[g]? = some (.cells #[.int .i64 n,.int .i64 p,.int .i64 c] 73 (0,0))/\w.heap.size<=g/\Below w.heap.size w wx)
 case first =>
  have hS0:=CB.out _ K0.out
  go_region_held3 (fun W=>W.cell? ⟨B,0,none⟩=some (.string t)/\W.cell? ⟨B,1,none⟩=some (.int .i64 at_)) (first|assumption|exact CB.out _ (by repeat (first|exact L1.out|exact Below.refl _ _|refine lq_alloc ?_ _|refine lq_set ?_ _ _|refine lq_drew ?_))) (first|(go_at_call 36;(with_reducible refine(HGS.out _).mono ?_);rintro e w1 ⟨rfl,hb1⟩;have L1:=hideQ (lq_keep (w0:=w) (by repeat (first|exact Below.refl _ _|refine lq_alloc ?_ _|refine lq_drew ?_)) hb1);have K1:=hideQ hb1;obtain⟨hc1,hf1⟩:=Gn.bcell hb1;clear hb1))
  all_goals (try go_wp2_with fail)
  all_goals go_meet
  all_goals (first|exact⟨_,rfl,heap_alloc_new w1 _,L1.out.size,lq_alloc L1.out _⟩|exact⟨_,rfl,(set_k3 (set_k3 (set_k3 (blk_low (w:=(w.alloc (.cells #[.int .i64 0,.int .i64 0,.int .i64 0] 73)).drew) (heap_alloc_new w _) K1.out) _).1 _).2.1 _).2.2,Nat.le_refl _,lq_set (lq_set (lq_set L1.out _ _) _ _) _ _⟩)
 case rest =>
  obtain⟨g,rfl,hgb,hgl,hbx⟩:=hcut
  have RB:Hid (Rdr wc B t at_ bad):=blk_low HB.out hbx
  have cB:wc.cell? ⟨B,2,none⟩=some (.bool bad):=cell_of_row wc B 2 _ _ _ RB.out
  have cB1:wc.cell? ⟨B,1,none⟩=some (.int .i64 at_):=cell_of_row wc B 1 _ _ _ RB.out
  have hgB:¬g=B:=by have:=rdr_lt HB.out;omega
  have hBg:¬B=g:=by omega
  have fB:=fun o=>frozen_of_row wc B o _ _ RB.out
  have cg0:wc.cell? ⟨g,0,none⟩=some (.int .i64 n):=cell_of_row wc g 0 _ _ _ hgb
  have cg1:wc.cell? ⟨g,1,none⟩=some (.int .i64 p):=cell_of_row wc g 1 _ _ _ hgb
  have cg2:wc.cell? ⟨g,2,none⟩=some (.int .i64 c):=cell_of_row wc g 2 _ _ _ hgb
  have BX:=hideQ hbx
  have HBAD:Hid (Rdr (wc.setCell ⟨B,2,none⟩ (.bool true)) B t at_ true):=(set_k3 RB.out _).2.2
  have HFIN:Hid (Rdr (wc.setCell ⟨B,1,none⟩ (.int .i64 p)) B t p bad):=(set_k3 RB.out _).2.1
  clear hgb hgl hbx HB HGS CB K0 KA KB
  cases bad with
  |true =>
   go_wp2_with fail
   go_ret
   exact⟨.inr ⟨fun h=>absurd h.1 (by decide),rfl,HBAD.out⟩,aft_set BX.out _ _⟩
  |false =>
   by_cases hc:c=0
   ·subst hc
    have hrd:rd t at_=(n,p.toNat,0)/\0<=p:=by
     rcases HC.out with h|h
     ·exact h.2
     ·exact absurd rfl h.1
    have HRD:=hideQ hrd
    clear hrd
    by_cases hr:0<=n/\n<=most
    ·go_wp2_with fail
     refine(Bi.is_yes n 0 most _ hr.1 hr.2).mono ?_
     rintro e w2 ⟨rfl,rfl⟩
     go_wp2_with fail
     go_ret
     refine⟨.inl ⟨⟨rfl,by rw[HRD.out.1],by rw[HRD.out.1];exact hr.1,by rw[HRD.out.1];exact hr.2⟩,by rw[HRD.out.1];rfl,?_⟩,aft_set BX.out _ _⟩
     rw[HRD.out.1,show ((p.toNat:Nat):Int)=p from Int.toNat_of_nonneg HRD.out.2]
     exact HFIN.out
    ·have HR:=hideQ hr
     go_wp2_with fail
     refine(Bi.is_no n 0 most _ (by omega)).mono ?_
     rintro e w2 ⟨rfl,rfl⟩
     clear hr
     go_wp2_with fail
     go_ret
     exact⟨.inr ⟨fun h=>HR.out (by have:=h.2.2;rw[HRD.out.1]at this;exact this),rfl,HBAD.out⟩,aft_set BX.out _ _⟩
   ·have hc':(c != 0)=true:=by simp;exact hc
    go_wp2_with fail
    go_ret
    refine⟨.inr ⟨fun h=>?_,rfl,HBAD.out⟩,aft_set BX.out _ _⟩
    rcases HC.out with k|k
    ·exact hc k.1
    ·exact k.2 h.2.1
end Go.Proofs.YtkgjfdanjmnmbaaGreatDoor.Up


namespace Go.Proofs.YtkgjfdanjmnmbaaGreatDoor.Bi
open Go.RowKit
open St (IsS Strs)
def wthK (l:List Int) (t:ByteArray) (k:Nat):Bool:=(List.range k).any fun i=>decide (0<l.getD i 0) && Lib.hasPrefix (codeOf l i).data.toList t.data.toList
theorem wthK_next (l:List Int) (t:ByteArray) (k:Nat):wthK l t (k+1)=(wthK l t k || (decide (0<l.getD k 0) && Lib.hasPrefix (codeOf l k).data.toList t.data.toList)):=by
 unfold wthK
 rw[List.range_succ,List.any_append,List.any_cons,List.any_nil,Bool.or_false]
def nxt (l:List Int) (t:ByteArray):Int:=match sym l t with
 |some i=>(i:Int)
 |none=>if wth l t=true then -2 else -1
theorem toList_beq {x y:ByteArray}:(x.toList==y.toList)=true↔x=y:=by
 rw[beq_iff_eq,ByteArray.toList_eq,ByteArray.toList_eq]
 constructor
 ·intro h
  have h2:x.data=y.data:=Array.toList_inj.1 h
  cases x;cases y;simp at h2;rw[h2]
 ·intro h;rw[h]
theorem pre_no {c t:ByteArray} (h:c.size<=t.size) (hne:¬t.extract 0 c.size=c):Lib.hasPrefix c.data.toList t.data.toList=false:=by
 rw[<-Lib.hasPrefix_raw]
 by_cases hs:t.size<=c.size
 ·rw[decide_eq_true hs,Bool.true_and]
  cases hb:((c.extract 0 t.size).toList==t.toList) with
  |false=>rfl
  |true =>
   have h1:=toList_beq.1 hb
   have h2:t.size=c.size:=by omega
   rw[h2,ByteArray.extract_zero_size]at h1
   exact absurd (by rw[h1];exact ByteArray.extract_zero_size) hne
 ·rw[decide_eq_false hs,Bool.false_and]
theorem pre_is {c t:ByteArray} (h:t.size<c.size):((c.extract 0 t.size).toList==t.toList)=Lib.hasPrefix c.data.toList t.data.toList:=by
 rw[<-Lib.hasPrefix_raw,decide_eq_true (by omega),Bool.true_and]
theorem next_spec (l:List Int) (t:ByteArray) (p:Nat) (x:Option Addr) (cap B:Nat) (w:World) (hs:Strs w B x (codesV l)) (hr:right l=true) (hp:p<=t.size) (ht:t.size<=8000) :
  Calls Tryz.prog 150 #[.slice x l.length cap,.string t,.int .i64 p] w fun e w'=>e=.returned (.int .i64 (nxt l (rst t p)))/\w'=w:=by
 have hok:=(within_yes (right_yes hr).1).2
 have hcs:=(right_yes hr).2
 have hn:=(within_yes (right_yes hr).1).1
 have HS:=hideB hs
 have HK:=hideB hok
 have HSO:=hideB (fun (i:Nat) (h:mt l (rst t p) i)=>sym_of hcs hok h)
 have HSN:=hideB (fun (h:∀ i,¬mt l (rst t p) i)=>sym_none h)
 have HCL:=hideB (codesV_length l)
 clear hs hok hcs hr
 obtain⟨n,hln⟩:∃ n,n=l.length:=⟨_,rfl⟩
 have HLN:=hideB hln
 rw[<-hln]at hn HCL ⊢
 clear hln
 obtain⟨r,hrr⟩:∃ r,r=rst t p:=⟨_,rfl⟩
 have hre:t.extract p t.size=r:=hrr.symm
 have hrz:r.size<=8000:=by rw[hrr,rst_size];omega
 obtain⟨rs,hrs⟩:∃ rs,rs=nxt l (rst t p):=⟨_,rfl⟩
 have HRS:=hideB hrs
 rw[<-hrs]
 rw[<-hrr]at HRS HSO HSN
 clear hrr hrs
 have hpi:(p:Int)<=t.size:=by omega
 go_enter Tryz.func150,Tryz.ntmps150
 go_wp2_with fail
 go_loopw [9,8] (fun i b wr=>∃ (k:Nat) (wb:Bool),i=.int .i64 k/\b=.bool wb/\k<=n/\wb=wthK l r k/\(∀ j,j<k->¬mt l r j)/\wr=w) (fun i _ _=>n-(intOf i).toNat)
 case atStart=>exact⟨0,false,rfl,rfl,Nat.zero_le _,rfl,fun j hj=>absurd hj (Nat.not_lt_zero j),rfl⟩
 case round =>
  obtain⟨k,wb,rfl,rfl,hk,hwb,hall,hw⟩:=hrel
  subst hw
  have HWB:=hideB hwb
  have HA:=hideB hall
  clear hwb hall
  by_cases hlt:k<n
  ·have hkl:k<l.length:=by rw[<-HLN.out];exact hlt
   have hkv:k<(codesV l).length:=by rw[HCL.out];exact hlt
   obtain⟨b,off,rfl,hb,hc⟩:=HS.out.some (by omega)
   have ci:=hc k hkv
   rw[codes_get l HK.out k hkv]at ci
   have HNX:=hideB (wthK_next l r k)
   have HNONE:=hideB (codeOf_none l k)
   have HSZ:=hideB (codeOf_size l k)
   have hcl:=codeOf_le l HK.out k
   have HMT:Hid (mt l r k↔0<l.getD k 0/\wd l k<=r.size/\r.extract 0 (wd l k)=codeOf l k):=⟨fun h=>h.2,fun h=>⟨hkl,h⟩⟩
   rw[show (l.getD k 0).toNat=wd l k from rfl]at HSZ
   rw[<-HSZ.out]at HMT
   obtain⟨c,hcc⟩:∃ c,c=codeOf l k:=⟨_,rfl⟩
   rw[<-hcc]at ci HNX HNONE hcl HMT
   have HS2:Hid (c.size=wd l k):=by
    unfold Hid
    rw[hcc]
    exact HSZ.out
   clear hc hcc HSZ
   by_cases h0:0<l.getD k 0
   ·have hne:c.toList.isEmpty=false:=nonempty c (by rw[HS2.out];unfold wd;omega)
    rw[decide_eq_true h0,Bool.true_and]at HNX
    by_cases hge:c.size<=r.size
    ·have hgi:(c.size:Int)<=r.size:=by omega
     by_cases hm:r.extract 0 c.size=c
     ·have hbq:((r.extract 0 c.size).toList==c.toList)=true:=toList_beq.2 hm
      have HE:Hid (rs=(k:Int)):=by
       unfold Hid
       rw[HRS.out]
       unfold nxt
       rw[HSO.out k (HMT.out.2 ⟨h0,hge,hm⟩)]
      clear hm h0
      go_wp2_with fail
      go_ret
      exact⟨by rw[HE.out];rfl,rfl⟩
     ·have hbq:((r.extract 0 c.size).toList==c.toList)=false:=by
       cases hq:((r.extract 0 c.size).toList==c.toList) with
       |false=>rfl
       |true=>exact absurd (toList_beq.1 hq) hm
      have HNO:Hid (∀ j,j<k+1->¬mt l r j):=fun j hj hmj=>by
       by_cases e:j=k
       ·subst e;exact hm (HMT.out.1 hmj).2.2
       ·exact HA.out j (by omega) hmj
      have HW2:Hid (wb=wthK l r (k+1)):=by
       unfold Hid
       rw[HNX.out,pre_no hge hm,Bool.or_false]
       exact HWB.out
      have hlf:decide ((r.size:Int)<c.size)=false:=decide_eq_false (by omega)
      clear hm h0
      cases wb with
      |true =>
       go_wp2_with fail
       go_roundw
       case rel=>exact⟨k+1,true,by go_num,rfl,by omega,HW2.out,HNO.out,trivial⟩
       case measure=>simp[intOf];omega
      |false =>
       go_wp2_with fail
       go_roundw
       case rel=>exact⟨k+1,false,by go_num,rfl,by omega,HW2.out,HNO.out,trivial⟩
       case measure=>simp[intOf];omega
    ·have hgi:decide ((c.size:Int)<=r.size)=false:=decide_eq_false (by omega)
     have hlt':(r.size:Int)<c.size:=by omega
     have hri:(r.size:Int)<=c.size:=by omega
     have HNO:Hid (∀ j,j<k+1->¬mt l r j):=fun j hj hmj=>by
      by_cases e:j=k
      ·subst e;exact hge (HMT.out.1 hmj).2.1
      ·exact HA.out j (by omega) hmj
     have hbq:=pre_is (c:=c) (t:=r) (by omega)
     have HW2:Hid ((wb || Lib.hasPrefix c.data.toList r.data.toList)=wthK l r (k+1)):=by
      unfold Hid
      rw[HNX.out,HWB.out]
     generalize Lib.hasPrefix c.data.toList r.data.toList=pb at hbq HW2
     clear h0
     cases wb with
     |true =>
      go_wp2_with fail
      go_roundw
      case rel=>exact⟨k+1,true,by go_num,rfl,by omega,HW2.out,HNO.out,trivial⟩
      case measure=>simp[intOf];omega
     |false =>
      cases pb with
      |true =>
       go_wp2_with fail
       go_roundw
       case rel=>exact⟨k+1,true,by go_num,rfl,by omega,HW2.out,HNO.out,trivial⟩
       case measure=>simp[intOf];omega
      |false =>
       go_wp2_with fail
       go_roundw
       case rel=>exact⟨k+1,false,by go_num,rfl,by omega,HW2.out,HNO.out,trivial⟩
       case measure=>simp[intOf];omega
   ·have hce:=HNONE.out h0
    have HNO:Hid (∀ j,j<k+1->¬mt l r j):=fun j hj hmj=>by
     by_cases e:j=k
     ·subst e;exact h0 (HMT.out.1 hmj).1
     ·exact HA.out j (by omega) hmj
    have HW2:Hid (wb=wthK l r (k+1)):=by
     unfold Hid
     rw[HNX.out,decide_eq_false h0,Bool.false_and,Bool.or_false]
     exact HWB.out
    subst hce
    clear h0
    go_wp2_with fail
    go_roundw
    case rel=>exact⟨k+1,wb,by go_num,rfl,by omega,HW2.out,HNO.out,trivial⟩
    case measure=>simp[intOf];omega
  ·obtain rfl:k=n:=by omega
   have HSY:Hid (sym l r=none):=HSN.out (fun i hm=>HA.out i (by rw[HLN.out];exact hm.1) hm)
   have HWT:Hid (wb=wth l r):=by
    unfold Hid
    rw[HWB.out,HLN.out]
    rfl
   cases wb with
   |true =>
    have HE:Hid (rs = -2):=by
     unfold Hid
     rw[HRS.out]
     unfold nxt
     rw[HSY.out]
     simp only[<-HWT.out,if_true]
    go_wp2_with fail
    go_ret
    exact⟨by rw[HE.out];rfl,rfl⟩
   |false =>
    have HE:Hid (rs = -1):=by
     unfold Hid
     rw[HRS.out]
     unfold nxt
     rw[HSY.out]
     simp only[<-HWT.out]
     rfl
    go_wp2_with fail
    go_ret
    exact⟨by rw[HE.out];rfl,rfl⟩
end Go.Proofs.YtkgjfdanjmnmbaaGreatDoor.Bi


namespace Go.Proofs.YtkgjfdanjmnmbaaGreatDoor.Bi
open Go.RowKit
open In (Ints IsI OwnIn OwnI one_newI one_cellI)
open St (IsS Strs)
def OutV (w:World) (g:Nat) (v:Value) (p:Int):Prop:=w.heap[g]? = some (.cells #[v,.int .i64 p,.int .i64 0] 122 (0,0))
theorem OutV.c0 {w:World} {g:Nat} {v:Value} {p:Int} (h:OutV w g v p):w.cell? ⟨g,0,none⟩=some v:=(cell_of_row w g 0 _ _ _ h).trans rfl
theorem OutV.c1 {w:World} {g:Nat} {v:Value} {p:Int} (h:OutV w g v p):w.cell? ⟨g,1,none⟩=some (.int .i64 p):=(cell_of_row w g 1 _ _ _ h).trans rfl
theorem OutV.c2 {w:World} {g:Nat} {v:Value} {p:Int} (h:OutV w g v p):w.cell? ⟨g,2,none⟩=some (.int .i64 0):=(cell_of_row w g 2 _ _ _ h).trans rfl
theorem OutV.fr {w:World} {g:Nat} {v:Value} {p:Int} (h:OutV w g v p) (j:Nat):w.frozen? ⟨g,j,none⟩=false:=frozen_of_row w g j _ _ h
theorem OutV.lt {w:World} {g:Nat} {v:Value} {p:Int} (h:OutV w g v p):g<w.heap.size:=(Array.getElem?_eq_some_iff.1 h).1
theorem OutV.of_heap {w w':World} {g:Nat} {v:Value} {p:Int} (h:OutV w g v p) (e:w'.heap[g]? = w.heap[g]?):OutV w' g v p:=by unfold OutV;rw[e];exact h
theorem OutV.set0 {w:World} {g:Nat} {v:Value} {p:Int} (h:OutV w g v p) (v':Value):OutV (w.setCell ⟨g,0,none⟩ v') g v' p:=by unfold OutV;rw[heap_setCell_same w g 0 _ _ _ h];rfl
theorem OutV.set1 {w:World} {g:Nat} {v:Value} {p:Int} (h:OutV w g v p) (q:Int):OutV (w.setCell ⟨g,1,none⟩ (.int .i64 q)) g v q:=by unfold OutV;rw[heap_setCell_same w g 1 _ _ _ h];rfl
theorem ownI_set {w:World} {base:Nat} {v:Value} {l:List Int} (h:OwnI w base v l) (a:Addr) (x:Value) (ha:a.block<base):OwnI (w.setCell a x) base v l:=by
 obtain⟨hl,h⟩:=h
 refine⟨hl,?_⟩
 rcases h with h|⟨g,cap,cur,hv,hg,hb,rest⟩
 ·exact .inl h
 ·exact .inr ⟨g,cap,cur,hv,hg,by rw[heap_setCell_other w a g x (by omega)];exact hb,rest⟩
theorem ownI_alloc {w:World} {base:Nat} {v:Value} {l:List Int} (h:OwnI w base v l) (o:Obj):OwnI (w.alloc o) base v l:=World.ownsRow.alloc h o
theorem in_mono {w:World} {lo hi lo' hi':Nat} {v:Value} {l:List Int} (h:OwnIn w lo hi v l) (h1:lo'<=lo) (h2:hi<=hi'):OwnIn w lo' hi' v l:=by
 rcases h with h|⟨g,cap,hv,hg,hh,ho⟩
 ·exact .inl h
 ·exact .inr ⟨g,cap,hv,by omega,by omega,ho⟩
theorem nxt_some {l:List Int} {t:ByteArray} {i:Nat} (h:sym l t=some i):nxt l t=(i:Int):=by unfold nxt;rw[h]
theorem nxt_short {l:List Int} {t:ByteArray} (h:sym l t=none) (hw:wth l t=true):nxt l t = -2:=by unfold nxt;rw[h];simp only[hw,if_true]
theorem nxt_none {l:List Int} {t:ByteArray} (h:sym l t=none) (hw:wth l t=false):nxt l t = -1:=by unfold nxt;rw[h];simp only[hw];rfl
theorem l04Get_any (l:List Int) (t:ByteArray) (m:Nat) (a:Option Addr) (cap:Nat) (w:World) (hl:Ints w w.heap.size a l) (h8:t.size<=8000) (hr:right l=true) (hm:m<=400) :
  Calls Tryz.prog 108 #[.slice a l.length cap,.string t,.int .i64 m] w fun e w'=>∃ v,e=.returned (.agg #[v,.int .i64 (outS (st l t m)).2.1,.int .i64 (outS (st l t m)).2.2])/\OwnIn w' w.heap.size w'.heap.size v (outS (st l t m)).1/\Below w.heap.size w w':=by
 obtain⟨i0,hi0,hz0,hz1,hz2⟩:=info_parts Tryz.infoG2
 obtain⟨W0,hW0⟩:∃ W0,W0=w.alloc (.cells #[.slice none 0 0,.int .i64 0,.int .i64 0] 122):=⟨_,rfl⟩
 have z0:W0.heap.size=w.heap.size+1:=by rw[hW0];simp
 have B0:=hideB (show Below w.heap.size w W0 by rw[hW0];exact(Below.refl _ _).alloc (Nat.le_refl _) _)
 have O0:=hideB (show Out0 W0 w.heap.size by rw[hW0];exact Out0.new w)
 have HCO:=hideB (codes_spec l a cap W0.heap.size W0 ((hl.below B0.out).mono B0.out.size) (Nat.le_refl _) hr)
 have HL:=hideB hl
 have HR:=hideB hr
 have hn:=(within_yes (right_yes hr).1).1
 clear hl hr
 obtain⟨n,hln⟩:∃ n,n=l.length:=⟨_,rfl⟩
 have HLN:=hideB hln
 rw[<-hln]at hn HCO ⊢
 clear hln
 go_enter Tryz.func108,Tryz.ntmps108
 go_wp2_with fail
 rw[<-hW0]
 have HW0:=hideB hW0
 clear hW0
 refine HCO.out.mono ?_
 rintro e w1 ⟨rfl,hx1,hb1⟩
 have X1:=hideB hx1
 have B1:=hideB (B0.out.trans (hb1.mono (by omega)))
 have O1:=hideB (O0.out.below hb1 (by omega))
 have z1:W0.heap.size<w1.heap.size:=hx1.lt
 clear hx1 hb1
 obtain⟨b,hb⟩:∃ b,b=W0.heap.size:=⟨_,rfl⟩
 rw[<-hb]at z0 z1 X1 ⊢
 have zb:w.heap.size<b:=by omega
 clear hb HW0 O0 B0 z0 HCO
 go_wp2_with fail
 go_loopw [2] (fun mv wr=>∃ (k p:Nat) (xs:List Int) (v:Value),mv=.int .i64 ((m:Int)-k)/\k<=m/\st l t k=.inr (xs,p)/\OutV wr w1.heap.size v p/\OwnI wr (w1.heap.size+1) v xs/\IsS wr b 9 (codesV l)/\Out0 wr w.heap.size/\Below w.heap.size w wr/\w1.heap.size<wr.heap.size) (fun mv _=>(intOf mv).toNat)
 case atStart=>exact⟨0,0,[],.slice none 0 0,by go_num,Nat.zero_le _,rfl,heap_alloc_last w1 _,OwnI.nil _ _,X1.out.of_heapS (Below.heap_alloc w1 _ b z1),O1.out.below ((Below.refl w1.heap.size w1).alloc (Nat.le_refl _) _) (by omega),B1.out.alloc B1.out.size _,by simp⟩
 case round =>
  obtain⟨k,p,xs,v,rfl,hk,hst,hov,hown,hx,ho,hbel,hz⟩:=hrel
  have HST:=hideB hst
  have V3:=hideB hov
  have N3:=hideB hown
  have X3:=hideB hx
  have O3:=hideB ho
  have B3:=hideB hbel
  obtain⟨hps,hxl⟩:=st_facts k p xs hst
  have HXL:=hideB hxl
  obtain⟨vx,vc,rfl,hvc,_⟩:=hown.ints
  clear hst hov hown hx ho hbel hxl
  have c0:=V3.out.c0
  have c1:=V3.out.c1
  have c2:=V3.out.c2
  have f0:=V3.out.fr 0
  have f1:=V3.out.fr 1
  have d0:=O3.out.c0
  have d1:=O3.out.c1
  have d2:=O3.out.c2
  have e0:=O3.out.fr 0
  have e1:=O3.out.fr 1
  have e2:=O3.out.fr 2
  obtain⟨xl,hxl2⟩:∃ xl,xl=xs.length:=⟨_,rfl⟩
  have HX2:=hideB hxl2
  rw[<-hxl2]at c0 V3 N3 hvc
  clear hxl2
  by_cases hlt:k<m
  ·have hpos:(0:Int)<(m:Int)-k:=by omega
   have HNX:=hideB (next_spec l t p (some ⟨b,0,none⟩) n (b+1) wr (X3.out.strs (Nat.lt_succ_self b)) HR.out hps h8)
   rw[<-HLN.out]at HNX
   cases hs:sym l (rst t p) with
   |none =>
    have HB:=hideB (st_bad HST.out hs)
    have HE:Hid (outS (st l t m)=([],0,why l (rst t p))):=by
     have h1:=st_stay HB.out (m-(k+1))
     rw[show k+1+(m-(k+1))=m by omega]at h1
     unfold Hid
     rw[h1]
     rfl
    cases hw:wth l (rst t p) with
    |true =>
     rw[nxt_short hs hw]at HNX
     have HE2:Hid (outS (st l t m)=([],0,4)):=by
      unfold Hid
      rw[HE.out]
      unfold why
      rw[if_pos hw]
     clear hs hw
     go_wp2_with fail
     refine HNX.out.mono ?_
     rintro e w' ⟨rfl,hw'⟩
     subst w'
     go_wp2_with fail
     refine bodyPost_ret (v:=.agg #[.slice none 0 0,.int .i64 0,.int .i64 4]) (by simp[results,Tryz.results108,go_sem,d0,d1,d2]) rfl ⟨.slice none 0 0,?_,?_,?_⟩
     ·rw[HE2.out]
     ·rw[HE2.out]
      exact .inl ⟨rfl,rfl⟩
     ·exact((B3.out.setCell (Nat.le_refl _) _).setCell (Nat.le_refl _) _).setCell (Nat.le_refl _) _
    |false =>
     rw[nxt_none hs hw]at HNX
     have HE2:Hid (outS (st l t m)=([],0,3)):=by
      unfold Hid
      rw[HE.out]
      unfold why
      rw[if_neg (by rw[hw];decide)]
     clear hs hw
     go_wp2_with fail
     refine HNX.out.mono ?_
     rintro e w' ⟨rfl,hw'⟩
     subst w'
     go_wp2_with fail
     refine bodyPost_ret (v:=.agg #[.slice none 0 0,.int .i64 0,.int .i64 3]) (by simp[results,Tryz.results108,go_sem,d0,d1,d2]) rfl ⟨.slice none 0 0,?_,?_,?_⟩
     ·rw[HE2.out]
     ·rw[HE2.out]
      exact .inl ⟨rfl,rfl⟩
     ·exact((B3.out.setCell (Nat.le_refl _) _).setCell (Nat.le_refl _) _).setCell (Nat.le_refl _) _
   |some i =>
    rw[nxt_some hs]at HNX
    have HSM:=hideB (st_more HST.out hs)
    have hmt:=sym_mt hs
    have hil:i<l.length:=hmt.1
    have hin:i<n:=by rw[HLN.out];exact hil
    have hb1:((i:Int) == -1)=false:=beq_eq_false_iff_ne.2 (by omega)
    have hb2:((i:Int) == -2)=false:=beq_eq_false_iff_ne.2 (by omega)
    have hwl:wd l i<=12:=by
     have:=(within_yes (right_yes HR.out).1).2 _ (List.getElem_mem hil)
     unfold wd
     rw[getD_lt hil]
     omega
    have HLI:Hid (l[i]=((wd l i:Nat):Int)):=by
     unfold Hid
     rw[<-getD_lt hil]
     exact wd_int hmt.2.1
    clear hs hmt
    have hown:=N3.out
    go_wp2_with fail
    refine HNX.out.mono ?_
    rintro e w' ⟨rfl,hw'⟩
    subst w'
    go_wp2_with (at_builtin;refine wpList_append_own _ rfl (.tmp 30) (.tmp 32) 114 rfl (w1.heap.size+1) 2 i0 (.int .i64 0) 1 8 Tryz.underlying114 hi0 hz0 hz1 hz2 rfl (by decide) _ _ _ rfl (ownI_alloc hown _) ⟨wr.heap.size,0,none⟩ 1 1 [.int .i64 (i:Int)] rfl rfl (one_newI _ _ _) (one_cellI _) (by unfold maxLen;have h1:=HXL.out;have h2:=HX2.out;omega) (by have h1:=HXL.out;have h2:=HX2.out;omega) (by simp;omega) ?_)
    intro v' w5 hown' hgrow _
    have N5:=hideB (OwnI.snoc hown')
    have b5:Below (w1.heap.size+1) wr w5:=In.app_one (Below.refl _ _) (by omega) (Nat.le_refl _) hown hgrow
    have V5:=hideB (V3.out.of_heap (b5.block w1.heap.size (Nat.lt_succ_self _)))
    have X5:=hideB (X3.out.of_heapS (b5.block b (by omega)))
    have O5:=hideB (O3.out.below b5 (by omega))
    have B5:=hideB (B3.out.trans (b5.mono (by omega)))
    have z5:=b5.size
    obtain⟨y,yc,rfl,hyc,_⟩:=N5.out.ints
    obtain⟨yl,hyl⟩:∃ yl,yl=(xs++[(i:Int)]).length:=⟨_,rfl⟩
    have HYL:=hideB hyl
    rw[<-hyl]at N5 hyc ⊢
    clear hown' hgrow hown b5 hyl
    obtain⟨W6,hW6⟩:∃ W6,W6=w5.setCell ⟨w1.heap.size,0,none⟩ (.slice y yl yc):=⟨_,rfl⟩
    have V6:=hideB (show OutV W6 w1.heap.size (.slice y yl yc) p by rw[hW6];exact V5.out.set0 _)
    have N6:=hideB (show OwnI W6 (w1.heap.size+1) (.slice y yl yc) (xs++[(i:Int)]) by rw[hW6];exact ownI_set N5.out _ _ (Nat.lt_succ_self _))
    have X6:=hideB (show IsS W6 b 9 (codesV l) by rw[hW6];exact X5.out.set_other _ _ (by simp;omega))
    have O6:=hideB (show Out0 W6 w.heap.size by rw[hW6];exact O5.out.set _ _ (by simp;omega))
    have B6:=hideB (show Below w.heap.size w W6 by rw[hW6];exact B5.out.setCell (p:=⟨w1.heap.size,0,none⟩) (by simp;omega) _)
    have z6:w1.heap.size<W6.heap.size:=by rw[hW6];simp[World.setCell];omega
    have HW6:=hideB hW6
    have g0:=V5.out.c0
    have g1:=V5.out.c1
    have h0:=V5.out.fr 0
    clear hW6 c0 c1 c2 f0 f1 d0 d1 d2 e0 e1 e2
    go_wp2_with fail
    rw[<-HW6.out]
    clear g0 g1 h0
    obtain⟨bl,offl,rfl,_,hcl⟩:=(HL.out.below B6.out).some (by omega)
    have cl:=hcl i hil
    rw[HLI.out]at cl
    have k1:=V6.out.c1
    have j1:=V6.out.fr 1
    have V7:Hid (OutV (W6.setCell ⟨w1.heap.size,1,none⟩ (.int .i64 ((p:Int)+((wd l i:Nat):Int)))) w1.heap.size (.slice y yl yc) ((p+wd l i:Nat):Int)):=by
     have:=V6.out.set1 ((p:Int)+((wd l i:Nat):Int))
     unfold Hid
     rw[Int.natCast_add]
     exact this
    generalize wd l i=wv at cl HSM V7 hwl
    clear hcl HLI
    go_region
    all_goals (try go_wp2_with fail)
    all_goals go_roundw
    case rel=>exact⟨k+1,p+wv,xs++[(i:Int)],.slice y yl yc,by go_num,by omega,HSM.out,V7.out,ownI_set N6.out _ _ (Nat.lt_succ_self _),X6.out.set_other _ _ (by simp;omega),O6.out.set _ _ (by simp;omega),Below.drew (B6.out.setCell (p:=⟨w1.heap.size,1,none⟩) (by simp;omega) _),by simpa [World.setCell] using z6⟩
    case measure=>simp[intOf];omega
  ·obtain rfl:k=m:=by omega
   have HE:Hid (outS (st l t k)=(xs,(p:Int),0)):=by
    unfold Hid
    rw[HST.out]
    rfl
   have hpos:¬(0:Int)<(k:Int)-k:=by omega
   go_wp2_with fail
   refine bodyPost_ret (v:=.agg #[.slice vx xl vc,.int .i64 p,.int .i64 0]) (by simp[results,Tryz.results108,go_sem,d0,d1,d2]) rfl ⟨.slice vx xl vc,?_,?_,?_⟩
   ·rw[HE.out]
   ·rw[HE.out]
    exact in_mono (OwnI.inn (ownI_set (ownI_set (ownI_set N3.out ⟨w.heap.size,0,none⟩ _ (by simp;omega)) ⟨w.heap.size,1,none⟩ _ (by simp;omega)) ⟨w.heap.size,2,none⟩ _ (by simp;omega))) (by omega) (Nat.le_refl _)
   ·exact((B3.out.setCell (Nat.le_refl _) _).setCell (Nat.le_refl _) _).setCell (Nat.le_refl _) _
end Go.Proofs.YtkgjfdanjmnmbaaGreatDoor.Bi


namespace Go.Proofs.YtkgjfdanjmnmbaaGreatDoor.Bi
open Go.RowKit
open In (Ints IsI OwnIn OwnI)
open St (Aft)
theorem get_spec (l:List Int) (t:ByteArray) (m:Int) (a:Option Addr) (cap:Nat) (w:World) (hl:Ints w w.heap.size a l) (hn:l.length<=1048576) (ht:t.size<=1048576) :
  Calls Tryz.prog 76 #[.slice a l.length cap,.string t,.int .i64 m] w fun e w'=>∃ v,e=.returned (.agg #[v,.int .i64 (getR l t m).2.1,.int .i64 (getR l t m).2.2])/\OwnIn w' w.heap.size w'.heap.size v (getR l t m).1/\Below w.heap.size w w':=by
 by_cases h4:400<l.length
 ·rw[getR_size (Or.inl h4)]
  clear hl
  generalize l.length=n at hn h4 ⊢
  go_enter Tryz.func76,Tryz.ntmps76
  go_wp2_with fail
  refine bodyPost_ret (v:=.agg #[.slice none 0 0,.int .i64 0,.int .i64 2]) (by simp[results,Tryz.results76,go_sem]) rfl ⟨.slice none 0 0,rfl,nil_in _ _ _,(Below.refl _ _).alloc (Nat.le_refl _) _⟩
 ·have hd4:decide (400<(l.length:Int))=false:=decide_eq_false (by omega)
  by_cases h8:8000<t.size
  ·rw[getR_size (Or.inr h8)]
   clear hl
   generalize l.length=n at hn h4 hd4 ⊢
   go_enter Tryz.func76,Tryz.ntmps76
   go_wp2_with fail
   refine bodyPost_ret (v:=.agg #[.slice none 0 0,.int .i64 0,.int .i64 2]) (by simp[results,Tryz.results76,go_sem]) rfl ⟨.slice none 0 0,rfl,nil_in _ _ _,(Below.refl _ _).alloc (Nat.le_refl _) _⟩
  ·have hd8:decide (8000<(t.size:Int))=false:=decide_eq_false (by omega)
   have hno:¬(400<l.length∨8000<t.size):=by omega
   have B0:=hideB ((Below.refl w.heap.size w).alloc (Nat.le_refl _) (.cells #[.slice none 0 0,.int .i64 0,.int .i64 0] 122))
   have hl0:=(hl.below B0.out).mono (by simp:w.heap.size<=(w.alloc (.cells #[.slice none 0 0,.int .i64 0,.int .i64 0] 122)).heap.size)
   have HWH:=hideB (l04Whole_any l a cap _ _ hl0 (by omega))
   have HGO:=hideB (good_spec t (w.alloc (.cells #[.slice none 0 0,.int .i64 0,.int .i64 0] 122)) ht)
   cases hw:whole l with
   |false =>
    rw[getR_form hno (Or.inl hw)]
    rw[hw]at HWH
    clear hl hno hl0
    generalize l.length=n at hn h4 hd4 HWH ⊢
    go_enter Tryz.func76,Tryz.ntmps76
    go_wp2_with fail
    refine HWH.out.mono ?_
    rintro e w' ⟨rfl,hw'⟩
    subst w'
    go_wp2_with fail
    refine bodyPost_ret (v:=.agg #[.slice none 0 0,.int .i64 0,.int .i64 1]) (by simp[results,Tryz.results76,go_sem]) rfl ⟨.slice none 0 0,rfl,nil_in _ _ _,(Below.refl _ _).alloc (Nat.le_refl _) _⟩
   |true =>
    cases hg:good t with
    |false =>
     rw[getR_form hno (Or.inr (Or.inl hg))]
     rw[hw]at HWH
     rw[hg]at HGO
     clear hl hno hw hl0
     generalize l.length=n at hn h4 hd4 HWH ⊢
     go_enter Tryz.func76,Tryz.ntmps76
     go_wp2_with fail
     refine HWH.out.mono ?_
     rintro e w' ⟨rfl,hw'⟩
     subst w'
     go_wp2_with fail
     refine HGO.out.mono ?_
     rintro e w' ⟨rfl,hw'⟩
     subst w'
     go_wp2_with fail
     refine bodyPost_ret (v:=.agg #[.slice none 0 0,.int .i64 0,.int .i64 1]) (by simp[results,Tryz.results76,go_sem]) rfl ⟨.slice none 0 0,rfl,nil_in _ _ _,(Below.refl _ _).alloc (Nat.le_refl _) _⟩
    |true =>
     by_cases hm:m<0∨400<m
     ·rw[getR_form hno (Or.inr (Or.inr hm))]
      have HIS:=hideB (is_no m 0 400 (w.alloc (.cells #[.slice none 0 0,.int .i64 0,.int .i64 0] 122)) hm)
      rw[hw]at HWH
      rw[hg]at HGO
      clear hl hno hw hg hm hl0
      generalize l.length=n at hn h4 hd4 HWH ⊢
      go_enter Tryz.func76,Tryz.ntmps76
      go_wp2_with fail
      refine HWH.out.mono ?_
      rintro e w' ⟨rfl,hw'⟩
      subst w'
      go_wp2_with fail
      refine HGO.out.mono ?_
      rintro e w' ⟨rfl,hw'⟩
      subst w'
      go_wp2_with fail
      refine HIS.out.mono ?_
      rintro e w' ⟨rfl,hw'⟩
      subst w'
      go_wp2_with fail
      refine bodyPost_ret (v:=.agg #[.slice none 0 0,.int .i64 0,.int .i64 1]) (by simp[results,Tryz.results76,go_sem]) rfl ⟨.slice none 0 0,rfl,nil_in _ _ _,(Below.refl _ _).alloc (Nat.le_refl _) _⟩
     ·obtain⟨k,rfl⟩:∃ k:Nat,m=k:=⟨m.toNat,by omega⟩
      have HIS:=hideB (is_yes k 0 400 (w.alloc (.cells #[.slice none 0 0,.int .i64 0,.int .i64 0] 122)) (by omega) (by omega))
      have HGE:=hideB (l04Get_any l t k a cap _ hl0 (by omega) (whole_right hw) (by omega))
      rw[getR_in hno hw hg (by omega)]
      rw[hw]at HWH
      rw[hg]at HGO
      have hz0:(w.alloc (.cells #[.slice none 0 0,.int .i64 0,.int .i64 0] 122)).heap.size=w.heap.size+1:=by simp
      have O0:=hideB (Out0.new w)
      clear hl hno hw hg hm hl0
      obtain⟨q,hq⟩:∃ q,q=outS (st l t k):=⟨_,rfl⟩
      rw[<-hq]at HGE ⊢
      clear hq
      generalize l.length=n at hn h4 hd4 HWH HGE ⊢
      go_enter Tryz.func76,Tryz.ntmps76
      go_wp2_with fail
      refine HWH.out.mono ?_
      rintro e w' ⟨rfl,hw'⟩
      subst w'
      go_wp2_with fail
      refine HGO.out.mono ?_
      rintro e w' ⟨rfl,hw'⟩
      subst w'
      go_wp2_with fail
      refine HIS.out.mono ?_
      rintro e w' ⟨rfl,hw'⟩
      subst w'
      go_wp2_with fail
      refine HGE.out.mono ?_
      rintro e w2 ⟨v,rfl,hv,hb2⟩
      rw[hz0]at hv hb2
      have V2:=hideB hv
      have B2:=hideB (B0.out.trans (hb2.mono (Nat.le_succ _)))
      have O2:=hideB (O0.out.below hb2 (Nat.lt_succ_self _))
      obtain⟨x,c,rfl,_⟩:=hv.ints
      obtain⟨ql,hql⟩:∃ ql,ql=q.1.length:=⟨_,rfl⟩
      rw[<-hql]at V2 ⊢
      clear hv hb2 hz0 hql
      have c0:=O2.out.c0
      have c1:=O2.out.c1
      have c2:=O2.out.c2
      have f0:=O2.out.fr 0
      have f1:=O2.out.fr 1
      have f2:=O2.out.fr 2
      go_wp2_with fail
      refine bodyPost_ret (v:=.agg #[.slice x ql c,.int .i64 q.2.1,.int .i64 q.2.2]) (by simp[results,Tryz.results76,go_sem,c0,c1,c2]) rfl ⟨.slice x ql c,rfl,?_,?_⟩
      ·have h1:=in_mono (hi':=w2.heap.size) V2.out (Nat.le_succ w.heap.size) (Nat.le_refl _)
       have h2:OwnIn (((w2.setCell ⟨w.heap.size,0,none⟩ (.slice x ql c)).setCell ⟨w.heap.size,1,none⟩ (.int .i64 q.2.1)).setCell ⟨w.heap.size,2,none⟩ (.int .i64 q.2.2)) (w.heap.size+1) w2.heap.size (.slice x ql c) q.1:=by
        rcases V2.out with h|⟨g,cc,hv,hg,hh,ho⟩
        ·exact .inl h
        ·exact .inr ⟨g,cc,hv,hg,hh,((ho.of_heap (heap_setCell_other _ ⟨w.heap.size,0,none⟩ g _ (by simp;omega))).of_heap (heap_setCell_other _ ⟨w.heap.size,1,none⟩ g _ (by simp;omega))).of_heap (heap_setCell_other _ ⟨w.heap.size,2,none⟩ g _ (by simp;omega))⟩
       exact in_mono h2 (Nat.le_succ _) (by simp[World.setCell])
      ·exact((B2.out.setCell (Nat.le_refl _) _).setCell (Nat.le_refl _) _).setCell (Nat.le_refl _) _
end Go.Proofs.YtkgjfdanjmnmbaaGreatDoor.Bi


namespace Go.Proofs.YtkgjfdanjmnmbaaGreatDoor.Bi
open Go.RowKit
open In (Ints)
open St (IsS)
open Nu (ret_strJ own_string bv)
theorem own_lenB {w:World} {B m n:Nat} {e:TypeId} {v:Value} {xs:List Value} (h:w.ownsRow B e 1 v m xs) (hm:m=n):w.ownsRow B e 1 v n xs:=by rw[<-hm];exact h
theorem l04Put_any (l s:List Int) (a a':Option Addr) (cap cap':Nat) (w:World) (hl:Ints w w.heap.size a l) (hs:Ints w w.heap.size a' s) (hm:¬400<s.length) (hw:whole l=true) (hok:∀ x∈s,okS l x) :
  Calls Tryz.prog 156 #[.slice a l.length cap,.slice a' s.length cap'] w fun e w'=>e=.returned (.string ⟨(putL l s).toArray⟩)/\Below w.heap.size w w':=by
 obtain⟨i0,hi0,hz0,hz1,hz2⟩:=info_parts Sb.builderX.infoByte
 have HC:=hideB (codes_spec l a cap w.heap.size w hl (Nat.le_refl _) (whole_right hw))
 have HS:=hideB hs
 have HK:=hideB (whole_ok hw)
 have hn:=whole_len hw
 have HCL:=hideB (codesV_length l)
 have HOK:=hideB (fun (j:Nat) (hj:j<s.length)=>hok _ (List.getElem_mem hj))
 clear hl hs hw hok
 obtain⟨n,hln⟩:∃ n,n=l.length:=⟨_,rfl⟩
 obtain⟨m,hms⟩:∃ m,m=s.length:=⟨_,rfl⟩
 have HLN:=hideB hln
 have HMS:=hideB hms
 rw[<-hln]at hn HC HCL ⊢
 rw[<-hms]at hm ⊢
 clear hln hms
 go_enter Tryz.func156,Tryz.ntmps156
 go_wp2_with fail
 refine HC.out.mono ?_
 rintro e w1 ⟨rfl,hi1,hb1⟩
 have X1:=hideB hi1
 have B1:=hideB hb1
 have z1:w.heap.size<w1.heap.size:=hi1.lt
 clear hi1 hb1
 go_wp2_with fail
 go_loopw [7,6] (fun i v wr=>∃ k:Nat,i=.int .i64 k/\k<=m/\wr.ownsRow w1.heap.size 5 1 v (putL l (s.take k)).length (Lib.byteCells (putL l (s.take k)))/\Below w1.heap.size w1 wr) (fun i _ _=>m-(intOf i).toNat)
 case atStart=>exact⟨0,rfl,Nat.zero_le _,World.ownsRow_made _ _ _ (Nat.le_refl _) (by decide) rfl,(Below.refl _ _).alloc (Nat.le_refl _) _⟩
 case round =>
  obtain⟨k,rfl,hk,hown,hbel⟩:=hrel
  have HO:=hideB hown
  have GB:=hideB hbel
  have hbz:=hbel.size
  clear hown hbel
  by_cases hlt:k<m
  ·have hkl:k<s.length:=by rw[<-HMS.out];exact hlt
   obtain⟨b,off,rfl,hb,hc⟩:=(HS.out.below (B1.out.trans (GB.out.mono (Nat.le_of_lt z1)))).some (by omega)
   have ci:=hc k hkl
   have HM:=hideB (putL_more (l:=l) hkl)
   have ho:=HOK.out k hkl
   obtain⟨x,hx⟩:∃ x,x=s[k]:=⟨_,rfl⟩
   rw[<-hx]at ci HM ho
   clear hc hx
   obtain⟨i,rfl⟩:∃ i:Nat,x=i:=⟨x.toNat,by have:=ho.1;omega⟩
   have hin:i<n:=by have h1:=ho.2.1;have h2:=HLN.out;omega
   have hiv:i<(codesV l).length:=by rw[HCL.out];omega
   have cc:=(X1.out.below GB.out z1).cell hiv
   rw[codes_get l HK.out i hiv]at cc
   have hcl:=codeOf_le l HK.out i
   obtain⟨c,hcc⟩:∃ c,c=codeOf l i:=⟨_,rfl⟩
   have HCC:=hideB hcc
   rw[<-hcc]at cc hcl
   clear hcc ho
   obtain⟨q,hq⟩:∃ q,q=(putL l (s.take k)).length:=⟨_,rfl⟩
   have hqb:q<=4800:=by
    have h1:=putL_le l HK.out (s.take k)
    rw[List.length_take]at h1
    omega
   have HNX:Hid (Lib.byteCells (putL l (s.take k))++Lib.strCells c=Lib.byteCells (putL l (s.take (k+1)))):=by
    unfold Hid
    rw[HM.out,Lib.byteCells_append,Lib.strCells_eq,HCC.out]
    rfl
   have HNL:Hid (q+c.size=(putL l (s.take (k+1))).length):=by
    unfold Hid
    rw[HM.out,List.length_append,hq,HCC.out]
    rfl
   have hown:=HO.out
   rw[<-hq]at hown
   clear hq
   go_wp2_with (at_builtin;refine Lib.wpList_append_own_string _ rfl _ _ 87 9 rfl w1.heap.size 5 i0 Tryz.underlying87 Tryz.underlying9 hi0 hz0 hz1 hz2 _ _ _ rfl hown c rfl ?c3 ?c4 ?c5 ?_)
   case c3=>unfold maxLen;omega
   case c4=>omega
   case c5=>omega
   intro v' w2 hown' hgrow _
   rw[HNX.out]at hown'
   have R2:=hideB (own_lenB hown' HNL.out)
   have B2:=hideB (GB.out.grown hgrow (by omega) (fun k hk=>(hown.lt k hk).1))
   clear hown' hgrow hown
   go_wp2_with fail
   go_roundw
   case rel=>exact⟨k+1,by go_num,by omega,R2.out,B2.out⟩
   case measure=>simp[intOf];omega
  ·have HE:Hid (putL l (s.take k)=putL l s):=by
    unfold Hid
    rw[List.take_of_length_le (by have:=HMS.out;omega)]
   have hcv:=own_string (P:=Tryz.prog) (src:=87) (dst:=9) (putL l (s.take k)) HO.out Tryz.underlying87 Tryz.underlying5 Tryz.underlying9
   rw[HE.out]at hcv
   go_wp2_with fail
   go_ret
   exact⟨rfl,B1.out.trans (GB.out.mono (Nat.le_of_lt z1))⟩
end Go.Proofs.YtkgjfdanjmnmbaaGreatDoor.Bi


namespace Go.Proofs.YtkgjfdanjmnmbaaGreatDoor.Bi
open Go.RowKit
open Sh
open Nu (ret_strJ bv own_string app_below)
def pkL (t:ByteArray) (q:Nat):List UInt8:=(List.range q).map fun j=>UInt8.ofNat (pk t j 8)
theorem pkL_length (t:ByteArray) (q:Nat):(pkL t q).length=q:=by simp[pkL]
theorem pkL_next (t:ByteArray) (q:Nat):pkL t (q+1)=pkL t q++[UInt8.ofNat (pk t q 8)]:=by simp[pkL,List.range_succ]
theorem pkL_all (t:ByteArray):(⟨(pkL t ((t.size+7)/8)).toArray⟩:ByteArray)=packV t:=rfl
theorem pkL_row {w:World} {B q:Nat} {e:TypeId} {v:Value} {t:ByteArray} {h:Nat} (hh:h=pk t q 8) (hr:w.ownsRow B e 1 v (q+1) ((pkL t q).map bv++[.int .u8 (h:Int)])) :
  w.ownsRow B e 1 v (q+1) ((pkL t (q+1)).map bv):=by
 rw[pkL_next,List.map_append,List.map_singleton]
 have:bv (UInt8.ofNat (pk t q 8))=.int .u8 (h:Int):=by
  have:=pk_lt t q 8 (Nat.le_refl _)
  unfold bv
  rw[UInt8.toNat_ofNat',Nat.mod_eq_of_lt (by omega),hh]
 rw[this]
 exact hr
theorem own_len {w:World} {B m n:Nat} {e:TypeId} {v:Value} {xs:List Value} (h:w.ownsRow B e 1 v m xs) (hm:m=n):w.ownsRow B e 1 v n xs:=by rw[<-hm];exact h
theorem packS_yes (t:ByteArray) (w:World) (ht:¬8000<t.size) (hg:good t=true) :
  Calls Tryz.prog 157 #[.string t] w fun e w'=>e=.returned (.string (packV t))/\Below w.heap.size w w':=by
 obtain⟨i0,hi,hz0,hz1,hz2⟩:=info_parts Nu.Tryz.infoJ5
 have HG:=hideB (good_spec t w (by omega))
 rw[hg]at HG
 have HA:=hideB (good_yes hg)
 have hd8:decide (8000<(t.size:Int))=false:=decide_eq_false (by omega)
 clear hg
 go_enter Tryz.func157,Tryz.ntmps157
 go_wp2_with fail
 refine HG.out.mono ?_
 rintro e w' ⟨rfl,hw⟩
 subst w'
 go_wp2_with fail
 go_loopw [4,3] (fun i v wr=>∃ q:Nat,i=.int .i64 (8*(q:Int))/\8*q<=t.size+7/\wr.ownsRow w.heap.size 5 1 v q ((pkL t q).map bv)/\Below w.heap.size w wr) (fun i _ _=>t.size+8-(intOf i).toNat)
 case atStart=>exact⟨0,rfl,by omega,World.ownsRow_made _ _ _ (Nat.le_refl _) (by decide) rfl,(Below.refl _ _).alloc (Nat.le_refl _) _⟩
 case round =>
  obtain⟨q,rfl,hq,hown,hbel⟩:=hrel
  have HO:=hideB hown
  have GB:=hideB hbel
  clear hown hbel
  by_cases hlt:8*q<t.size
  ·have hlt':8*(q:Int)<t.size:=by omega
   go_wp2_with fail
   go_loopw [6,5] (fun i v wr2=>∃ r h:Nat,i=.int .i64 (8*(q:Int)+r)/\v=.int .i64 h/\h=hd t q r/\r<=8/\wr2=wr) (fun i _ _=>8*q+8-(intOf i).toNat)
   case atStart=>exact⟨0,0,by go_num,rfl,rfl,by omega,rfl⟩
   case round =>
    obtain⟨r,h,rfl,rfl,hh,hr,hw⟩:=hrel
    subst hw
    have HH:=hideB hh
    have hle:h<256:=by rw[hh];exact hd_le t q r hr
    clear hh
    by_cases hr8:r<8
    ·by_cases hin:8*q+r<t.size
     ·obtain⟨i,hii⟩:∃ i:Nat,i=8*q+r:=⟨_,rfl⟩
      have hiz:8*(q:Int)+r=i:=by omega
      have hib:i<t.size:=by omega
      obtain⟨y,b0,hy⟩:=byte_at t i hib
      have h01:=HA.out i (by omega)
      rw[<-hy]at h01
      have h02:(48:Int)<=y.toNat/\(y.toNat:Int)<=49:=by omega
      have HN:Hid (2*(h:Int)+((y.toNat:Int)-48)=((hd t q (r+1):Nat):Int)):=by
       unfold Hid
       simp only[hd]
       rw[<-HH.out,<-hii]
       unfold one
       by_cases e:bt t i=49
       ·rw[if_pos ⟨by omega,e⟩]
        omega
       ·rw[if_neg (fun x=>e x.2)]
        omega
      have HI:=hideB hii
      clear hy h01 hii
      rw[hiz]
      have hi8:(i:Int)<8*(q:Int)+8:=by omega
      have hit:(i:Int)<t.size:=by omega
      go_wp2_with fail
      go_roundw
      case rel=>exact⟨r+1,hd t q (r+1),by go_num,by rw[<-HN.out],rfl,by omega,trivial⟩
      case measure=>simp[intOf];omega
     ·have HN:Hid (2*(h:Int)=((hd t q (r+1):Nat):Int)):=by
       unfold Hid
       simp only[hd]
       rw[<-HH.out,one_behind t _ (by omega)]
       omega
      have hit:¬8*(q:Int)+r<t.size:=by omega
      go_wp2_with fail
      go_roundw
      case rel=>exact⟨r+1,hd t q (r+1),by go_num,by rw[<-HN.out],rfl,by omega,trivial⟩
      case measure=>simp[intOf];omega
    ·have HE:Hid (h=pk t q 8):=by
      unfold Hid
      rw[HH.out,show r=8 by omega,hd_all]
     have hge:¬8*(q:Int)+r<8*(q:Int)+8:=by omega
     have hown:=HO.out
     have hbz:=GB.out.size
     go_wp2_with (at_builtin;refine wpList_append_own _ rfl (.tmp 42) (.tmp 45) 87 rfl w.heap.size 5 i0 (.int .u8 0) 1 1 Tryz.underlying87 hi hz0 hz1 hz2 rfl (by decide) _ _ _ rfl (hown.alloc _) ⟨wr.heap.size,0,none⟩ 1 1 [.int .u8 (h:Int)] rfl rfl ?c1 ?c2 ?c3 ?c4 ?c5 ?_)
     case c2=>rfl
     case c3=>unfold maxLen;omega
     case c4=>omega
     case c5=>omega
     intro v' w1 hown' hgrow _
     have H1:=hideB (app_below GB.out (Nat.le_refl _) HO.out hgrow)
     have R1:=hideB (pkL_row HE.out hown')
     clear hown' hgrow hown
     go_wp2_with fail
     go_roundw
     case rel=>exact⟨q+1,by go_num,by omega,R1.out,H1.out⟩
     case measure=>simp[intOf];omega
  ·have hlt':¬8*(q:Int)<t.size:=by omega
   have HQ:Hid (q=(t.size+7)/8):=by
    unfold Hid
    omega
   have hcv:=own_string (P:=Tryz.prog) (src:=87) (dst:=9) (pkL t q) (own_len HO.out (pkL_length t q).symm) Tryz.underlying87 Tryz.underlying5 Tryz.underlying9
   have HE:Hid ((⟨(pkL t q).toArray⟩:ByteArray)=packV t):=by
    unfold Hid
    rw[HQ.out]
    exact pkL_all t
   rw[HE.out]at hcv
   go_wp2_with fail
   go_ret
   exact⟨rfl,GB.out⟩
theorem pack_spec (t:ByteArray) (w:World) (ht:t.size<=1048576) :
  Calls Tryz.prog 157 #[.string t] w fun e w'=>e=.returned (.string (packR t))/\Below w.heap.size w w':=by
 by_cases h:8000<t.size
 ·have HE:=hideB (packR_no t (Or.inl h))
  go_enter Tryz.func157,Tryz.ntmps157
  go_wp2_with fail
  go_ret
  exact⟨ret_strJ HE.out.symm,Below.refl _ _⟩
 ·cases hg:good t with
  |false =>
   have HE:=hideB (packR_no t (Or.inr hg))
   have HG:=hideB (good_spec t w (by omega))
   rw[hg]at HG
   go_enter Tryz.func157,Tryz.ntmps157
   go_wp2_with fail
   refine HG.out.mono ?_
   rintro e w' ⟨rfl,hw⟩
   subst w'
   go_wp2_with fail
   go_ret
   exact⟨ret_strJ HE.out.symm,Below.refl _ _⟩
  |true =>
   rw[packR_yes t h hg]
   exact packS_yes t w h hg
end Go.Proofs.YtkgjfdanjmnmbaaGreatDoor.Bi

