/- Texts put together: InclSpec, LsFits, LsFitsS, HrWith, HrLess, HrStrk, TkTellS, TkGame, KqAdd, HrGame. -/
import Derived.Test.YtpddanmnlkcdpaaGreatDoorHz40
import Derived.Test.YtpddanmnlkcdpaaGreatDoorHz18
import Derived.Lib.QuietBelow
import Derived.BigQuiet
import Derived.Deep.QuietTactic
import Derived.Test.YtpddanmnlkcdpaaGreatDoorHz44
import Derived.Test.YtpddanmnlkcdpaaGreatDoorHz47
import Derived.Test.YtpddanmnlkcdpaaGreatDoorHz34
import Derived.Test.YtpddanmnlkcdpaaGreatDoorHz43
import Derived.Test.YtpddanmnlkcdpaaGreatDoorHz33
set_option maxRecDepth 100000
set_option maxHeartbeats 8000000
namespace Go.Proofs.YtpddanmnlkcdpaaGreatDoor.Tr
open Go.RowKit
open St
open Sh (nodeV nodeV_size l03Node_any)
theorem od_pos (a:Nat) (h:0<a):od a%2=1/\0<od a/\od a<=a:=by
 induction a using Nat.strongRecOn with
 |ind a ih =>
  by_cases he:a%2=0
  ·rw[od_even a he h]
   have:=ih (a/2) (by omega) (by omega)
   omega
  ·rw[od_odd a (by omega)]
   omega
/-- the loop,its conditions met -/
theorem incl_at (leaf root:ByteArray) (i0 n0:Nat) (p:List ByteArray) (b off cap B:Nat) (w:World) (hn:n0<9223372036854775808) (hin:i0<n0) (hp:p.length<=63) (hl:leaf.size=32) (hr:root.size=32) (hw:wide p=true) (hb:b<B) (hc0:∀ j (h:j<p.length),w.cell? ⟨b,off+j,none⟩=some (.string p[j])) (hB:B<=w.heap.size) :
  Calls Tryz.prog 133 #[.string leaf,.int .i64 i0,.int .i64 n0,.slice (some ⟨b,off,none⟩) p.length cap,.string root] w fun e w'=>e=.returned (.bool (decide (incl n0 i0 p leaf=some root)))/\Below w.heap.size w w':=by
 have hs:Strs w B (some ⟨b,off,none⟩) p:=.inr ⟨b,off,rfl,hb,hc0⟩
 have HWd:=hideT (wide_spec _ cap p w B hs (by omega))
 rw[hw]at HWd
 have HC:=hideT hc0
 have HW:=hideT ((wide_yes p).1 hw)
 clear hs hw hc0
 obtain⟨m,hm⟩:∃ m,m=p.length:=⟨_,rfl⟩
 have HM:=hideT hm
 rw[<-hm]at hp HWd ⊢
 clear hm
 have g1:¬(n0:Int)<=i0:=by omega
 have g2:¬n0<=i0:=by omega
 have b1:decide ((63:Int)<(m:Int))=false:=by simp;omega
 have b2:decide ((i0:Int)<0)=false:=by simp
 have b3:decide (n0<=i0)=false:=by simp;omega
 have hn':n0<9223372036854775808:=hn
 go_enter Tryz.func133,Tryz.ntmps133
 go_wp2_with fail
 refine HWd.out.mono ?_
 rintro e w1 ⟨rfl,hw1⟩
 subst w1
 go_wp2_with fail
 go_loopw [14,11,12,13] (fun kv av lv hv wr=>∃ (k x y:Nat) (h:ByteArray),kv=.int .i64 k/\av=.int .i64 x/\lv=.int .i64 y/\hv=.string h/\k<=m/\x<=y/\y<n0/\h.size=32/\incl n0 i0 p leaf=climbS x y (p.drop k) h/\Below w.heap.size w wr) (fun kv _ _ _ _=>m-(intOf kv).toNat)
 case atStart =>
  exact⟨0,i0,n0-1,leaf,rfl,rfl,by go_num,rfl,by omega,by omega,by omega,hl,rfl,Below.refl _ _⟩
 case round =>
  obtain⟨k,x,y,h,rfl,rfl,rfl,rfl,hk,hxy,hy,hh,hinc,hbel⟩:=hrel
  have HB:=hideT hbel
  have HI:=hideT hinc
  clear hbel hinc
  by_cases hlt:k<m
  ·have hkl:k<p.length:=by rw[<-HM.out];exact hlt
   have ci:=(HB.out.cell (p:=⟨b,off+k,none⟩) (by simp;omega)).trans (HC.out k hkl)
   have HSZ:=hideT (HW.out k hkl)
   have HD:=hideT (List.drop_eq_getElem_cons hkl)
   obtain⟨s,hse⟩:∃ s,s=p[k]:=⟨_,rfl⟩
   rw[<-hse]at ci HSZ HD
   clear hse
   have hs32:=HSZ.out
   by_cases hy0:y=0
   ·subst hy0
    have HE:Hid (decide (incl n0 i0 p leaf=some root)=false):=by
     unfold Hid
     rw[HI.out,HD.out,climbS_zero _ _ _ (by simp)]
     rfl
    go_wp2_with fail
    go_ret
    exact⟨ret_bool HE.out.symm,HB.out⟩
   ·have gy:¬(y:Int)=0:=by omega
    by_cases hodd:x%2=1
    ·have go1:(x:Int)%2=1:=by omega
     have HE:=hideT (climbS_odd x y s (p.drop (k+1)) h hy0 hodd)
     go_wp2_with fail
     refine(l03Node_any s h wr (by omega) (by omega)).mono ?_
     rintro e w2 ⟨rfl,hb2⟩
     have HB2:=hideT (HB.out.trans (hb2.mono HB.out.size))
     clear hb2 ci
     go_wp2_with fail
     go_loopw [11,12] (fun av lv wi=>av=.int .i64 x/\lv=.int .i64 y/\wi=w2) (fun _ _ _=>0)
     case atStart=>exact⟨rfl,rfl,rfl⟩
     case round =>
      obtain⟨rfl,rfl,hwi⟩:=hrel
      subst hwi
      go_wp2_with fail
      go_roundw
      case rel =>
       refine⟨k+1,x/2,y/2,nodeV s h,by go_num,by go_num,by go_num,rfl,by omega,by omega,by omega,nodeV_size _ _,?_,HB2.out⟩
       rw[HI.out,HD.out,HE.out]
      case measure=>simp[intOf];omega
    ·have go1:(x:Int)%2=0:=by omega
     by_cases hxy2:x=y
     ·have gxy:(x:Int)=y:=by omega
      have HE:Hid (climbS x y (s :: p.drop (k+1)) h=climbS (od x/2) (od x/2) (p.drop (k+1)) (nodeV s h)):=by
       unfold Hid
       rw[<-hxy2]
       exact climbS_end x s (p.drop (k+1)) h (by omega) (by omega)
      have HXY:=hideT hxy2
      have HO:=hideT (od_pos x (by omega))
      go_wp2_with fail
      refine(l03Node_any s h wr (by omega) (by omega)).mono ?_
      rintro e w2 ⟨rfl,hb2⟩
      have HB2:=hideT (HB.out.trans (hb2.mono HB.out.size))
      clear hb2 ci
      go_wp2_with fail
      go_loopw [11,12] (fun av lv wi=>∃ z:Nat,av=.int .i64 z/\lv=.int .i64 z/\0<z/\z<=x/\od z=od x/\wi=w2) (fun av _ _=>(intOf av).toNat)
      case atStart=>exact⟨x,by rw[HXY.out],by rw[HXY.out],by omega,Nat.le_refl _,rfl,rfl⟩
      case round =>
       obtain⟨z,rfl,rfl,hz0,hzx,hod,hwi⟩:=hrel
       subst hwi
       have HOD:=hideT hod
       clear hod
       have gz:0<(z:Int):=by omega
       by_cases hze:z%2=0
       ·have gz2:(z:Int)%2=0:=by omega
        go_wp2_with fail
        go_roundw
        case rel=>exact⟨z/2,by go_num,by go_num,by omega,by omega,by rw[<-od_even z hze hz0];exact HOD.out,trivial⟩
        case measure=>simp[intOf];omega
       ·have gz2:(z:Int)%2=1:=by omega
        have HZ:Hid (od x=z):=by
         unfold Hid
         rw[<-HOD.out]
         exact od_odd z (by omega)
        go_wp2_with fail
        go_roundw
        case rel =>
         refine⟨k+1,z/2,z/2,nodeV s h,by go_num,by go_num,by go_num,rfl,by omega,by omega,by omega,nodeV_size _ _,?_,HB2.out⟩
         rw[HI.out,HD.out,HE.out,HZ.out]
        case measure=>simp[intOf];omega
     ·have gxy:¬(x:Int)=y:=by omega
      have HE:=hideT (climbS_even x y s (p.drop (k+1)) h hy0 (by omega) hxy2)
      go_wp2_with fail
      refine(l03Node_any h s wr (by omega) (by omega)).mono ?_
      rintro e w2 ⟨rfl,hb2⟩
      have HB2:=hideT (HB.out.trans (hb2.mono HB.out.size))
      clear hb2 ci
      go_wp2_with fail
      go_roundw
      case rel =>
       refine⟨k+1,x/2,y/2,nodeV h s,by go_num,by go_num,by go_num,rfl,by omega,by omega,by omega,nodeV_size _ _,?_,HB2.out⟩
       rw[HI.out,HD.out,HE.out]
      case measure=>simp[intOf];omega
  ·have HD:Hid (p.drop k=[]):=by
    unfold Hid
    exact List.drop_eq_nil_of_le (by have:=HM.out;omega)
   by_cases hy0:y=0
   ·subst hy0
    have HE:Hid (decide (incl n0 i0 p leaf=some root)=decide (h=root)):=by
     unfold Hid
     rw[HI.out,HD.out,climbS_nil,if_pos rfl]
     simp
    go_wp2_with fail
    go_ret
    exact⟨ret_bool (by rw[HE.out];exact str_eq _ _),HB.out⟩
   ·have gy:((y:Int)==0)=false:=by simp;omega
    have HE:Hid (decide (incl n0 i0 p leaf=some root)=false):=by
     unfold Hid
     rw[HI.out,HD.out,climbS_nil,if_neg hy0]
     rfl
    go_wp2_with fail
    go_ret
    exact⟨ret_bool HE.out.symm,HB.out⟩
theorem incl_empty (leaf root:ByteArray) (i0 n0:Nat) (a:Option Addr) (cap:Nat) (w:World) (hn:n0<9223372036854775808) (hin:i0<n0) (hl:leaf.size=32) (hr:root.size=32) :
  Calls Tryz.prog 133 #[.string leaf,.int .i64 i0,.int .i64 n0,.slice a 0 cap,.string root] w fun e w'=>e=.returned (.bool (decide (incl n0 i0 [] leaf=some root)))/\Below w.heap.size w w':=by
 have HWd:=hideT (wide_spec a cap [] w 0 (.inl rfl) (by simp))
 have g1:¬(n0:Int)<=i0:=by omega
 rw[show wide []=true from rfl]at HWd
 go_enter Tryz.func133,Tryz.ntmps133
 go_wp2_with fail
 refine HWd.out.mono ?_
 rintro e w1 ⟨rfl,hw1⟩
 subst w1
 go_wp2_with fail
 go_loopw [14,11,12,13] (fun kv av lv hv wr=>kv=.int .i64 0/\av=.int .i64 i0/\lv=.int .i64 ((n0:Int)-1)/\hv=.string leaf/\wr=w) (fun _ _ _ _ _=>0)
 case atStart=>exact⟨rfl,rfl,rfl,rfl,rfl⟩
 case round =>
  obtain⟨rfl,rfl,rfl,rfl,hw⟩:=hrel
  subst hw
  by_cases h1:n0=1
  ·subst h1
   obtain rfl:i0=0:=by omega
   have HE:Hid (decide (incl 1 0 [] leaf=some root)=decide (leaf=root)):=by
    unfold Hid
    rw[incl_one,if_pos rfl]
    simp
   go_wp2_with fail
   go_ret
   exact⟨ret_bool (by rw[HE.out];exact str_eq _ _),Below.refl _ _⟩
  ·have HE:Hid (decide (incl n0 i0 [] leaf=some root)=false):=by
    unfold Hid
    rw[incl_none n0 i0 leaf (by omega)]
    rfl
   have gy:((n0:Int)-1==0)=false:=by simp;omega
   go_wp2_with fail
   go_ret
   exact⟨ret_bool HE.out.symm,Below.refl _ _⟩
theorem incl_in (leaf root:ByteArray) (i0 n0:Nat) (p:List ByteArray) (a:Option Addr) (cap B:Nat) (w:World) (hn:n0<9223372036854775808) (hin:i0<n0) (hp:p.length<=63) (hl:leaf.size=32) (hr:root.size=32) (hw:wide p=true) (hs:Strs w B a p) (hB:B<=w.heap.size) :
  Calls Tryz.prog 133 #[.string leaf,.int .i64 i0,.int .i64 n0,.slice a p.length cap,.string root] w fun e w'=>e=.returned (.bool (decide (incl n0 i0 p leaf=some root)))/\Below w.heap.size w w':=by
 rcases hs with rfl|⟨b,off,rfl,hb,hc⟩
 ·exact incl_empty leaf root i0 n0 a cap w hn hin hl hr
 ·exact incl_at leaf root i0 n0 p b off cap B w hn hin hp hl hr hw hb hc hB
theorem incl_spec (leaf root:ByteArray) (i n:Int) (p:List ByteArray) (a:Option Addr) (cap B:Nat) (w:World) (hn:n<9223372036854775808) (hp:p.length<=1048576) (hs:Strs w B a p) (hB:B<=w.heap.size) :
  Calls Tryz.prog 133 #[.string leaf,.int .i64 i,.int .i64 n,.slice a p.length cap,.string root] w fun e w'=>e=.returned (.bool (inclB leaf i n p root))/\Below w.heap.size w w':=by
 have HD:=hideT (wide_spec a cap p w B hs hp)
 have HIN:=hideT (fun (i0 n0:Nat) h1 h2 h3 h4 h5 h6=>incl_in leaf root i0 n0 p a cap B w h1 h2 h3 h4 h5 h6 hs hB)
 have HPath:=hideT (inclB_path leaf i n p root)
 clear hs
 by_cases h63:63<p.length
 ·have HF:=hideT (HPath.out (by rw[decide_eq_false (by omega)];rfl))
  generalize p.length=m at hp HD h63 ⊢
  go_enter Tryz.func133,Tryz.ntmps133
  go_wp2_with fail
  go_ret
  exact⟨ret_bool HF.out.symm,Below.refl _ _⟩
 ·cases h3:wide p with
  |false =>
   have HF:=hideT (HPath.out (by rw[h3,Bool.and_false]))
   rw[h3]at HD
   clear h3
   generalize p.length=m at hp HD h63 ⊢
   go_enter Tryz.func133,Tryz.ntmps133
   go_wp2_with fail
   refine HD.out.mono ?_
   rintro e w1 ⟨rfl,hw⟩
   subst w1
   go_wp2_with fail
   go_ret
   exact⟨ret_bool HF.out.symm,Below.refl _ _⟩
  |true =>
   have HT:Hid ((decide (p.length<=63) && wide p)=true):=by
    unfold Hid
    rw[h3,decide_eq_true (by omega)]
    rfl
   by_cases hl:leaf.size=32
   ·by_cases hr:root.size=32
    ·by_cases hi0:i<0
     ·have HF:=hideT (inclB_low leaf i n p root hi0)
      rw[h3]at HD
      clear h3 HIN
      generalize p.length=m at hp HD h63 ⊢
      go_enter Tryz.func133,Tryz.ntmps133
      go_wp2_with fail
      refine HD.out.mono ?_
      rintro e w1 ⟨rfl,hw⟩
      subst w1
      go_wp2_with fail
      go_ret
      exact⟨ret_bool HF.out.symm,Below.refl _ _⟩
     ·by_cases hin:i<n
      ·obtain⟨i',rfl⟩:∃ k:Nat,i=k:=⟨i.toNat,by omega⟩
       obtain⟨n',rfl⟩:∃ k:Nat,n=k:=⟨n.toNat,by omega⟩
       rw[inclB_in leaf i' n' p root hl hr HT.out (by omega)]
       exact HIN.out i' n' (by omega) (by omega) (by omega) hl hr h3
      ·have HF:=hideT (inclB_high leaf i n p root hin)
       have hin':n<=i:=by omega
       rw[h3]at HD
       clear h3 HIN
       generalize p.length=m at hp HD h63 ⊢
       go_enter Tryz.func133,Tryz.ntmps133
       go_wp2_with fail
       refine HD.out.mono ?_
       rintro e w1 ⟨rfl,hw⟩
       subst w1
       go_wp2_with fail
       go_ret
       exact⟨ret_bool HF.out.symm,Below.refl _ _⟩
    ·have HF:=hideT (inclB_root leaf i n p root hr)
     rw[h3]at HD
     clear h3 HIN
     generalize p.length=m at hp HD h63 ⊢
     go_enter Tryz.func133,Tryz.ntmps133
     go_wp2_with fail
     refine HD.out.mono ?_
     rintro e w1 ⟨rfl,hw⟩
     subst w1
     go_wp2_with fail
     go_ret
     exact⟨ret_bool HF.out.symm,Below.refl _ _⟩
   ·have HF:=hideT (inclB_leaf leaf i n p root hl)
    rw[h3]at HD
    clear h3 HIN
    generalize p.length=m at hp HD h63 ⊢
    go_enter Tryz.func133,Tryz.ntmps133
    go_wp2_with fail
    refine HD.out.mono ?_
    rintro e w1 ⟨rfl,hw⟩
    subst w1
    go_wp2_with fail
    go_ret
    exact⟨ret_bool HF.out.symm,Below.refl _ _⟩
end Go.Proofs.YtpddanmnlkcdpaaGreatDoor.Tr


namespace Go.Proofs.YtpddanmnlkcdpaaGreatDoor.Ls
open Go.RowKit
open Bk (cnt count_any)
open Bi (is_yes is_no)
open Tr (inclB incl_impl incl_spec inclB_leaf)
open Sh (Vars leafR leafV leafR_no leafR_yes leaf_impl l03Leaf_any)
open St (Strs)
def fitsB (z b:Int) (r:ByteArray) (i:Int) (t:ByteArray) (p:List ByteArray):Bool:=inclB (leafR t) i ((countN z b r:Nat):Int) p r
theorem mixedF:Tryz.prog.follows .mixedOrders=true:=by kernel_rfl
theorem vars_keepF {w w':World} (h:Vars w) (hb:Below w.heap.size w w'):Vars w':=h.below hb h.two
theorem inclB_range {leaf:ByteArray} {i n:Int} {p:List ByteArray} {root:ByteArray} (h:¬(0<=i/\i<n)):inclB leaf i n p root=false:=by
 unfold inclB
 rw[<-Bool.not_eq_true]
 simp only[Bool.and_eq_true,decide_eq_true_eq]
 exact fun q=>h ⟨q.1.1.2,q.1.2⟩
theorem inclB_long {leaf:ByteArray} {i n:Int} {p:List ByteArray} {root:ByteArray} (h:63<p.length):inclB leaf i n p root=false:=by
 unfold inclB
 rw[<-Bool.not_eq_true]
 simp only[Bool.and_eq_true,decide_eq_true_eq]
 exact fun q=>by have:=q.1.1.1.2.1;omega
theorem fits_piece {z b:Int} {r:ByteArray} {i:Int} {t:ByteArray} {p:List ByteArray} (h:100<t.size):fitsB z b r i t p=false:=by
 unfold fitsB
 rw[leafR_no t h]
 exact inclB_leaf _ _ _ _ _ (by decide)
theorem fits_path {z b:Int} {r:ByteArray} {i:Int} {t:ByteArray} {p:List ByteArray} (h:63<p.length):fitsB z b r i t p=false:=inclB_long h
theorem fits_impl (z b:Int) (r:ByteArray) (i:Int) (t:ByteArray) (p:List ByteArray) (a:Option Addr) (cap m:Nat) (w:World) (ht:t.size<=maxLen) (hm:m=p.length) (hp:m<=1048576) (hcap:m<=cap) (hs:Strs w w.heap.size a p) (hV:Vars w) :
  Calls Tryz.prog 138 #[lV z b r,.int .i64 i,.string t,.slice a m cap] w fun e w'=>e=.returned (.bool (fitsB z b r i t p))/\Below w.heap.size w w':=by
 have HA:Hid (Below w.heap.size w (w.alloc (.cells #[.int .i64 z,.int .i64 b,.string r] 30))):=(Below.refl _ _).alloc (Nat.le_refl _) _
 have HX:Hid ((w.alloc (.cells #[.int .i64 z,.int .i64 b,.string r] 30)).heap[w.heap.size]? = some (.cells #[.int .i64 z,.int .i64 b,.string r] 30 (0,0))):=heap_alloc_new w _
 have HC:=hideL (fun W=>count_impl z b r W)
 have HL:=hideL (fun W h=>leaf_impl t W ht h)
 have HCL:=countN_le z b r
 have HI:Hid (∀ W,Below w.heap.size w W->Calls Tryz.prog 174 #[.string (leafR t),.int .i64 i,.int .i64 (countN z b r:Nat),.slice a m cap,.string r] W fun e w'=>e=.returned (.bool (fitsB z b r i t p))/\Below W.heap.size W w'):=fun W h=>by
  have:=incl_impl (leafR t) r i (countN z b r:Nat) p a cap W.heap.size W (by omega) (by omega) (by omega) ((hs.below h).mono h.size) (Nat.le_refl _) (vars_keepF hV h)
  rw[<-hm]at this
  exact this
 have HV:Hid (∀ W,Below w.heap.size w W->Vars W):=fun W h=>vars_keepF hV h
 have hmx:=mixedF
 clear hs hV hm
 unfold lV at HC ⊢
 generalize fitsB z b r i t p=Q at HI ⊢
 generalize leafR t=lf at HI HL
 generalize countN z b r=cn at HI HC
 go_enter Tryz.func138,Tryz.ntmps138
 go_wp2_with fail
 generalize hww:w.alloc (.cells #[.int .i64 z,.int .i64 b,.string r] 30)=wa at HA HX ⊢
 clear hww
 obtain⟨c0,c1,c2⟩:=cells3 HX.out
 generalize w.heap.size=gx at c0 c1 c2 ⊢
 have g0:=fun d os=>cell_regrown c0 d os
 have g1:=fun d os=>cell_regrown c1 d os
 have g2:=fun d os=>cell_regrown c2 d os
 refine wp_region_quiet_below (by assumption) (by kernel_rfl) ?_
 repeat (quiet_step (first|(go_at_call 175;exact Calls.regrown_of (HL.out _ (HV.out _ (lowL HA.out (below_regrown _ _ _)))))|(go_at_call 68;exact Calls.regrown_of (HC.out _))|(go_at_call 174;exact Calls.regrown_of (HI.out _ (lowL HA.out (below_regrown _ _ _))))))
 refine wpQuiet_nil ?_
 intro _ hw'
 obtain⟨⟨dq,osq⟩,hw''⟩:=hw'
 subst hw''
 have KQ:=hideL (below_regrown wa dq osq)
 generalize Go.Sort.grow (redrawn wa dq) osq=w8 at KQ ⊢
 clear g0 g1 g2 c0 c1 c2
 go_wp2_with fail
 go_ret
 exact⟨rfl,lowL HA.out KQ.out⟩
end Go.Proofs.YtpddanmnlkcdpaaGreatDoor.Ls


namespace Go.Proofs.YtpddanmnlkcdpaaGreatDoor.Ls
open Go.RowKit
open Bk (cnt count_any)
open Bi (is_yes is_no)
open Tr (inclB incl_spec)
open Sh (leafR leafV leafR_yes l03Leaf_any)
open St (Strs)
theorem calls_below {P:Program} {f:FuncId} {args:Array Value} {W:World} {v:Value} (h:Calls P f args W fun e w'=>e=.returned v/\w'=W):Calls P f args W fun e w'=>e=.returned v/\Below W.heap.size W w' :=
 h.mono fun e w' q=>⟨q.1,by rw[q.2];exact Below.refl _ _⟩
theorem calls_drew {P:Program} {f:FuncId} {args:Array Value} {W:World} {v:Value} (h:Calls P f args W fun e w'=>e=.returned v/\w'=W):Calls P f args W fun e w'=>e=.returned v/\∃ n,w'=W.drewN n :=
 h.mono fun _ _ q=>⟨q.1,0,q.2⟩
theorem l07Fits_spec (q k:Nat) (r:ByteArray) (i:Int) (t:ByteArray) (p:List ByteArray) (a:Option Addr) (cap m:Nat) (w:World) (hr:rightB q k r=true) (ht:t.size<=8000) (hm:m=p.length) (hp:m<=1048576) (hs:Strs w w.heap.size a p) :
  Calls Tryz.prog 104 #[lV q k r,.int .i64 i,.string t,.slice a m cap] w fun e w'=>e=.returned (.bool (fitsB q k r i t p))/\Below w.heap.size w w':=by
 have h:=rightB_yes hr
 have HA:Hid (Below w.heap.size w (w.alloc (.cells #[.int .i64 q,.int .i64 k,.string r] 30))):=(Below.refl _ _).alloc (Nat.le_refl _) _
 have HX:Hid ((w.alloc (.cells #[.int .i64 q,.int .i64 k,.string r] 30)).heap[w.heap.size]? = some (.cells #[.int .i64 q,.int .i64 k,.string r] 30 (0,0))):=heap_alloc_new w _
 have HC:=hideL (fun W=>calls_below (count_any q k W (by omega) (by omega) (by omega)))
 have HCq:=hideL (fun W=>calls_drew (count_any q k W (by omega) (by omega) (by omega)))
 obtain⟨hcn,hcl⟩:=countN_yes hr
 have HL:=hideL (fun W=>l03Leaf_any t W ht)
 have HFE:Hid (fitsB q k r i t p=inclB (leafR t) i ((cnt q k:Nat):Int) p r):=by unfold Hid fitsB;rw[hcn]
 have HI:Hid (∀ W,Below w.heap.size w W->Calls Tryz.prog 133 #[.string (leafV t),.int .i64 i,.int .i64 (cnt q k:Nat),.slice a m cap,.string r] W fun e w'=>e=.returned (.bool (inclB (leafV t) i ((cnt q k:Nat):Int) p r))/\Below W.heap.size W w'):=fun W h=>by
  have:=incl_spec (leafV t) r i (cnt q k:Nat) p a cap W.heap.size W (by omega) (by omega) ((hs.below h).mono h.size) (Nat.le_refl _)
  rw[<-hm]at this
  exact this
 have hmx:=mixedF
 clear hs hm hr h hcn
 generalize cnt q k=cn at HC HCq HI HFE hcl
 have hsub:IntKind.i64.wrap ((cn:Int)-1)=(cn:Int)-1:=by rw[IntKind.wrap_i64];omega
 by_cases hi:0<=i/\i<=(cn:Int)-1
 ·have HIS:=hideL (fun W=>calls_below (is_yes i 0 ((cn:Int)-1) W hi.1 hi.2))
  have HISq:=hideL (fun W=>calls_drew (is_yes i 0 ((cn:Int)-1) W hi.1 hi.2))
  by_cases h1:t.size<=100
  ·have HQ:Hid (fitsB q k r i t p=inclB (leafV t) i ((cn:Nat):Int) p r):=by rw[HFE.out,leafR_yes t (by omega)];rfl
   have h1':decide ((t.size:Int)<=100)=true:=by simp;omega
   have h1i:(t.size:Int)<=100:=by omega
   rw[HQ.out]
   clear HQ HFE hi
   generalize inclB (leafV t) i ((cn:Nat):Int) p r=Q at HI ⊢
   generalize leafV t=lf at HI HL
   unfold lV
   go_enter Tryz.func104,Tryz.ntmps104
   go_wp2_with fail
   generalize hww:w.alloc (.cells #[.int .i64 q,.int .i64 k,.string r] 30)=wa at HA HX ⊢
   clear hww
   obtain⟨c0,c1,c2⟩:=cells3 HX.out
   generalize w.heap.size=gx at c0 c1 c2 ⊢
   have g0:=fun d os=>cell_regrown c0 d os
   have g1:=fun d os=>cell_regrown c1 d os
   have g2:=fun d os=>cell_regrown c2 d os
   refine wp_region_quiet_below (by assumption) (by kernel_rfl) ?_
   repeat (quiet_step (first|(go_at_call 102;exact Calls.regrown_of (HC.out _))|(go_at_call 53;exact Calls.regrown_of (HIS.out _))|(go_at_call 134;exact Calls.regrown_of (HL.out _))|(go_at_call 133;exact Calls.regrown_of (HI.out _ (lowL HA.out (below_regrown _ _ _))))))
   refine wpQuiet_nil ?_
   intro _ hw'
   obtain⟨⟨dq,osq⟩,hw''⟩:=hw'
   subst hw''
   have KQ:=hideL (below_regrown wa dq osq)
   generalize Go.Sort.grow (redrawn wa dq) osq=w8 at KQ ⊢
   clear g0 g1 g2 c0 c1 c2
   go_wp2_with fail
   go_ret
   exact⟨rfl,lowL HA.out KQ.out⟩
  ·have HQ:=hideL (fits_piece (z:=q) (b:=k) (r:=r) (i:=i) (p:=p) (t:=t) (by omega))
   have h1d:decide ((t.size:Int)<=100)=false:=by simp;omega
   have h1n:decide (t.size<=100)=false:=by simp;omega
   have h1i:¬(t.size:Int)<=100:=by omega
   rw[HQ.out]
   clear HQ HFE hi HI HL
   unfold lV
   go_enter Tryz.func104,Tryz.ntmps104
   go_wp2_with fail
   generalize hww:w.alloc (.cells #[.int .i64 q,.int .i64 k,.string r] 30)=wa at HA HX ⊢
   clear hww
   obtain⟨c0,c1,c2⟩:=cells3 HX.out
   generalize w.heap.size=gx at c0 c1 c2 ⊢
   go_quiet (first|(go_at_call 102;refine Calls.quiet_of (HCq.out _))|(go_at_call 53;refine Calls.quiet_of (HISq.out _)))
   all_goals (try go_wp2_with fail)
   all_goals go_ret
   all_goals exact⟨rfl,lowL HA.out (below_drewN (Below.refl _ _) _)⟩
 ·have HQ:Hid (fitsB q k r i t p=false):=by rw[HFE.out];exact inclB_range (by omega)
  have HISq:Hid (∀ W,_):=fun W=>calls_drew (is_no i 0 ((cn:Int)-1) W (by omega))
  rw[HQ.out]
  clear HQ HFE hi HI HL
  unfold lV
  go_enter Tryz.func104,Tryz.ntmps104
  go_wp2_with fail
  generalize hww:w.alloc (.cells #[.int .i64 q,.int .i64 k,.string r] 30)=wa at HA HX ⊢
  clear hww
  obtain⟨c0,c1,c2⟩:=cells3 HX.out
  generalize w.heap.size=gx at c0 c1 c2 ⊢
  go_quiet (first|(go_at_call 102;refine Calls.quiet_of (HCq.out _))|(go_at_call 53;refine Calls.quiet_of (HISq.out _)))
  all_goals (try go_wp2_with fail)
  all_goals go_ret
  all_goals exact⟨rfl,lowL HA.out (below_drewN (Below.refl _ _) _)⟩
end Go.Proofs.YtpddanmnlkcdpaaGreatDoor.Ls


namespace Go.Proofs.YtpddanmnlkcdpaaGreatDoor.Hr
open Go.RowKit
open Kp (hideK ownI_alloc ownI_lit news_take news_drop ints_one cells5 Cx)
open Pe
open Pl
open In (Ints OwnI IsO one_newI one_cellI app_one)
open In.Tryz (infoI2)
open Tr (wpList_append_opt)
theorem posI_nil (x:Int):posI [] x=0:=rfl
theorem not_here {l:List Int} {x:Int} {P:Nat} (hr:RisI l) (h1:∀ t (h:t<l.length),t<P->l[t]<x) (h2:∀ (h:P<l.length),x<l[P]):¬x∈l:=fun hx=>by
 obtain⟨t,ht,e⟩:=List.getElem_of_mem hx
 by_cases h:t<P
 ·have:=h1 t ht h;omega
 ·by_cases e2:t=P
  ·subst e2
   have:=h2 ht
   omega
  ·have h3:=h2 (by omega)
   have h4:=hr P t (by omega) ht (by omega)
   omega
theorem with_spec (base:Nat) (v:Value) (l:List Int) (x:Int) (W0:World) (h:OwnI W0 base v l) (hr:RisI l) (hn:l.length<=1048575) :
  Calls Tryz.prog 85 #[v,.int .i64 x] W0 fun e w'=>((x∈l/\e=.returned v)∨(¬x∈l/\∃ v',e=.returned v'/\OwnI w' W0.heap.size v' (withI l x)))/\Below W0.heap.size W0 w':=by
 obtain⟨i0,hi0,hz0,hz1,hz2⟩:=info_parts infoI2
 rcases h.split with⟨rfl,rfl⟩|⟨g,cp,rfl,_,hc,ho⟩
 ·obtain⟨P,hP⟩:∃ P:Nat,P=0:=⟨0,rfl⟩
  obtain⟨sT,hsT⟩:∃ sT:List Int,sT=[]:=⟨_,rfl⟩
  obtain⟨l,hl⟩:∃ l:List Int,l=[]:=⟨_,rfl⟩
  rw[<-hl]
  have HNM:Hid (¬x∈l):=by rw[hl];exact List.not_mem_nil
  have HTL:Hid (sT.length=0):=by unfold Hid;rw[hsT];rfl
  have HNT:Hid (∀ W',Below W0.heap.size W0 W'->∀ d,(none:Option Addr)=some d->∀ j u,(sT.map (Value.int .i64))[j]? = some u->W'.cell? (d.add j)=some u):=fun W' _ d hd=>by cases hd
  have HIT:Hid (withI l x=sT++[x]++[]):=by
   unfold Hid withI
   rw[if_neg HNM.out,hl,hsT,posI_nil]
   rfl
  clear h hr hn hsT hP hl
  go_enter Tryz.func85,Tryz.ntmps85
  go_wp2_with fail
  go_loopw [5] (fun kv wr=>kv=.int .i64 0/\wr=W0) (fun _ _=>0)
  case atStart=>exact⟨rfl,rfl⟩
  case round =>
   obtain⟨rfl,hw⟩:=hrel
   subst hw
   go_wp2_with (at_builtin;refine wpList_append_opt _ rfl (.tmp 34) (.tmp 37) 84 rfl wr.heap.size 2 i0 (.int .i64 0) 1 8 Tryz.underlying84 hi0 hz0 hz1 hz2 rfl (by decide) (.slice (some ⟨wr.heap.size,0,none⟩) 0 0) 0 [] rfl (ownI_lit wr) none 0 0 (fun _=>⟨rfl,rfl⟩) (sT.map (Value.int .i64)) rfl (by rw[List.length_map,HTL.out,Nat.mul_one]) (HNT.out _ ((Below.refl wr.heap.size wr).alloc (Nat.le_refl _) _)) (ints_one _) (by unfold maxLen;omega) (by omega) (by simp) ?_)
   intro v1 w1 ho1 hg1 _
   have O5:Hid (OwnI w1 wr.heap.size v1 sT):=by
    unfold Hid OwnI
    rw[HTL.out]
    simpa using ho1
   have B5:Hid (Below wr.heap.size wr w1):=((Below.refl _ wr).alloc (Nat.le_refl _) _).grown hg1 (by simp) (fun k hk=>by simp[Value.ownBlock]at hk;omega)
   obtain⟨a1,c1',hv1,_,_⟩:=O5.out.ints
   rw[HTL.out]at hv1
   subst hv1
   have hz1':=B5.out.size
   clear ho1 hg1
   go_wp2_with (at_builtin;refine wpList_append_own _ rfl (.tmp 39) (.tmp 41) 84 rfl wr.heap.size 2 i0 (.int .i64 0) 1 8 Tryz.underlying84 hi0 hz0 hz1 hz2 rfl (by decide) _ 0 (sT.map (Value.int .i64)) rfl (by have:=ownI_alloc O5.out (.cells #[.int .i64 x] 2);unfold OwnI at this;rw[HTL.out]at this;exact this) ⟨w1.heap.size,0,none⟩ 1 1 [.int .i64 x] rfl rfl (one_newI _ _ _) (one_cellI _) (by unfold maxLen;omega) (by omega) (by simp;omega) ?_)
   intro v2 w2 ho2 hg2 _
   have O6:Hid (OwnI w2 wr.heap.size v2 (sT++[x])):=by
    refine OwnI.snoc ?_
    rw[HTL.out]
    exact ho2
   have B6:=hideK (app_one B5.out hz1' (Nat.le_refl _) O5.out hg2)
   have hz2':=B6.out.size
   have HAL:Hid ((sT++[x]).length=0+1):=by unfold Hid;rw[List.length_append,HTL.out];rfl
   obtain⟨a2,c2',hv2,_,_⟩:=O6.out.ints
   rw[HAL.out]at hv2
   subst hv2
   obtain⟨sA,hsA⟩:∃ sA,sA=sT++[x]:=⟨_,rfl⟩
   rw[<-hsA]at O6 HAL HIT
   clear ho2 hg2 hsA
   go_wp2_with (at_builtin;refine wpList_append_opt _ rfl (.tmp 43) (.tmp 46) 84 rfl wr.heap.size 2 i0 (.int .i64 0) 1 8 Tryz.underlying84 hi0 hz0 hz1 hz2 rfl (by decide) _ (0+1) (sA.map (Value.int .i64)) rfl (by have:=O6.out;unfold OwnI at this;rw[HAL.out]at this;exact this) none 0 0 (fun _=>⟨rfl,rfl⟩) [] rfl rfl (fun d hd=>by cases hd) (fun u hu=>by simp at hu) (by unfold maxLen;omega) (by omega) (by omega) ?_)
   intro v3 w3 ho3 hg3 _
   have O7:Hid (OwnI w3 wr.heap.size v3 (withI l x)):=by
    unfold Hid OwnI
    rw[HIT.out,List.append_nil,HAL.out]
    simpa using ho3
   have B7:Hid (Below wr.heap.size wr w3):=B6.out.grown hg3 (by omega) (fun k hk=>(World.ownsRow.lt O6.out k hk).1)
   obtain⟨a3,c3',hv3,_⟩:=O7.out.ints
   subst hv3
   clear ho3 hg3
   go_wp2_with fail
   go_ret
   exact⟨.inr ⟨HNM.out,_,rfl,O7.out⟩,B7.out⟩
 ·generalize hln:l.length=n at hc hn
  have HLN:=hideK hln
  have HCS:Hid (∀ i (hi:i<l.length),W0.cell? ⟨g,i,none⟩=some (.int .i64 l[i])):=fun i hi=>ho.cell hi
  have HGL:=hideK ho.lt
  have HRI:=hideK hr
  have hncI:(n:Int)<=(cp:Int):=by omega
  clear h hr ho hln
  go_enter Tryz.func85,Tryz.ntmps85
  go_wp2_with fail
  go_loopw [5] (fun kv wr=>∃ P:Nat,kv=.int .i64 P/\P<=n/\(∀ t (h:t<l.length),t<P->l[t]<x)/\wr=W0) (fun kv _=>n-(intOf kv).toNat)
  case atStart=>exact⟨0,rfl,Nat.zero_le _,fun t _ h=>absurd h (Nat.not_lt_zero _),rfl⟩
  case round =>
   obtain⟨P,rfl,hP,hlo,hw⟩:=hrel
   subst hw
   have HLO:=hideK hlo
   clear hlo
   by_cases hlt:P<n
   ·have hlI:(P:Int)<(n:Int):=by omega
    have hlD:decide ((P:Int)<(n:Int))=true:=by simp;omega
    have hPl:P<l.length:=by rw[HLN.out];exact hlt
    have cP:=HCS.out P hPl
    by_cases hx:l[P]<x
    ·have hxD:decide (l[P]<x)=true:=by simp;exact hx
     have HNX:Hid (∀ t (h:t<l.length),t<P+1->l[t]<x):=fun t ht htp=>by
      by_cases e:t=P
      ·subst e;exact hx
      ·exact HLO.out t ht (by omega)
     generalize l[P]=q at cP hx hxD
     go_wp2_with fail
     go_roundw
     case rel=>exact⟨P+1,by go_num,by omega,HNX.out,by trivial⟩
     case measure=>simp[intOf];omega
    ·have hxD:decide (l[P]<x)=false:=by simp;omega
     by_cases he:l[P]=x
     ·have heB:(l[P]==x)=true:=beq_iff_eq.2 he
      have HME:Hid (x∈l):=by rw[<-he];exact List.getElem_mem hPl
      have HRF:Hid (Below wr.heap.size wr wr):=Below.refl _ _
      generalize l[P]=q at cP hx hxD heB
      clear he
      go_wp2_with fail
      go_ret
      exact⟨.inl ⟨HME.out,rfl⟩,HRF.out⟩
     ·have heB:(l[P]==x)=false:=by simp[he]
      have HNM:Hid (¬x∈l):=not_here HRI.out HLO.out (fun _=>by omega)
      have HPO:Hid (posI l x=P):=posI_of (by rw[HLN.out];omega) HLO.out (fun _=>hx)
      generalize l[P]=q at cP hx hxD heB
      clear he HLO HRI
      obtain⟨sT,hsT⟩:∃ sT,sT=l.take P:=⟨_,rfl⟩
      obtain⟨sD,hsD⟩:∃ sD,sD=l.drop P:=⟨_,rfl⟩
      have HTL:Hid (sT.length=P):=by unfold Hid;rw[hsT,List.length_take,HLN.out];omega
      have HDL:Hid (sD.length=n-P):=by unfold Hid;rw[hsD,List.length_drop,HLN.out]
      have HNT:Hid (∀ W',Below wr.heap.size wr W'->∀ d,(some (⟨g,0,none⟩:Addr))=some d->∀ j u,(sT.map (Value.int .i64))[j]? = some u->W'.cell? (d.add j)=some u):=by
       intro W' hW d hd
       cases hd
       rw[hsT]
       exact news_take (fun i hi=>(hW.cell (p:=⟨g,i,none⟩) HGL.out).trans (HCS.out i hi))
      have HND:Hid (∀ W',Below wr.heap.size wr W'->∀ d,(some (⟨g,P,none⟩:Addr))=some d->∀ j u,(sD.map (Value.int .i64))[j]? = some u->W'.cell? (d.add j)=some u):=by
       intro W' hW d hd
       cases hd
       rw[hsD]
       exact news_drop (fun i hi=>(hW.cell (p:=⟨g,i,none⟩) HGL.out).trans (HCS.out i hi))
      have HIT:Hid (withI l x=sT++[x]++sD):=by
       unfold Hid withI
       rw[if_neg HNM.out,HPO.out,hsT,hsD]
      clear hsT hsD
      have hPc:(P:Int)<=(cp:Int):=by omega
      have hPc2:¬P=cp:=by omega
      have hPc3:¬cp=P:=by omega
      go_wp2_with (at_builtin;refine wpList_append_opt _ rfl (.tmp 34) (.tmp 37) 84 rfl wr.heap.size 2 i0 (.int .i64 0) 1 8 Tryz.underlying84 hi0 hz0 hz1 hz2 rfl (by decide) (.slice (some ⟨wr.heap.size,0,none⟩) 0 0) 0 [] rfl (ownI_lit wr) (some ⟨g,0,none⟩) P cp (fun h=>by cases h) (sT.map (Value.int .i64)) rfl (by rw[List.length_map,HTL.out,Nat.mul_one]) (HNT.out _ ((Below.refl wr.heap.size wr).alloc (Nat.le_refl _) _)) (ints_one _) (by unfold maxLen;omega) (by omega) (by simp) ?_)
      intro v1 w1 ho1 hg1 _
      have O5:Hid (OwnI w1 wr.heap.size v1 sT):=by
       unfold Hid OwnI
       rw[HTL.out]
       simpa using ho1
      have B5:Hid (Below wr.heap.size wr w1):=((Below.refl _ wr).alloc (Nat.le_refl _) _).grown hg1 (by simp) (fun k hk=>by simp[Value.ownBlock]at hk;omega)
      obtain⟨a1,c1',hv1,_,_⟩:=O5.out.ints
      rw[HTL.out]at hv1
      subst hv1
      have hz1':=B5.out.size
      clear ho1 hg1
      go_wp2_with (at_builtin;refine wpList_append_own _ rfl (.tmp 39) (.tmp 41) 84 rfl wr.heap.size 2 i0 (.int .i64 0) 1 8 Tryz.underlying84 hi0 hz0 hz1 hz2 rfl (by decide) _ P (sT.map (Value.int .i64)) rfl (by have:=ownI_alloc O5.out (.cells #[.int .i64 x] 2);unfold OwnI at this;rw[HTL.out]at this;exact this) ⟨w1.heap.size,0,none⟩ 1 1 [.int .i64 x] rfl rfl (one_newI _ _ _) (one_cellI _) (by unfold maxLen;omega) (by omega) (by simp;omega) ?_)
      intro v2 w2 ho2 hg2 _
      have O6:Hid (OwnI w2 wr.heap.size v2 (sT++[x])):=by
       refine OwnI.snoc ?_
       rw[HTL.out]
       exact ho2
      have B6:=hideK (app_one B5.out hz1' (Nat.le_refl _) O5.out hg2)
      have hz2':=B6.out.size
      have HAL:Hid ((sT++[x]).length=P+1):=by unfold Hid;rw[List.length_append,HTL.out];rfl
      obtain⟨a2,c2',hv2,_,_⟩:=O6.out.ints
      rw[HAL.out]at hv2
      subst hv2
      obtain⟨sA,hsA⟩:∃ sA,sA=sT++[x]:=⟨_,rfl⟩
      rw[<-hsA]at O6 HAL HIT
      clear ho2 hg2 hsA
      go_wp2_with (at_builtin;refine wpList_append_opt _ rfl (.tmp 43) (.tmp 46) 84 rfl wr.heap.size 2 i0 (.int .i64 0) 1 8 Tryz.underlying84 hi0 hz0 hz1 hz2 rfl (by decide) _ (P+1) (sA.map (Value.int .i64)) rfl (by have:=O6.out;unfold OwnI at this;rw[HAL.out]at this;exact this) (some ⟨g,P,none⟩) (n-P) (cp-P) (fun h=>by cases h) (sD.map (Value.int .i64)) rfl (by rw[List.length_map,HDL.out,Nat.mul_one]) (HND.out _ B6.out) (ints_one _) (by unfold maxLen;omega) (by omega) (by omega) ?_)
      intro v3 w3 ho3 hg3 _
      have O7:Hid (OwnI w3 wr.heap.size v3 (withI l x)):=by
       unfold Hid OwnI
       rw[HIT.out,List.length_append,HAL.out,List.map_append,HDL.out]
       exact ho3
      have B7:Hid (Below wr.heap.size wr w3):=B6.out.grown hg3 (by omega) (fun k hk=>(World.ownsRow.lt O6.out k hk).1)
      obtain⟨a3,c3',hv3,_⟩:=O7.out.ints
      subst hv3
      clear ho3 hg3
      go_wp2_with fail
      go_ret
      exact⟨.inr ⟨HNM.out,_,rfl,O7.out⟩,B7.out⟩
   ·obtain rfl:P=n:=by omega
    have hlI:¬(P:Int)<(P:Int):=by omega
    have hlD:decide ((P:Int)<(P:Int))=false:=by simp
    have HNM:Hid (¬x∈l):=not_here HRI.out HLO.out (fun h=>absurd h (by rw[HLN.out];omega))
    have HPO:Hid (posI l x=P):=posI_of (by rw[HLN.out];omega) HLO.out (fun h=>absurd h (by rw[HLN.out];omega))
    clear HLO HRI
    obtain⟨sT,hsT⟩:∃ sT,sT=l.take P:=⟨_,rfl⟩
    obtain⟨sD,hsD⟩:∃ sD,sD=l.drop P:=⟨_,rfl⟩
    have HTL:Hid (sT.length=P):=by unfold Hid;rw[hsT,List.length_take,HLN.out];omega
    have HDL:Hid (sD.length=P-P):=by unfold Hid;rw[hsD,List.length_drop,HLN.out]
    have HNT:Hid (∀ W',Below wr.heap.size wr W'->∀ d,(some (⟨g,0,none⟩:Addr))=some d->∀ j u,(sT.map (Value.int .i64))[j]? = some u->W'.cell? (d.add j)=some u):=by
     intro W' hW d hd
     cases hd
     rw[hsT]
     exact news_take (fun i hi=>(hW.cell (p:=⟨g,i,none⟩) HGL.out).trans (HCS.out i hi))
    have HND:Hid (∀ W',Below wr.heap.size wr W'->∀ d,(some (⟨g,P,none⟩:Addr))=some d->∀ j u,(sD.map (Value.int .i64))[j]? = some u->W'.cell? (d.add j)=some u):=by
     intro W' hW d hd
     cases hd
     rw[hsD]
     exact news_drop (fun i hi=>(hW.cell (p:=⟨g,i,none⟩) HGL.out).trans (HCS.out i hi))
    have HIT:Hid (withI l x=sT++[x]++sD):=by
     unfold Hid withI
     rw[if_neg HNM.out,HPO.out,hsT,hsD]
    clear hsT hsD
    have hPc:(P:Int)<=(cp:Int):=by omega
    obtain rfl:sD=[]:=List.eq_nil_of_length_eq_zero (by rw[HDL.out];omega)
    by_cases hcp:P=cp
    ·subst hcp
     go_wp2_with (at_builtin;refine wpList_append_opt _ rfl (.tmp 34) (.tmp 37) 84 rfl wr.heap.size 2 i0 (.int .i64 0) 1 8 Tryz.underlying84 hi0 hz0 hz1 hz2 rfl (by decide) (.slice (some ⟨wr.heap.size,0,none⟩) 0 0) 0 [] rfl (ownI_lit wr) (some ⟨g,0,none⟩) P P (fun h=>by cases h) (sT.map (Value.int .i64)) rfl (by rw[List.length_map,HTL.out,Nat.mul_one]) (HNT.out _ ((Below.refl wr.heap.size wr).alloc (Nat.le_refl _) _)) (ints_one _) (by unfold maxLen;omega) (by omega) (by simp) ?_)
     intro v1 w1 ho1 hg1 _
     have O5:Hid (OwnI w1 wr.heap.size v1 sT):=by
      unfold Hid OwnI
      rw[HTL.out]
      simpa using ho1
     have B5:Hid (Below wr.heap.size wr w1):=((Below.refl _ wr).alloc (Nat.le_refl _) _).grown hg1 (by simp) (fun k hk=>by simp[Value.ownBlock]at hk;omega)
     obtain⟨a1,c1',hv1,_,_⟩:=O5.out.ints
     rw[HTL.out]at hv1
     subst hv1
     have hz1':=B5.out.size
     clear ho1 hg1
     go_wp2_with (at_builtin;refine wpList_append_own _ rfl (.tmp 39) (.tmp 41) 84 rfl wr.heap.size 2 i0 (.int .i64 0) 1 8 Tryz.underlying84 hi0 hz0 hz1 hz2 rfl (by decide) _ P (sT.map (Value.int .i64)) rfl (by have:=ownI_alloc O5.out (.cells #[.int .i64 x] 2);unfold OwnI at this;rw[HTL.out]at this;exact this) ⟨w1.heap.size,0,none⟩ 1 1 [.int .i64 x] rfl rfl (one_newI _ _ _) (one_cellI _) (by unfold maxLen;omega) (by omega) (by simp;omega) ?_)
     intro v2 w2 ho2 hg2 _
     have O6:Hid (OwnI w2 wr.heap.size v2 (sT++[x])):=by
      refine OwnI.snoc ?_
      rw[HTL.out]
      exact ho2
     have B6:=hideK (app_one B5.out hz1' (Nat.le_refl _) O5.out hg2)
     have hz2':=B6.out.size
     have HAL:Hid ((sT++[x]).length=P+1):=by unfold Hid;rw[List.length_append,HTL.out];rfl
     obtain⟨a2,c2',hv2,_,_⟩:=O6.out.ints
     rw[HAL.out]at hv2
     subst hv2
     obtain⟨sA,hsA⟩:∃ sA,sA=sT++[x]:=⟨_,rfl⟩
     rw[<-hsA]at O6 HAL HIT
     clear ho2 hg2 hsA
     go_wp2_with (at_builtin;refine wpList_append_opt _ rfl (.tmp 43) (.tmp 46) 84 rfl wr.heap.size 2 i0 (.int .i64 0) 1 8 Tryz.underlying84 hi0 hz0 hz1 hz2 rfl (by decide) _ (P+1) (sA.map (Value.int .i64)) rfl (by have:=O6.out;unfold OwnI at this;rw[HAL.out]at this;exact this) (some ⟨g,0,none⟩) 0 0 (fun h=>by cases h) [] rfl rfl (fun d hd j u hu=>by simp at hu) (fun u hu=>by simp at hu) (by unfold maxLen;omega) (by omega) (by omega) ?_)
     intro v3 w3 ho3 hg3 _
     have O7:Hid (OwnI w3 wr.heap.size v3 (withI l x)):=by
      unfold Hid OwnI
      rw[HIT.out,List.append_nil,HAL.out]
      simpa using ho3
     have B7:Hid (Below wr.heap.size wr w3):=B6.out.grown hg3 (by omega) (fun k hk=>(World.ownsRow.lt O6.out k hk).1)
     obtain⟨a3,c3',hv3,_⟩:=O7.out.ints
     subst hv3
     clear ho3 hg3
     go_wp2_with fail
     go_ret
     exact⟨.inr ⟨HNM.out,_,rfl,O7.out⟩,B7.out⟩
    ·have hPc2:¬P=cp:=by omega
     have hPc3:¬cp=P:=by omega
     go_wp2_with (at_builtin;refine wpList_append_opt _ rfl (.tmp 34) (.tmp 37) 84 rfl wr.heap.size 2 i0 (.int .i64 0) 1 8 Tryz.underlying84 hi0 hz0 hz1 hz2 rfl (by decide) (.slice (some ⟨wr.heap.size,0,none⟩) 0 0) 0 [] rfl (ownI_lit wr) (some ⟨g,0,none⟩) P cp (fun h=>by cases h) (sT.map (Value.int .i64)) rfl (by rw[List.length_map,HTL.out,Nat.mul_one]) (HNT.out _ ((Below.refl wr.heap.size wr).alloc (Nat.le_refl _) _)) (ints_one _) (by unfold maxLen;omega) (by omega) (by simp) ?_)
     intro v1 w1 ho1 hg1 _
     have O5:Hid (OwnI w1 wr.heap.size v1 sT):=by
      unfold Hid OwnI
      rw[HTL.out]
      simpa using ho1
     have B5:Hid (Below wr.heap.size wr w1):=((Below.refl _ wr).alloc (Nat.le_refl _) _).grown hg1 (by simp) (fun k hk=>by simp[Value.ownBlock]at hk;omega)
     obtain⟨a1,c1',hv1,_,_⟩:=O5.out.ints
     rw[HTL.out]at hv1
     subst hv1
     have hz1':=B5.out.size
     clear ho1 hg1
     go_wp2_with (at_builtin;refine wpList_append_own _ rfl (.tmp 39) (.tmp 41) 84 rfl wr.heap.size 2 i0 (.int .i64 0) 1 8 Tryz.underlying84 hi0 hz0 hz1 hz2 rfl (by decide) _ P (sT.map (Value.int .i64)) rfl (by have:=ownI_alloc O5.out (.cells #[.int .i64 x] 2);unfold OwnI at this;rw[HTL.out]at this;exact this) ⟨w1.heap.size,0,none⟩ 1 1 [.int .i64 x] rfl rfl (one_newI _ _ _) (one_cellI _) (by unfold maxLen;omega) (by omega) (by simp;omega) ?_)
     intro v2 w2 ho2 hg2 _
     have O6:Hid (OwnI w2 wr.heap.size v2 (sT++[x])):=by
      refine OwnI.snoc ?_
      rw[HTL.out]
      exact ho2
     have B6:=hideK (app_one B5.out hz1' (Nat.le_refl _) O5.out hg2)
     have hz2':=B6.out.size
     have HAL:Hid ((sT++[x]).length=P+1):=by unfold Hid;rw[List.length_append,HTL.out];rfl
     obtain⟨a2,c2',hv2,_,_⟩:=O6.out.ints
     rw[HAL.out]at hv2
     subst hv2
     obtain⟨sA,hsA⟩:∃ sA,sA=sT++[x]:=⟨_,rfl⟩
     rw[<-hsA]at O6 HAL HIT
     clear ho2 hg2 hsA
     go_wp2_with (at_builtin;refine wpList_append_opt _ rfl (.tmp 43) (.tmp 46) 84 rfl wr.heap.size 2 i0 (.int .i64 0) 1 8 Tryz.underlying84 hi0 hz0 hz1 hz2 rfl (by decide) _ (P+1) (sA.map (Value.int .i64)) rfl (by have:=O6.out;unfold OwnI at this;rw[HAL.out]at this;exact this) (some ⟨g,P,none⟩) 0 (cp-P) (fun h=>by cases h) [] rfl rfl (fun d hd j u hu=>by simp at hu) (fun u hu=>by simp at hu) (by unfold maxLen;omega) (by omega) (by omega) ?_)
     intro v3 w3 ho3 hg3 _
     have O7:Hid (OwnI w3 wr.heap.size v3 (withI l x)):=by
      unfold Hid OwnI
      rw[HIT.out,List.append_nil,HAL.out]
      simpa using ho3
     have B7:Hid (Below wr.heap.size wr w3):=B6.out.grown hg3 (by omega) (fun k hk=>(World.ownsRow.lt O6.out k hk).1)
     obtain⟨a3,c3',hv3,_⟩:=O7.out.ints
     subst hv3
     clear ho3 hg3
     go_wp2_with fail
     go_ret
     exact⟨.inr ⟨HNM.out,_,rfl,O7.out⟩,B7.out⟩
end Go.Proofs.YtpddanmnlkcdpaaGreatDoor.Hr


namespace Go.Proofs.YtpddanmnlkcdpaaGreatDoor.Hr
open Go.RowKit
open Kp (hideK ownI_lit ownI_alloc cells5 set5 set5_low Cx)
open Pe
open Pl
open In (Ints OwnI IsO one_newI one_cellI app_one)
open In.Tryz (infoI2)
theorem without_spec (base:Nat) (v:Value) (l:List Int) (x:Int) (W0:World) (h:OwnI W0 base v l) (hr:RisI l) (hn:l.length<=1048575) :
  Calls Tryz.prog 88 #[v,.int .i64 x] W0 fun e w'=>∃ v',e=.returned v'/\OwnI w' W0.heap.size v' (lessI l x)/\Below W0.heap.size W0 w':=by
 obtain⟨i0,hi0,hz0,hz1,hz2⟩:=info_parts infoI2
 have HLF:=hideK (less_filter (x:=x) hr)
 obtain⟨a,cap,hv,_,hix⟩:=h.ints
 subst hv
 generalize hln:l.length=n at hn ⊢
 have HLN:=hideK hln
 have HIX:=hideK hix
 clear h hix hr hln
 go_enter Tryz.func88,Tryz.ntmps88
 go_wp2_with fail
 go_loopw [5,6] (fun sv jv wr=>∃ (j:Nat) (s:List Int),jv=.int .i64 j/\j<=n/\OwnI wr W0.heap.size sv s/\s=(l.take j).filter (fun y=>decide (y≠x))/\Below W0.heap.size W0 wr) (fun _ jv _=>n-(intOf jv).toNat)
 case atStart=>exact⟨0,[],rfl,Nat.zero_le _,ownI_lit W0,rfl,(Below.refl _ _).alloc (Nat.le_refl _) _⟩
 case round =>
  obtain⟨j,s,rfl,hj,hos,hse,hbl⟩:=hrel
  have OS:=hideK hos
  have SE:=hideK hse
  have BL:=hideK hbl
  have hzw:=hbl.size
  have HSL:Hid (s.length<=j):=by
   unfold Hid
   rw[hse]
   refine Nat.le_trans (List.length_filter_le _ _) ?_
   rw[List.length_take]
   omega
  obtain⟨as1,cs1,hsv,_,_⟩:=hos.ints
  generalize hsl:s.length=L at hsv HSL
  have HSE:=hideK hsl
  have hLj:L<=j:=HSL.out
  subst hsv
  clear hos hse hbl hsl HSL
  by_cases hlt:j<n
  ·have hlt':(j:Int)<(n:Int):=by omega
   have hjl:j<l.length:=by rw[HLN.out];exact hlt
   obtain⟨b,off,ha,hb,hc⟩:∃ b off,a=some ⟨b,off,none⟩/\b<W0.heap.size/\∀ t (ht:t<l.length),W0.cell? ⟨b,off+t,none⟩=some (.int .i64 l[t]):=by
    rcases HIX.out with h|h
    ·rw[h]at hjl;simp at hjl
    ·exact h
   subst ha
   have cj:=(BL.out.cell (p:=⟨b,off+j,none⟩) hb).trans (hc j hjl)
   have HT:Hid ((l.take (j+1)).filter (fun y=>decide (y≠x))=s++(if l[j]=x then [] else [l[j]])):=by
    unfold Hid
    rw[List.take_succ_eq_append_getElem hjl,List.filter_append,SE.out]
    by_cases e:l[j]=x
    ·rw[if_pos e,List.filter_cons_of_neg (by simp[e])];rfl
    ·rw[if_neg e,List.filter_cons_of_pos (by simp[e])];rfl
   generalize l[j]=q at cj HT
   clear hc
   by_cases he:q=x
   ·have heB:(q != x)=false:=by simp[he]
    rw[if_pos he,List.append_nil]at HT
    have S2:=hideK HT.out.symm
    clear he HT
    go_wp2_with fail
    go_roundw
    case rel=>exact⟨j+1,s,by go_num,by omega,OS.out,S2.out,BL.out⟩
    case measure=>simp[intOf];omega
   ·have heB:(q != x)=true:=by simp[he]
    rw[if_neg he]at HT
    have S2:=hideK HT.out.symm
    clear he HT
    go_wp2_with (at_builtin;refine wpList_append_own _ rfl (.tmp 20) (.tmp 25) 84 rfl W0.heap.size 2 i0 (.int .i64 0) 1 8 Tryz.underlying84 hi0 hz0 hz1 hz2 rfl (by decide) _ L (s.map (Value.int .i64)) rfl (by have:=ownI_alloc OS.out (.cells #[.int .i64 q] 2);unfold OwnI at this;rw[HSE.out]at this;exact this) ⟨wr.heap.size,0,none⟩ 1 1 [.int .i64 q] rfl rfl (one_newI _ _ _) (one_cellI _) (by unfold maxLen;omega) (by omega) (by simp;omega) ?_)
    intro v2 w2 ho2 hg2 _
    have O6:Hid (OwnI w2 W0.heap.size v2 (s++[q])):=by
     refine OwnI.snoc ?_
     rw[HSE.out]
     exact ho2
    have B6:=hideK (app_one BL.out hzw (Nat.le_refl _) OS.out hg2)
    clear ho2 hg2
    go_wp2_with fail
    go_roundw
    case rel=>exact⟨j+1,s++[q],by go_num,by omega,O6.out,S2.out,B6.out⟩
    case measure=>simp[intOf];omega
  ·obtain rfl:j=n:=by omega
   have hltD:decide ((j:Int)<(j:Int))=false:=by simp
   have HE:Hid (s=lessI l x):=by
    have:=SE.out
    rw[List.take_of_length_le (by rw[HLN.out];exact Nat.le_refl _),HLF.out]at this
    exact this
   have O8:=hideK (HE.out ▸ OS.out)
   go_wp2_with fail
   go_ret
   exact⟨_,rfl,O8.out,BL.out⟩
def zOth:Obj:=.cells #[.string ⟨#[]⟩,.slice none 0 0,.int .i64 0,.int .i64 0,.int .i64 0] 86
theorem drop_spec (o:Oth) (a:Option Addr) (n c:Nat) (i:Int) (w:World) (hi:0<=i/\i<=1048576) :
  Calls Tryz.prog 89 #[othV (o,.slice a n c),.int .i64 i] w fun e w'=>e=.returned (othV (dropO o i,.slice a n c))/\Below w.heap.size w w':=by
 have C0:=hideK (((Cx.nil w).new (othO (o,.slice a n c) 86)).new zOth)
 simp only[World.size_alloc]at C0
 obtain⟨nm,hl,qa,ga,st⟩:=o
 have hwr:IntKind.i64.wrap (i+1)=i+1:=by rw[IntKind.wrap_i64];omega
 unfold othV
 unfold othO zOth at C0
 dsimp only at C0 ⊢
 have HDR:Hid (dropO ⟨nm,hl,qa,ga,st⟩ i=if qa=i+1 then ⟨nm,hl,0,0,st⟩ else ⟨nm,hl,qa,ga,st⟩):=rfl
 generalize dropO ⟨nm,hl,qa,ga,st⟩ i=D at HDR ⊢
 go_enter Tryz.func89,Tryz.ntmps89
 go_upto_region 1 with fail
 generalize hgk:w.heap.size=gk at C0 ⊢
 generalize (w.alloc _).alloc _=W0 at C0 ⊢
 have hgl:w.heap.size<=gk:=by omega
 have hgl2:w.heap.size<=gk+1:=by omega
 clear hgk
 obtain⟨c0,c1,c2,c3,c4⟩:=cells5 (C0.out.get 1 rfl)
 obtain⟨q0,q1,q2,q3,q4⟩:=cells5 (C0.out.get 0 rfl)
 by_cases hq:qa=i+1
 ·have hqb:(qa==i+1)=true:=beq_iff_eq.2 hq
  rw[if_pos hq]at HDR
  have f1:=fun o=>frozen_of_row W0 gk o _ _ (C0.out.get 1 rfl)
  have G1:Hid (((W0.setCell ⟨gk,2,none⟩ (.int .i64 0)).setCell ⟨gk,3,none⟩ (.int .i64 0)).heap[gk]? = some (.cells #[.string nm,.slice a n c,.int .i64 0,.int .i64 0,.int .i64 st] 86 (0,0))):=by
   have h1:(W0.setCell ⟨gk,2,none⟩ (.int .i64 0)).heap[gk]? = some (.cells #[.string nm,.slice a n c,.int .i64 0,.int .i64 ga,.int .i64 st] 86 (0,0)):=by rw[heap_setCell_same _ gk 2 _ _ _ (C0.out.get 1 rfl)];rfl
   rw[Hid,heap_setCell_same _ gk 3 _ _ _ h1]
   rfl
  have G2:Hid (((W0.setCell ⟨gk,2,none⟩ (.int .i64 0)).setCell ⟨gk,3,none⟩ (.int .i64 0)).heap[gk+1]? = some (.cells #[.string ⟨#[]⟩,.slice none 0 0,.int .i64 0,.int .i64 0,.int .i64 0] 86 (0,0))):=by
   rw[Hid,heap_setCell_other _ _ _ _ (by show gk+1≠gk;omega),heap_setCell_other _ _ _ _ (by show gk+1≠gk;omega)]
   exact C0.out.get 0 rfl
  have L1:Hid (Below w.heap.size w ((W0.setCell ⟨gk,2,none⟩ (.int .i64 0)).setCell ⟨gk,3,none⟩ (.int .i64 0))):=(C0.out.low.setCell (p:=⟨gk,2,none⟩) hgl _).setCell (p:=⟨gk,3,none⟩) hgl _
  clear C0
  go_upto_region 4 with fail
  generalize (W0.setCell ⟨gk,2,none⟩ (.int .i64 0)).setCell ⟨gk,3,none⟩ (.int .i64 0)=W1 at G1 G2 L1 ⊢
  clear c0 c1 c2 c3 c4 q0 q1 q2 q3 q4 f1
  obtain⟨c0,c1,c2,c3,c4⟩:=cells5 G1.out
  obtain⟨q0,q1,q2,q3,q4⟩:=cells5 G2.out
  have ff:=fun o=>frozen_of_row W1 (gk+1) o _ _ G2.out
  have s5:=cells5 (set5 G2.out (.string nm) (.slice a n c) (.int .i64 0) (.int .i64 0) (.int .i64 st))
  have E5:=hideK (set5_low L1.out hgl2 (.string nm) (.slice a n c) (.int .i64 0) (.int .i64 0) (.int .i64 st))
  go_wp2_with fail
  exact bodyPost_ret (v:=.agg #[.string nm,.slice a n c,.int .i64 0,.int .i64 0,.int .i64 st]) (by simp[results,Tryz.results89,go_sem,s5.1,s5.2.1,s5.2.2.1,s5.2.2.2.1,s5.2.2.2.2]) rfl ⟨by rw[HDR.out],E5.out⟩
 ·have hqb:(qa==i+1)=false:=by simp[hq]
  rw[if_neg hq]at HDR
  have ff:=fun o=>frozen_of_row W0 (gk+1) o _ _ (C0.out.get 0 rfl)
  have s5:=cells5 (set5 (C0.out.get 0 rfl) (.string nm) (.slice a n c) (.int .i64 qa) (.int .i64 ga) (.int .i64 st))
  have E5:=hideK (set5_low C0.out.low hgl2 (.string nm) (.slice a n c) (.int .i64 qa) (.int .i64 ga) (.int .i64 st))
  clear C0
  go_wp2_with fail
  exact bodyPost_ret (v:=.agg #[.string nm,.slice a n c,.int .i64 qa,.int .i64 ga,.int .i64 st]) (by simp[results,Tryz.results89,go_sem,s5.1,s5.2.1,s5.2.2.1,s5.2.2.2.1,s5.2.2.2.2]) rfl ⟨by rw[HDR.out],E5.out⟩
end Go.Proofs.YtpddanmnlkcdpaaGreatDoor.Hr


namespace Go.Proofs.YtpddanmnlkcdpaaGreatDoor.Hr
open Go.RowKit
open Kp (hideK cells5 set5 set5_low Cx)
open Pe
open Ls (lV hideL lowL rightB rightB_yes fitsB fits_piece calls_drew countN_yes mixedF)
open Bk (cnt count_any)
open Bi (is_yes is_no)
theorem setQ {W:World} {g i:Nat} {cs cs':Array Value} {T:TypeId} {v:Value} (h:W.heap[g]? = some (.cells cs T (0,0))) (hc:cs.setIfInBounds i v=cs'):(W.setCell ⟨g,i,none⟩ v).heap[g]? = some (.cells cs' T (0,0)):=by
 rw[heap_setCell_same W g i _ T v h,hc]
theorem strike_spec (o:Oth) (a:Option Addr) (n c:Nat) (w:World) (hs0:0<=o.strikes) (hs1:o.strikes<=2) :
  Calls Tryz.prog 119 #[othV (o,.slice a n c)] w fun e w'=>(∃ v,e=.returned (othV (strikeO o,v))/\((o.strikes+1=3/\v=.slice none 0 0)∨(¬o.strikes+1=3/\v=.slice a n c)))/\Below w.heap.size w w':=by
 have C0:=hideK (((Cx.nil w).new (othO (o,.slice a n c) 86)).new zOth)
 simp only[World.size_alloc]at C0
 obtain⟨nm,hl,qa,ga,st⟩:=o
 unfold othV
 unfold othO zOth at C0
 dsimp only at C0 hs0 hs1 ⊢
 have hwr:IntKind.i64.wrap (st+1)=st+1:=by rw[IntKind.wrap_i64];omega
 have HDR:Hid (strikeO ⟨nm,hl,qa,ga,st⟩=if st+1=3 then ⟨nm,[],0,0,st+1⟩ else ⟨nm,hl,qa,ga,st+1⟩):=rfl
 generalize strikeO ⟨nm,hl,qa,ga,st⟩=D at HDR ⊢
 go_enter Tryz.func119,Tryz.ntmps119
 go_upto_region 1 with fail
 generalize hgk:w.heap.size=gk at C0 ⊢
 generalize (w.alloc _).alloc _=W0 at C0 ⊢
 have hgl:w.heap.size<=gk:=by omega
 have hgl2:w.heap.size<=gk+1:=by omega
 clear hgk
 obtain⟨c0,c1,c2,c3,c4⟩:=cells5 (C0.out.get 1 rfl)
 have f4:=frozen_of_row W0 gk 4 _ _ (C0.out.get 1 rfl)
 have G1:Hid ((W0.setCell ⟨gk,4,none⟩ (.int .i64 (st+1))).heap[gk]? = some (.cells #[.string nm,.slice a n c,.int .i64 qa,.int .i64 ga,.int .i64 (st+1)] 86 (0,0))):=setQ (C0.out.get 1 rfl) rfl
 have G2:Hid ((W0.setCell ⟨gk,4,none⟩ (.int .i64 (st+1))).heap[gk+1]? = some (.cells #[.string ⟨#[]⟩,.slice none 0 0,.int .i64 0,.int .i64 0,.int .i64 0] 86 (0,0))):=by
  rw[Hid,heap_setCell_other _ _ _ _ (by show gk+1≠gk;omega)]
  exact C0.out.get 0 rfl
 have L1:Hid (Below w.heap.size w (W0.setCell ⟨gk,4,none⟩ (.int .i64 (st+1)))):=C0.out.low.setCell (p:=⟨gk,4,none⟩) hgl _
 clear C0
 go_upto_region 2 with fail
 generalize W0.setCell ⟨gk,4,none⟩ (.int .i64 (st+1))=W1 at G1 G2 L1 ⊢
 clear c0 c1 c2 c3 c4 f4
 obtain⟨c0,c1,c2,c3,c4⟩:=cells5 G1.out
 obtain⟨q0,q1,q2,q3,q4⟩:=cells5 G2.out
 by_cases hq:st+1=3
 ·have hqb:decide ((3:Int)<=st+1)=true:=by simp;omega
  have hqI:(3:Int)<=st+1:=by omega
  rw[if_pos hq]at HDR
  have HQ:=hideK hq
  have f1:=fun o=>frozen_of_row W1 gk o _ _ G1.out
  have G3:Hid ((((W1.setCell ⟨gk,1,none⟩ (.slice none 0 0)).setCell ⟨gk,2,none⟩ (.int .i64 0)).setCell ⟨gk,3,none⟩ (.int .i64 0)).heap[gk]? = some (.cells #[.string nm,.slice none 0 0,.int .i64 0,.int .i64 0,.int .i64 (st+1)] 86 (0,0))):=setQ (cs:=#[.string nm,.slice none 0 0,.int .i64 0,.int .i64 ga,.int .i64 (st+1)]) (setQ (cs:=#[.string nm,.slice none 0 0,.int .i64 qa,.int .i64 ga,.int .i64 (st+1)]) (setQ G1.out rfl) rfl) rfl
  have G4:Hid ((((W1.setCell ⟨gk,1,none⟩ (.slice none 0 0)).setCell ⟨gk,2,none⟩ (.int .i64 0)).setCell ⟨gk,3,none⟩ (.int .i64 0)).heap[gk+1]? = some (.cells #[.string ⟨#[]⟩,.slice none 0 0,.int .i64 0,.int .i64 0,.int .i64 0] 86 (0,0))):=by
   rw[Hid,heap_setCell_other _ _ _ _ (by show gk+1≠gk;omega),heap_setCell_other _ _ _ _ (by show gk+1≠gk;omega),heap_setCell_other _ _ _ _ (by show gk+1≠gk;omega)]
   exact G2.out
  have L3:Hid (Below w.heap.size w (((W1.setCell ⟨gk,1,none⟩ (.slice none 0 0)).setCell ⟨gk,2,none⟩ (.int .i64 0)).setCell ⟨gk,3,none⟩ (.int .i64 0))):=((L1.out.setCell (p:=⟨gk,1,none⟩) hgl _).setCell (p:=⟨gk,2,none⟩) hgl _).setCell (p:=⟨gk,3,none⟩) hgl _
  clear hq G1 G2 L1
  go_upto_region 6 with fail
  generalize ((W1.setCell ⟨gk,1,none⟩ (.slice none 0 0)).setCell ⟨gk,2,none⟩ (.int .i64 0)).setCell ⟨gk,3,none⟩ (.int .i64 0)=W2 at G3 G4 L3 ⊢
  clear c0 c1 c2 c3 c4 q0 q1 q2 q3 q4 f1
  obtain⟨c0,c1,c2,c3,c4⟩:=cells5 G3.out
  obtain⟨q0,q1,q2,q3,q4⟩:=cells5 G4.out
  have ff:=fun o=>frozen_of_row W2 (gk+1) o _ _ G4.out
  have s5:=cells5 (set5 G4.out (.string nm) (.slice none 0 0) (.int .i64 0) (.int .i64 0) (.int .i64 (st+1)))
  have E5:=hideK (set5_low L3.out hgl2 (.string nm) (.slice none 0 0) (.int .i64 0) (.int .i64 0) (.int .i64 (st+1)))
  go_wp2_with fail
  exact bodyPost_ret (v:=.agg #[.string nm,.slice none 0 0,.int .i64 0,.int .i64 0,.int .i64 (st+1)]) (by simp[results,Tryz.results119,go_sem,s5.1,s5.2.1,s5.2.2.1,s5.2.2.2.1,s5.2.2.2.2]) rfl ⟨⟨.slice none 0 0,by rw[HDR.out],.inl ⟨HQ.out,rfl⟩⟩,E5.out⟩
 ·have hqb:decide ((3:Int)<=st+1)=false:=by simp;omega
  have hqI:¬(3:Int)<=st+1:=by omega
  rw[if_neg hq]at HDR
  have HQ:=hideK hq
  have ff:=fun o=>frozen_of_row W1 (gk+1) o _ _ G2.out
  have s5:=cells5 (set5 G2.out (.string nm) (.slice a n c) (.int .i64 qa) (.int .i64 ga) (.int .i64 (st+1)))
  have E5:=hideK (set5_low L1.out hgl2 (.string nm) (.slice a n c) (.int .i64 qa) (.int .i64 ga) (.int .i64 (st+1)))
  clear hq G1 G2 L1
  go_wp2_with fail
  exact bodyPost_ret (v:=.agg #[.string nm,.slice a n c,.int .i64 qa,.int .i64 ga,.int .i64 (st+1)]) (by simp[results,Tryz.results119,go_sem,s5.1,s5.2.1,s5.2.2.1,s5.2.2.2.1,s5.2.2.2.2]) rfl ⟨⟨.slice a n c,by rw[HDR.out],.inr ⟨HQ.out,rfl⟩⟩,E5.out⟩
theorem fitsBig_spec (q k:Nat) (r:ByteArray) (i:Int) (t:ByteArray) (p:List ByteArray) (v:Value) (w:World) (hr:rightB q k r=true) (ht:100<t.size) (hv:∃ a m c,v=.slice a m c) :
  Calls Tryz.prog 104 #[lV q k r,.int .i64 i,.string t,v] w fun e w'=>e=.returned (.bool (fitsB q k r i t p))/\Below w.heap.size w w':=by
 obtain⟨a,m,cap,rfl⟩:=hv
 have h:=rightB_yes hr
 have HA:Hid (Below w.heap.size w (w.alloc (.cells #[.int .i64 q,.int .i64 k,.string r] 30))):=(Below.refl _ _).alloc (Nat.le_refl _) _
 have HX:Hid ((w.alloc (.cells #[.int .i64 q,.int .i64 k,.string r] 30)).heap[w.heap.size]? = some (.cells #[.int .i64 q,.int .i64 k,.string r] 30 (0,0))):=heap_alloc_new w _
 have HCq:=hideL (fun W=>calls_drew (count_any q k W (by omega) (by omega) (by omega)))
 obtain⟨hcn,hcl⟩:=countN_yes hr
 have hmx:=mixedF
 have HQ:=hideL (fits_piece (z:=q) (b:=k) (r:=r) (i:=i) (p:=p) (t:=t) ht)
 rw[HQ.out]
 clear hr h hcn HQ
 generalize cnt q k=cn at HCq hcl
 have hsub:IntKind.i64.wrap ((cn:Int)-1)=(cn:Int)-1:=by rw[IntKind.wrap_i64];omega
 have h1d:decide ((t.size:Int)<=100)=false:=by simp;omega
 have h1n:decide (t.size<=100)=false:=by simp;omega
 have h1i:¬(t.size:Int)<=100:=by omega
 by_cases hi:0<=i/\i<=(cn:Int)-1
 ·have HISq:Hid (∀ W,_):=fun W=>calls_drew (is_yes i 0 ((cn:Int)-1) W hi.1 hi.2)
  clear hi ht
  unfold lV
  go_enter Tryz.func104,Tryz.ntmps104
  go_wp2_with fail
  generalize hww:w.alloc (.cells #[.int .i64 q,.int .i64 k,.string r] 30)=wa at HA HX ⊢
  clear hww
  obtain⟨c0,c1,c2⟩:=Ls.cells3 HX.out
  generalize w.heap.size=gx at c0 c1 c2 ⊢
  go_quiet (first|(go_at_call 102;refine Calls.quiet_of (HCq.out _))|(go_at_call 53;refine Calls.quiet_of (HISq.out _)))
  all_goals (try go_wp2_with fail)
  all_goals go_ret
  all_goals exact⟨rfl,lowL HA.out (Kp.below_drewK (Below.refl _ _) _)⟩
 ·have HISq:Hid (∀ W,_):=fun W=>calls_drew (is_no i 0 ((cn:Int)-1) W (by omega))
  clear hi ht
  unfold lV
  go_enter Tryz.func104,Tryz.ntmps104
  go_wp2_with fail
  generalize hww:w.alloc (.cells #[.int .i64 q,.int .i64 k,.string r] 30)=wa at HA HX ⊢
  clear hww
  obtain⟨c0,c1,c2⟩:=Ls.cells3 HX.out
  generalize w.heap.size=gx at c0 c1 c2 ⊢
  go_quiet (first|(go_at_call 102;refine Calls.quiet_of (HCq.out _))|(go_at_call 53;refine Calls.quiet_of (HISq.out _)))
  all_goals (try go_wp2_with fail)
  all_goals go_ret
  all_goals exact⟨rfl,lowL HA.out (Kp.below_drewK (Below.refl _ _) _)⟩
end Go.Proofs.YtpddanmnlkcdpaaGreatDoor.Hr


namespace Go.Proofs.YtpddanmnlkcdpaaGreatDoor.Tk
open Go.RowKit
open Kp
open Pe
open Pl
open In (Ints OwnI)
open Ls (lowL blk_alloc)
structure Lets (W:World) (base:Nat) (v:Value) (ms:List ML):Prop where
 row:OwnL W base v ms
 nl:∀ x∈ms,x.2=.slice none 0 0/\x.1.path=[]
theorem Lets.snoc {W W':World} {base n:Nat} {v v':Value} {ms:List ML} {x:Snt} (h:Lets W base v ms) (hx:x.path=[]) (hn:ms.length=n) (ho:W'.ownsRow base 114 5 v' (n+1) (cellsL ms++[.string x.who,.int .i64 x.kind,.int .i64 x.index,.string x.piece,.slice none 0 0])):Lets W' base v' (ms++[(x,.slice none 0 0)]) :=
 ⟨OwnL.snoc (x:=(x,.slice none 0 0)) (by rw[hn];exact ho),fun q hq=>by
  rcases List.mem_append.1 hq with hq|hq
  ·exact h.nl q hq
  ·rw[List.mem_singleton.1 hq]
   exact⟨rfl,hx⟩⟩
theorem snts_snoc (ms:List ML) (x:Snt):snts (ms++[(x,.slice none 0 0)])=snts ms++[x]:=by
 unfold snts
 rw[List.map_append]
 rfl
theorem tell_spec (w W:World) (gg:Nat) (z b:Int) (r s:ByteArray) (y:Int) (ao:Option Addr) (n co:Nat) (va:Value) (mo:List MO) (mr:List MR) (i:Int) (hg:Game w W gg z b r s y ao n co va mo mr) (hm:mo.length=n) (hn:n<=1048576) (hst:∀ o∈Pe.oths mo,o.strikes<=3) :
  Calls Tryz.prog 94 #[.pointer (some ⟨gg,0,none⟩),.int .i64 i] W fun e w'=>∃ vs ms,e=.returned vs/\Lets w' W.heap.size vs ms/\snts ms=tellL (Pe.oths mo) i/\Below W.heap.size W w':=by
 obtain⟨i0,hi0,hz0,hz1,hz2⟩:=info_parts Tryz.infoSent
 have GM:=hideK hg
 have HM:=hideK hm
 have HSR:=hideK hst
 have c5:W.cell? ⟨gg,5,none⟩=some (.slice ao n co):=cell_of_row W gg 5 _ _ _ (by have:=hg.blk;unfold gmB at this;exact this)
 clear hg hm hst
 go_enter Tryz.func94,Tryz.ntmps94
 go_wp2_with fail
 go_loopw [5,6] (fun sv jv wq=>∃ (j:Nat) (ms:List ML),jv=.int .i64 j/\j<=n/\Lets wq W.heap.size sv ms/\Below W.heap.size W wq/\snts ms=tellL (Pe.oths (mo.take j)) i) (fun _ jv _=>n-(intOf jv).toNat)
 case atStart=>exact⟨0,[],rfl,Nat.zero_le _,⟨ownL_lit W,fun _ hx=>absurd hx List.not_mem_nil⟩,(Below.refl _ _).alloc (Nat.le_refl _) _,by unfold tellL Pe.oths;simp;rfl⟩
 case round =>
  obtain⟨j,ms,rfl,hj,hol,hbl,hsm⟩:=hrel
  have OL:=hideK hol
  have BL:=hideK hbl
  have SM:=hideK hsm
  have hzq:=hbl.size
  have HJN:Hid (ms.length<=j):=by
   have h1:=congrArg List.length hsm
   rw[snts_length]at h1
   have h2:=tell_len mo j i (by rw[HM.out];exact hj)
   unfold Hid
   omega
  have e5:wr.cell? ⟨gg,5,none⟩=some (.slice ao n co):=(hbl.cell (p:=⟨gg,5,none⟩) (lt_rowK GM.out.blk)).trans c5
  obtain⟨asl,csl,hsv,_,_⟩:=hol.row.one
  generalize hml:ms.length=L at hsv HJN
  have HML:=hideK hml
  have hLj:L<=j:=HJN.out
  subst hsv
  clear hol hbl hsm hml HJN
  by_cases hlt:j<n
  ·have hlt':(j:Int)<(n:Int):=by omega
   have hjl:j<mo.length:=by rw[HM.out];exact hlt
   obtain⟨g,cp,hv,_,hgs,_,hcc⟩:=GM.out.orow.cells (by omega)
   obtain⟨rfl,rfl⟩:ao=some ⟨g,0,none⟩/\co=cp:=by simp at hv;exact⟨hv.1,hv.2.2⟩
   obtain⟨d0,_,_,_,d4⟩:=(hcc j hjl).below BL.out hgs
   have HT:=hideK (tell_take i hjl)
   have ht3:mo[j].1.strikes<=3:=HSR.out _ (List.mem_map_of_mem (List.getElem_mem hjl))
   generalize mo[j].1.name=nm at d0 HT
   generalize mo[j].1.strikes=t at d4 HT ht3
   clear hcc hv
   by_cases ht:t=3
   ·have htD:decide (t<(3:Int))=false:=by simp;omega
    have htI:¬t<(3:Int):=by omega
    rw[if_pos ht,List.append_nil]at HT
    have SM3:Hid (snts ms=tellL (Pe.oths (mo.take (j+1))) i):=by unfold Hid;rw[HT.out];exact SM.out
    clear ht
    go_wp2_with fail
    go_roundw
    case rel=>exact⟨j+1,ms,by go_num,by omega,OL.out,BL.out,SM3.out⟩
    case measure=>simp[intOf];omega
   ·have htI:t<(3:Int):=by omega
    have htD:decide (t<(3:Int))=true:=by simp;omega
    rw[if_neg ht]at HT
    have OLa:Hid ((wr.alloc (.cells #[.string nm,.int .i64 1,.int .i64 i,.string ⟨#[]⟩,.slice none 0 0] 114)).ownsRow W.heap.size 114 5 (.slice asl L csl) L (cellsL ms)):=by
     have:=OL.out.row.alloc (.cells #[.string nm,.int .i64 1,.int .i64 i,.string ⟨#[]⟩,.slice none 0 0] 114)
     unfold OwnL at this
     rw[HML.out]at this
     exact this
    clear ht
    go_wp2_with (at_builtin;refine wpList_append_own _ rfl (.tmp 28) (.tmp 41) 36 rfl W.heap.size 114 i0 _ 5 72 Tryz.underlying36 hi0 hz0 hz1 hz2 rfl (by decide) (.slice asl L csl) L (cellsL ms) rfl OLa.out ⟨wr.heap.size,0,none⟩ 1 1 [.string nm,.int .i64 1,.int .i64 i,.string ⟨#[]⟩,.slice none 0 0] rfl rfl (five_new _ _ _ _ _ _ _) (five_one rfl rfl rfl rfl rfl) (by unfold maxLen;omega) (by omega) (by simp;omega) ?_)
    intro v8 w8 hown8 hgrow8 _
    have K8:=hideK (OL.out.snoc (x:=letterH nm i) rfl HML.out hown8)
    have S8:Hid (snts (ms++[(letterH nm i,.slice none 0 0)])=tellL (Pe.oths (mo.take (j+1))) i):=by unfold Hid;rw[snts_snoc,HT.out,SM.out]
    have B8:Hid (Below W.heap.size W w8):=(BL.out.alloc hzq _).grown hgrow8 (by simp;omega) (fun q hq=>(World.ownsRow.lt OL.out.row q hq).1)
    clear hown8 hgrow8 OLa
    go_wp2_with fail
    go_roundw
    case rel=>exact⟨j+1,_,by go_num,by omega,K8.out,B8.out,S8.out⟩
    case measure=>simp[intOf];omega
  ·obtain rfl:j=n:=by omega
   have hltD:decide ((j:Int)<(j:Int))=false:=by simp
   have HE:Hid (snts ms=tellL (Pe.oths mo) i):=by
    have:=SM.out
    rw[List.take_of_length_le (by rw[HM.out];exact Nat.le_refl _)]at this
    exact this
   go_wp2_with fail
   go_ret
   exact⟨_,ms,rfl,OL.out,HE.out,BL.out⟩
end Go.Proofs.YtpddanmnlkcdpaaGreatDoor.Tk


/- The specification: a game whose others turn. -/
namespace Go.Proofs.YtpddanmnlkcdpaaGreatDoor.Tk
open Go.RowKit
open Kp
open Pe
open Pl
open In (Ints OwnI)
open Ls (lowL blk_alloc countN count_spec)
def put5 (W:World) (g o:Nat) (x:Oth) (v:Value):World:=((((W.setCell ⟨g,o,none⟩ (.string x.name)).setCell ⟨g,o+1,none⟩ v).setCell ⟨g,o+2,none⟩ (.int .i64 x.asked)).setCell ⟨g,o+3,none⟩ (.int .i64 x.age)).setCell ⟨g,o+4,none⟩ (.int .i64 x.strikes)
theorem put5_grown (W:World) (g o:Nat) (x:Oth) (v:Value):W.grownBy (put5 W g o x v) (some g):=grown_more (grown_more (grown_more (grown_more (grown_set _) _) _) _) _
theorem game_others {w W W':World} {gg g:Nat} {z b:Int} {r s:ByteArray} {y:Int} {ao:Option Addr} {no co:Nat} {va:Value} {mo:List MO} {mr:List MR} {cs:Array Value} {T:TypeId} (h:Game w W gg z b r s y ao no co va mo mr) (hl:Below w.heap.size w W') (hg:W.heap[g]? = some (.cells cs T (0,0))) (h1:T≠69) (h2:T≠86) (h3:T≠2) (h4:T≠139) (h5:T≠9) (hk:∀ k o,W.heap[k]? = some o->k≠g->W'.heap[k]? = some o):Game w W' gg z b r s y ao no co va mo mr :=
 ⟨hl,h.gg0,hk gg _ h.blk (fun e=>by subst e;have:=h.blk;unfold gmB at this;rw[hg]at this;cases this;exact h1 rfl),own_others h.orow hg h2 hk,fun x hx=>own_others (h.has x hx) hg h3 hk,h.ap,rowQ_others h.rrow hg h4 hk,h.ps.keeps (KeepsS.others hg h5 hk)⟩
theorem game_put {w W:World} {gg go j:Nat} {z b:Int} {r s:ByteArray} {y:Int} {no co:Nat} {va:Value} {mo:List MO} {mr:List MR} (h:Game w W gg z b r s y (some ⟨go,0,none⟩) no co va mo mr) (hm:mo.length=no) (hj:j<mo.length) (x:Oth) (hx:x.has=mo[j].1.has):Game w (put5 W go (j*5) x mo[j].2) gg z b r s y (some ⟨go,0,none⟩) no co va (mo.set j (x,mo[j].2)) mr:=by
 have R0:W.ownsRow w.heap.size 86 5 (.slice (some ⟨go,0,none⟩) no co) no (cellsO mo):=by have:=h.orow;unfold OwnO at this;rwa[hm]at this
 obtain⟨cur,hb⟩:=own_blk R0
 have hgr:=put5_grown W go (j*5) x mo[j].2
 have hk:∀ k o,W.heap[k]? = some o->k≠go->(put5 W go (j*5) x mo[j].2).heap[k]? = some o:=fun k o hk hne=>(hgr.block k (lt_rowK hk) (fun e=>hne (Option.some.inj e))).trans hk
 have hgo:w.heap.size<=go:=(World.ownsRow.lt R0 go rfl).1
 refine⟨h.low.grown hgr h.low.size (fun q hq=>by cases hq;exact hgo),h.gg0,hk gg _ h.blk (fun e=>by subst e;have:=h.blk;unfold gmB at this;rw[hb]at this;cases this),?_,fun y hy=>?_,apart_snd (snd_set hj x) h.ap,rowQ_others h.rrow hb (by decide) hk,h.ps.keeps (KeepsS.others hb (by decide) hk)⟩
 ·exact OwnO.set h.orow hm hj (x,mo[j].2)
 ·rcases List.mem_or_eq_of_mem_set hy with hy|rfl
  ·exact own_others (h.has y hy) hb (by decide) hk
  ·dsimp only
   rw[hx]
   exact own_others (h.has mo[j] (List.getElem_mem hj)) hb (by decide) hk
theorem hasOut_fix (m:List MR) (i:Int):∃ v:Int,(∀ e,HasOut m i e->e=.returned (.int .i64 v))/\(decide (0<=v)=decide (i∈idxs m)):=by
 by_cases h:i∈idxs m
 ·rw[decide_eq_true h]
  have key:∀ (n j:Nat),j<=n->(hj:j<m.length)->m[j].1.1=i->∃ (j0:Nat) (hj0:j0<m.length),m[j0].1.1=i/\∀ k (hk:k<j0),¬(m[k]'(Nat.lt_trans hk hj0)).1.1=i:=fun n=>by
   induction n with
   |zero =>
    intro j hjn hj e
    obtain rfl:j=0:=by omega
    exact⟨0,hj,e,fun k hk=>absurd hk (Nat.not_lt_zero _)⟩
   |succ n ih =>
    intro j hjn hj e
    by_cases hx:∃ (k:Nat) (hk:k<j),(m[k]'(Nat.lt_trans hk hj)).1.1=i
    ·obtain⟨k,hk,he⟩:=hx
     exact ih k (by omega) (Nat.lt_trans hk hj) he
    ·exact⟨j,hj,e,fun k hk he=>hx ⟨k,hk,he⟩⟩
  obtain⟨q,hq,he⟩:=List.mem_map.1 h
  obtain⟨j,hj,rfl⟩:=List.getElem_of_mem hq
  obtain⟨j0,hj0,h1,h2⟩:=key j j (Nat.le_refl _) hj he
  refine⟨(j0:Int),fun e ho=>?_,decide_eq_true (by omega)⟩
  rcases ho with⟨j',hj',h1',h2',rfl⟩|⟨hno,_⟩
  ·have:j'=j0:=by
    rcases Nat.lt_trichotomy j' j0 with h|h|h
    ·exact absurd h1' (h2 j' h)
    ·exact h
    ·exact absurd h1 (h2' j0 h)
   rw[this]
  ·exact absurd h1 (hno j0 hj0)
 ·rw[decide_eq_false h]
  refine⟨-1,fun e ho=>?_,rfl⟩
  rcases ho with⟨j',hj',h1',_,_⟩|⟨_,rfl⟩
  ·exact absurd (List.mem_map.2 ⟨m[j'],List.getElem_mem hj',h1'⟩) h
  ·rfl
end Go.Proofs.YtpddanmnlkcdpaaGreatDoor.Tk


namespace Go.Proofs.YtpddanmnlkcdpaaGreatDoor.Kp
open Go.RowKit
open Ls (rightB lV lowL blkL cells3)
open St (Strs)
def addS (fit:Rec->Bool) (z b:Int) (r s:ByteArray) (y:Int) (out:List Rec) (x:Rec):Value :=
 if fit x=false then koV 0 0 ⟨#[]⟩ ⟨#[]⟩ 0 5
 else if hasR out x.1=true then koV 0 0 ⟨#[]⟩ ⟨#[]⟩ 0 7
 else if 8000<(s++recT x).size then koV 0 0 ⟨#[]⟩ ⟨#[]⟩ 0 9
 else koV z b r (s++recT x) y 0
theorem kB_set3 {W:World} {g:Nat} {z b:Int} {r s:ByteArray} {y:Int} (h:W.heap[g]? = some (kB z b r s y)) (t:ByteArray):(W.setCell ⟨g,3,none⟩ (.string t)).heap[g]? = some (kB z b r t y):=(k_set h t 0).1
theorem l08Add_any (fit:Rec->Bool) (z b:Int) (r s:ByteArray) (y:Int) (base:Nat) (v:Value) (m:List MR) (x:MR) (w:World) (hs:s.size<=8000) (hm:m.length<=1048576) (hrow:RowQ w base v m) (ht:x.1.2.1.size<=8000) (hpl:x.1.2.2.length<=1048576) (hp:∃ a cap,x.2=.slice a x.1.2.2.length cap/\x.1.2.2.length<=cap/\Strs w w.heap.size a x.1.2.2) (hf:FitS fit z b r w) (hff:FitF fit) :
  Calls Tryz.prog 120 #[kV z b r s y,v,.agg #[.int .i64 x.1.1,.string x.1.2.1,x.2]] w fun e w'=>e=.returned (addS fit z b r s y (recs m) x.1)/\Below w.heap.size w w':=by
 obtain⟨⟨i,t,p⟩,xv⟩:=x
 obtain⟨a,cap,hv,hc,hst⟩:=hp
 dsimp only at ht hpl hv hc hst ⊢
 subst hv
 obtain⟨n,hn⟩:∃ n,n=p.length:=⟨_,rfl⟩
 have C0:=hideK ((((Cx.nil w).new (kB z b r s y)).new (.cells #[.int .i64 i,.string t,.slice a p.length cap] 139)).new koZ)
 simp only[World.size_alloc]at C0
 have HA:Hid (addS fit z b r s y (recs m) (i,t,p)=if fit (i,t,p)=false then koV 0 0 ⟨#[]⟩ ⟨#[]⟩ 0 5 else if hasR (recs m) i=true then koV 0 0 ⟨#[]⟩ ⟨#[]⟩ 0 7 else if 8000<(s++recT (i,t,p)).size then koV 0 0 ⟨#[]⟩ ⟨#[]⟩ 0 9 else koV z b r (s++recT (i,t,p)) y 0):=rfl
 generalize addS fit z b r s y (recs m) (i,t,p)=A at HA ⊢
 have HFT:=hideK (fun W (h:Below w.heap.size w W) (h4:p.length<=20)=>hf W ((i,t,p),.slice a p.length cap) h ht h4 ⟨a,cap,rfl,hc,(hst.below h).mono h.size⟩)
 have HTX:=hideK (fun W (h:Below w.heap.size w W) (hk:fit (i,t,p)=true)=>l08Text_any ((i,t,p),.slice a p.length cap) W (hff _ hk).1 (hff _ hk).2.1 (hff _ hk).2.2.1 (hff _ hk).2.2.2.1 (hff _ hk).2.2.2.2 ⟨a,cap,rfl,hc,(hst.below h).mono h.size⟩)
 have HLG:Hid (20<n->fit (i,t,p)=false):=fun h=>by
  cases hq:fit (i,t,p) with
  |false=>rfl
  |true=>have:=(hff _ hq).2.2.2.1;dsimp only at this;omega
 have HRW:=hideK (fun W (h:Below w.heap.size w W)=>l08Has_any base m.length i v m W (hrow.below h) rfl hm)
 dsimp only at HFT HTX
 rw[<-hn]at hpl hc HFT HTX C0 ⊢
 have hTs:=recT_size (i,t,p)
 generalize recT (i,t,p)=T at HA HTX hTs
 obtain⟨a1,cap1,hv1,_⟩:=hrow.one
 unfold kV
 unfold lV at HFT
 unfold kB koZ at C0
 unfold koV at HA
 clear hst hf hff hn hrow
 subst hv1
 go_enter Tryz.func120,Tryz.ntmps120
 go_upto_region 1 with fail
 generalize ((w.alloc _).alloc _).alloc _=W0 at C0 ⊢
 generalize hgk:w.heap.size=gk at C0 ⊢
 have HGK:=hideK hgk
 clear hgk
 obtain⟨k0,k1,k2,k3,k4⟩:=k_cells (C0.out.get 2 rfl)
 obtain⟨x0,x1,x2⟩:=cells3 (C0.out.get 1 rfl)
 by_cases h20:n<=20
 ·have h20':¬((20:Int)<n):=by omega
  have h20D:decide ((20:Int)<(n:Int))=false:=by simp;omega
  have HFT1:=hideK (HFT.out W0 C0.out.low h20)
  go_wp2_with fail
  refine HFT1.out.mono ?_
  rintro e w1 ⟨rfl,hb⟩
  have C1:=hideK (C0.out.call hb)
  clear hb C0 HFT HFT1 HLG k0 k1 k2 k3 k4 x0 x1 x2
  obtain⟨x0,x1,x2⟩:=cells3 (C1.out.get 1 rfl)
  cases hfit:fit (i,t,p) with
  |false =>
   rw[hfit,if_pos rfl]at HA
   have HE:=HA
   clear hfit HTX HRW
   obtain⟨q0,q1,q2,q3,q4,q5⟩:=cells6 (C1.out.get 0 rfl)
   have ff:=fun o=>frozen_of_row w1 (gk+1+1) o _ _ (C1.out.get 0 rfl)
   have HF:=hideK (ans6 (C1.out.get 0 rfl) C1.out.low (by have:=HGK.out;omega) (.int .i64 0) (.int .i64 0) (.string ⟨#[]⟩) (.string ⟨#[]⟩) (.int .i64 0) (.int .i64 5))
   have s6:=cells6 HF.out.2
   go_wp2_with fail
   exact bodyPost_ret (v:=.agg #[.int .i64 0,.int .i64 0,.string ⟨#[]⟩,.string ⟨#[]⟩,.int .i64 0,.int .i64 5]) (by simp[results,Tryz.results120,go_sem,s6.1,s6.2.1,s6.2.2.1,s6.2.2.2.1,s6.2.2.2.2.1,s6.2.2.2.2.2]) rfl ⟨by rw[HE.out],HF.out.1⟩
  |true =>
   rw[hfit,if_neg (by decide)]at HA
   have HTX1:=hideK (fun W hW=>HTX.out W hW hfit)
   clear hfit HTX
   go_wp2_with fail
   refine(HRW.out _ C1.out.low).mono ?_
   rintro e w2 ⟨hho,hw⟩
   subst w2
   rcases hho.cases with⟨hhas,jh,rfl⟩|⟨hhas,rfl⟩
   ·rw[hhas,if_pos rfl]at HA
    have HE:=HA
    clear hho hhas HTX1 HRW
    obtain⟨q0,q1,q2,q3,q4,q5⟩:=cells6 (C1.out.get 0 rfl)
    have ff:=fun o=>frozen_of_row w1 (gk+1+1) o _ _ (C1.out.get 0 rfl)
    have HF:=hideK (ans6 (C1.out.get 0 rfl) C1.out.low (by have:=HGK.out;omega) (.int .i64 0) (.int .i64 0) (.string ⟨#[]⟩) (.string ⟨#[]⟩) (.int .i64 0) (.int .i64 7))
    have s6:=cells6 HF.out.2
    go_wp2_with fail
    exact bodyPost_ret (v:=.agg #[.int .i64 0,.int .i64 0,.string ⟨#[]⟩,.string ⟨#[]⟩,.int .i64 0,.int .i64 7]) (by simp[results,Tryz.results120,go_sem,s6.1,s6.2.1,s6.2.2.1,s6.2.2.2.1,s6.2.2.2.2.1,s6.2.2.2.2.2]) rfl ⟨by rw[HE.out],HF.out.1⟩
   ·rw[hhas,if_neg (by decide)]at HA
    clear hho hhas HRW
    go_upto_region 5 with fail
    obtain⟨k0,k1,k2,k3,k4⟩:=k_cells (C1.out.get 2 rfl)
    have g3:=fun d os=>cell_regrown k3 d os
    have e0:=fun d os=>cell_regrown x0 d os
    have e1:=fun d os=>cell_regrown x1 d os
    have e2:=fun d os=>cell_regrown x2 d os
    have hmx:=mixedT
    have s1:¬9223372036854775807<s.size+T.size:=by omega
    refine wp_region_quiet_below (by assumption) (by kernel_rfl) ?_
    repeat (go_big_quiet_step ((first|(go_at_call 154;exact Calls.regrown_of (HTX1.out _ (lowL C1.out.low (below_regrown _ _ _)))))))
    refine wpQuiet_nil ?_
    intro _ hw'
    obtain⟨⟨dq,osq⟩,hw''⟩:=hw'
    subst hw''
    have K1:=hideK (below_regrown w1 dq osq)
    generalize Go.Sort.grow (redrawn w1 dq) osq=w8 at K1 ⊢
    have C8:=hideK (C1.out.call K1.out)
    clear g3 e0 e1 e2 k0 k1 k2 k3 k4 x0 x1 x2 C1 K1 HTX1
    generalize s++T=L at HA ⊢
    obtain⟨k0,k1,k2,k3,k4⟩:=k_cells (C8.out.get 2 rfl)
    by_cases h9:8000<L.size
    ·rw[if_pos h9]at HA
     have HE:=HA
     have h9':(8000:Int)<L.size:=by omega
     obtain⟨q0,q1,q2,q3,q4,q5⟩:=cells6 (C8.out.get 0 rfl)
     have ff:=fun o=>frozen_of_row w8 (gk+1+1) o _ _ (C8.out.get 0 rfl)
     have HF:=hideK (ans6 (C8.out.get 0 rfl) C8.out.low (by have:=HGK.out;omega) (.int .i64 0) (.int .i64 0) (.string ⟨#[]⟩) (.string ⟨#[]⟩) (.int .i64 0) (.int .i64 9))
     have s6:=cells6 HF.out.2
     go_wp2_with fail
     exact bodyPost_ret (v:=.agg #[.int .i64 0,.int .i64 0,.string ⟨#[]⟩,.string ⟨#[]⟩,.int .i64 0,.int .i64 9]) (by simp[results,Tryz.results120,go_sem,s6.1,s6.2.1,s6.2.2.1,s6.2.2.2.1,s6.2.2.2.2.1,s6.2.2.2.2.2]) rfl ⟨by rw[HE.out],HF.out.1⟩
    ·rw[if_neg h9]at HA
     have HE:=HA
     have h9':¬((8000:Int)<L.size):=by omega
     have h9D:decide ((8000:Int)<L.size)=false:=by simp;omega
     have fk:=fun o=>frozen_of_row w8 gk o _ _ (C8.out.get 2 rfl)
     have X9:=hideK (kB_set3 (C8.out.get 2 rfl) L)
     have C9:Hid (Cx w (w8.setCell ⟨gk,3,none⟩ (.string L)) [(gk+1+1,.cells #[.int .i64 0,.int .i64 0,.string ⟨#[]⟩,.string ⟨#[]⟩,.int .i64 0,.int .i64 0] 171)]):=Cx.set ⟨C8.out.low,fun x hx=>C8.out.blk x (by rw[List.mem_singleton.1 hx];exact List.mem_cons_self)⟩ (by have:=HGK.out;omega) (fun x hx=>by rw[List.mem_singleton.1 hx];show gk+1+1≠gk;omega) 3 _
     go_upto_region 9 with fail
     generalize w8.setCell ⟨gk,3,none⟩ (.string L)=W9 at X9 C9 ⊢
     clear C8 k0 k1 k2 k3 k4 fk
     obtain⟨k0,k1,k2,k3,k4⟩:=k_cells X9.out
     obtain⟨q0,q1,q2,q3,q4,q5⟩:=cells6 (C9.out.get 0 rfl)
     have ff:=fun o=>frozen_of_row W9 (gk+1+1) o _ _ (C9.out.get 0 rfl)
     have HF:=hideK (ans6 (C9.out.get 0 rfl) C9.out.low (by have:=HGK.out;omega) (.int .i64 z) (.int .i64 b) (.string r) (.string L) (.int .i64 y) (.int .i64 0))
     have s6:=cells6 HF.out.2
     go_wp2_with fail
     exact bodyPost_ret (v:=.agg #[.int .i64 z,.int .i64 b,.string r,.string L,.int .i64 y,.int .i64 0]) (by simp[results,Tryz.results120,go_sem,s6.1,s6.2.1,s6.2.2.1,s6.2.2.2.1,s6.2.2.2.2.1,s6.2.2.2.2.2]) rfl ⟨by rw[HE.out],HF.out.1⟩
 ·have h20':(20:Int)<n:=by omega
  rw[HLG.out (by omega),if_pos rfl]at HA
  have HE:=HA
  clear HFT HTX HRW HLG
  obtain⟨q0,q1,q2,q3,q4,q5⟩:=cells6 (C0.out.get 0 rfl)
  have ff:=fun o=>frozen_of_row W0 (gk+1+1) o _ _ (C0.out.get 0 rfl)
  have HF:=hideK (ans6 (C0.out.get 0 rfl) C0.out.low (by have:=HGK.out;omega) (.int .i64 0) (.int .i64 0) (.string ⟨#[]⟩) (.string ⟨#[]⟩) (.int .i64 0) (.int .i64 5))
  have s6:=cells6 HF.out.2
  go_wp2_with fail
  exact bodyPost_ret (v:=.agg #[.int .i64 0,.int .i64 0,.string ⟨#[]⟩,.string ⟨#[]⟩,.int .i64 0,.int .i64 5]) (by simp[results,Tryz.results120,go_sem,s6.1,s6.2.1,s6.2.2.1,s6.2.2.2.1,s6.2.2.2.2.1,s6.2.2.2.2.2]) rfl ⟨by rw[HE.out],HF.out.1⟩
theorem addS_out (fit:Rec->Bool) (z b:Int) (r s:ByteArray) (y:Int) (out:List Rec) (x:Rec):∃ z2 b2 r2 s2 y2 c2,addS fit z b r s y out x=koV z2 b2 r2 s2 y2 c2:=by
 unfold addS
 split
 ·exact⟨_,_,_,_,_,_,rfl⟩
 ·split
  ·exact⟨_,_,_,_,_,_,rfl⟩
  ·split
   ·exact⟨_,_,_,_,_,_,rfl⟩
   ·exact⟨_,_,_,_,_,_,rfl⟩
end Go.Proofs.YtpddanmnlkcdpaaGreatDoor.Kp


/- The specification: a game in which one of the others turns, whatever it has. -/
namespace Go.Proofs.YtpddanmnlkcdpaaGreatDoor.Tk
open Go.RowKit
open Kp
open Pe
open Pl
open Hr
open In (Ints OwnI)
open Ap (Own0 KeepE run_append_own0k)
open Ls (lowL blk_alloc)
theorem game_len {w W:World} {gg:Nat} {z b:Int} {r s:ByteArray} {y:Int} {ao:Option Addr} {no co:Nat} {va:Value} {mo:List MO} {mr:List MR} (h:Game w W gg z b r s y ao no co va mo mr):mo.length=no:=by
 obtain⟨a,c,hv,_,_⟩:=h.orow.one
 simp at hv
 exact hv.2.1.symm
theorem game_putV {w W:World} {gg go j:Nat} {z b:Int} {r s:ByteArray} {y:Int} {no co:Nat} {va:Value} {mo:List MO} {mr:List MR} (h:Game w W gg z b r s y (some ⟨go,0,none⟩) no co va mo mr) (hj:j<mo.length) (x:Oth) (v:Value) (hI:OwnI W w.heap.size v x.has) (hv:∀ t (ht:t<mo.length),t≠j->∀ k,v.ownBlock=some k->mo[t].2.ownBlock≠some k):Game w (put5 W go (j*5) x v) gg z b r s y (some ⟨go,0,none⟩) no co va (mo.set j (x,v)) mr:=by
 have hm:=game_len h
 have R0:W.ownsRow w.heap.size 86 5 (.slice (some ⟨go,0,none⟩) no co) no (cellsO mo):=by have:=h.orow;unfold OwnO at this;rwa[hm]at this
 obtain⟨cur,hb⟩:=own_blk R0
 have hgr:=put5_grown W go (j*5) x v
 have hk:∀ k o,W.heap[k]? = some o->k≠go->(put5 W go (j*5) x v).heap[k]? = some o:=fun k o hk hne=>(hgr.block k (lt_rowK hk) (fun e=>hne (Option.some.inj e))).trans hk
 have hgo:w.heap.size<=go:=(World.ownsRow.lt R0 go rfl).1
 refine⟨h.low.grown hgr h.low.size (fun q hq=>by cases hq;exact hgo),h.gg0,hk gg _ h.blk (fun e=>by subst e;have:=h.blk;unfold gmB at this;rw[hb]at this;cases this),?_,fun q hq=>?_,?_,rowQ_others h.rrow hb (by decide) hk,h.ps.keeps (KeepsS.others hb (by decide) hk)⟩
 ·exact OwnO.set h.orow hm hj (x,v)
 ·rcases List.mem_or_eq_of_mem_set hq with hq|rfl
  ·exact own_others (h.has q hq) hb (by decide) hk
  ·exact own_others hI hb (by decide) hk
 ·have hp:=List.pairwise_iff_getElem.1 h.ap
  refine List.pairwise_iff_getElem.2 fun i t hi ht hit g hg=>?_
  rw[List.length_set]at hi ht
  rw[List.getElem_set]at hg ⊢
  by_cases e1:j=i
  ·rw[if_pos e1]at hg
   rw[if_neg (by omega)]
   exact hv t ht (by omega) g hg
  ·rw[if_neg e1]at hg
   by_cases e2:j=t
   ·rw[if_pos e2]
    exact fun e'=>hv i hi (by omega) g e' hg
   ·rw[if_neg e2]
    exact hp i t hi ht hit g hg
theorem game_putS {w W:World} {gg go j:Nat} {z b:Int} {r s:ByteArray} {y:Int} {no co:Nat} {va:Value} {mo:List MO} {mr:List MR} (h:Game w W gg z b r s y (some ⟨go,0,none⟩) no co va mo mr) (hj:j<mo.length) (x:Oth) (hx:x.has=mo[j].1.has):Game w (put5 W go (j*5) x mo[j].2) gg z b r s y (some ⟨go,0,none⟩) no co va (mo.set j (x,mo[j].2)) mr:=game_put h (game_len h) hj x hx
theorem put5_keep {W:World} {go o:Nat} {x:Oth} {v:Value} {k:Nat} {q:Obj} (hk:W.heap[k]? = some q) (hne:k≠go):(put5 W go o x v).heap[k]? = some q:=((put5_grown W go o x v).block k (lt_rowK hk) (fun e=>hne (Option.some.inj e))).trans hk
def GEnd (w:World) (gg:Nat) (z b:Int) (r:ByteArray) (h:HO) (q:Ending) (W:World):Prop :=
 ∃ (va:Value) (ao:Option Addr) (no co:Nat) (as':Option Addr) (ns cs:Nat) (mo:List MO) (ms:List ML),q=.returned (.slice as' ns cs)/\W.heap[gg]? = some (gmB z b r h.s h.y (.slice ao no co) va)/\Pe.oths mo=h.os/\snts ms=h.ss/\PoIn W w.heap.size (.slice ao no co) (.slice as' ns cs) mo ms/\Below w.heap.size w W/\FewL ms
theorem game_end {w W:World} {gg:Nat} {z b:Int} {r s:ByteArray} {y:Int} {ao:Option Addr} {no co:Nat} {va:Value} {mo:List MO} {mr:List MR} (h:Game w W gg z b r s y ao no co va mo mr):GEnd w gg z b r ⟨s,y,Pe.oths mo,[]⟩ (.returned (.slice none 0 0)) W :=
 ⟨va,ao,no,co,none,0,0,mo,[],rfl,h.blk,rfl,rfl,h.poIn (OwnL.nil _ _) (fun _ hx=>absurd hx List.not_mem_nil),h.low,.inl fun _ hx=>absurd hx List.not_mem_nil⟩
theorem game_five {w W:World} {gg go j:Nat} {z b:Int} {r s:ByteArray} {y:Int} {no co:Nat} {va:Value} {mo:List MO} {mr:List MR} (h:Game w W gg z b r s y (some ⟨go,0,none⟩) no co va mo mr) (hj:j<mo.length):W.cell? ⟨gg,5,none⟩=some (.slice (some ⟨go,0,none⟩) no co)/\W.cell? ⟨go,j*5,none⟩=some (.string mo[j].1.name)/\W.cell? ⟨go,j*5+1,none⟩=some mo[j].2/\W.cell? ⟨go,j*5+2,none⟩=some (.int .i64 mo[j].1.asked)/\W.cell? ⟨go,j*5+3,none⟩=some (.int .i64 mo[j].1.age)/\W.cell? ⟨go,j*5+4,none⟩=some (.int .i64 mo[j].1.strikes)/\(∀ t,W.frozen? ⟨go,t,none⟩=false)/\go<W.heap.size/\∃ ax cx,mo[j].2=.slice ax mo[j].1.has.length cx:=by
 have hm:=game_len h
 have R:W.ownsRow w.heap.size 86 5 (.slice (some ⟨go,0,none⟩) no co) no (cellsO mo):=by have:=h.orow;unfold OwnO at this;rwa[hm]at this
 have hc:=cellsO_at mo j hj
 have hb:=h.blk
 unfold gmB at hb
 obtain⟨cur,hg⟩:=own_blk R
 obtain⟨ax,cx,hv,_⟩:=(h.has mo[j] (List.getElem_mem hj)).ints
 exact⟨cell_of_row W gg 5 _ _ _ hb,(own_cell R hc.1).1,(own_cell R hc.2.1).1,(own_cell R hc.2.2.1).1,(own_cell R hc.2.2.2.1).1,(own_cell R hc.2.2.2.2).1,h.orow.frozen,lt_rowK hg,ax,cx,hv⟩
theorem game_ne {w W:World} {gg go g:Nat} {z b:Int} {r s:ByteArray} {y:Int} {no co:Nat} {va:Value} {mo:List MO} {mr:List MR} {cs:Array Value} {T:TypeId} (h:Game w W gg z b r s y (some ⟨go,0,none⟩) no co va mo mr) (hg:W.heap[g]? = some (.cells cs T (0,0))) (hT:T≠86):g≠go:=by
 have R:W.ownsRow w.heap.size 86 5 (.slice (some ⟨go,0,none⟩) no co) no (cellsO mo):=by have:=h.orow;unfold OwnO at this;rwa[game_len h]at this
 obtain⟨cur,hb⟩:=own_blk R
 exact ty_ne hg hb hT
theorem step_append_own0k {P:Program} {ops:Array Oper} {o:Oper} {a:Act} {w:World} {K:Act->World->Prop} {Q:Exit->Act->World->Prop} {E:Prop}
  (hg:o.guard=none) (s x:Operand) (t:TypeId) (ho:o.op=.call { callee:=.builtin .append,args:=#[s,x],argTypes:=#[t,t] })
  (base:Nat) (e:TypeId) (i:TypeInfo) (z:Value) (size bytes:Nat) (ht:P.underlying t=some (.slice e)) (hi:P.info? e=some i) (hz:i.zero=some z)
  (hsize:i.size=size) (hby:i.bytes=bytes) (hzs:z.cells.size=size) (hsz:0<size)
  (v:Value) (n:Nat) (xs:List Value) (hs:a.eval s=v) (hown:Own0 w base e size v n xs)
  (ad:Addr) (m c:Nat) (news:List Value) (hx:a.eval x=.slice (some ad) m c) (hl:news.length=m*size) (hnews:∀ j u,news[j]? = some u->w.cell? (ad.add j)=some u) (h1:∀ u∈news,u.oneCell'=true) (hm:0<m)
  (h63:n+m<=maxLen) (hbytes:(n+m)*bytes<=140737488355328) (hbase:base<=w.heap.size)
  (h:∀ v' w',w'.ownsRow base e size v' (n+m) (xs++news)->(∀ B,B<=base->Below B w w')->KeepE e w w'->K (a.put o.dst v') w') :
  if Region.wanted o (yielded ops a.tmps)=true then Oper.wp P o a w K Q else E:=by
 have hw:Region.wanted o (yielded ops a.tmps)=true:=by simp[Region.wanted,hg]
 rw[if_pos hw]
 obtain⟨v',w',hr,h2,h3,h4⟩:=run_append_own0k (P:=P) w base t o.type e i z size bytes ht hi hz hsize hby hzs hsz v n xs hown ad m c news hl hnews h1 hm h63 hbytes hbase
 unfold Oper.wp execOp
 simp only[ho,resolve,invoke,builtin,Sem.run_bind,Sem.run_pure,Result.andThen_ok,List.map_toArray,List.map_cons,List.map_nil,hs,hx,hr]
 exact h v' w' h2 h3 h4
end Go.Proofs.YtpddanmnlkcdpaaGreatDoor.Tk

