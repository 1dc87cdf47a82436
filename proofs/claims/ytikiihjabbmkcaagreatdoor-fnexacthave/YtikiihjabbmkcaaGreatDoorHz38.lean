/- Texts put together: InclSpec, LsFits, KpFits, KpInner. -/
import Derived.Test.YtikiihjabbmkcaaGreatDoorHz37
import Derived.Test.YtikiihjabbmkcaaGreatDoorHz20
import Derived.Lib.QuietBelow
import Derived.Test.YtikiihjabbmkcaaGreatDoorHz32
import Derived.Test.YtikiihjabbmkcaaGreatDoorHz30
set_option maxRecDepth 100000
set_option maxHeartbeats 8000000
namespace Go.Proofs.YtikiihjabbmkcaaGreatDoor.Tr
open Go.RowKit
open St
open Sh (nodeV nodeV_size l03Node_any)
theorem od_pos (a:Nat) (h:0<a):od a%2=1/\0<od a/\od a<=a:=by
 induction a using Nat.strongRecOn with
 |ind a ih =>
  by_cases he:a%2=0
  ·rw[od_even a he h]
   have:=ih (a/2) (by omega) (by omega)
   omega
  ·rw[od_odd a (by omega)]
   omega
/-- the loop,its conditions met -/
theorem incl_at (leaf root:ByteArray) (i0 n0:Nat) (p:List ByteArray) (b off cap B:Nat) (w:World) (hn:n0<9223372036854775808) (hin:i0<n0) (hp:p.length<=63) (hl:leaf.size=32) (hr:root.size=32) (hw:wide p=true) (hb:b<B) (hc0:∀ j (h:j<p.length),w.cell? ⟨b,off+j,none⟩=some (.string p[j])) (hB:B<=w.heap.size) :
  Calls Tryz.prog 123 #[.string leaf,.int .i64 i0,.int .i64 n0,.slice (some ⟨b,off,none⟩) p.length cap,.string root] w fun e w'=>e=.returned (.bool (decide (incl n0 i0 p leaf=some root)))/\Below w.heap.size w w':=by
 have hs:Strs w B (some ⟨b,off,none⟩) p:=.inr ⟨b,off,rfl,hb,hc0⟩
 have HWd:=hideT (wide_spec _ cap p w B hs (by omega))
 rw[hw]at HWd
 have HC:=hideT hc0
 have HW:=hideT ((wide_yes p).1 hw)
 clear hs hw hc0
 obtain⟨m,hm⟩:∃ m,m=p.length:=⟨_,rfl⟩
 have HM:=hideT hm
 rw[<-hm]at hp HWd ⊢
 clear hm
 have g1:¬(n0:Int)<=i0:=by omega
 have g2:¬n0<=i0:=by omega
 have b1:decide ((63:Int)<(m:Int))=false:=by simp;omega
 have b2:decide ((i0:Int)<0)=false:=by simp
 have b3:decide (n0<=i0)=false:=by simp;omega
 have hn':n0<9223372036854775808:=hn
 go_enter Tryz.func123,Tryz.ntmps123
 go_wp2_with fail
 refine HWd.out.mono ?_
 rintro e w1 ⟨rfl,hw1⟩
 subst w1
 go_wp2_with fail
 go_loopw [14,11,12,13] (fun kv av lv hv wr=>∃ (k x y:Nat) (h:ByteArray),kv=.int .i64 k/\av=.int .i64 x/\lv=.int .i64 y/\hv=.string h/\k<=m/\x<=y/\y<n0/\h.size=32/\incl n0 i0 p leaf=climbS x y (p.drop k) h/\Below w.heap.size w wr) (fun kv _ _ _ _=>m-(intOf kv).toNat)
 case atStart =>
  exact⟨0,i0,n0-1,leaf,rfl,rfl,by go_num,rfl,by omega,by omega,by omega,hl,rfl,Below.refl _ _⟩
 case round =>
  obtain⟨k,x,y,h,rfl,rfl,rfl,rfl,hk,hxy,hy,hh,hinc,hbel⟩:=hrel
  have HB:=hideT hbel
  have HI:=hideT hinc
  clear hbel hinc
  by_cases hlt:k<m
  ·have hkl:k<p.length:=by rw[<-HM.out];exact hlt
   have ci:=(HB.out.cell (p:=⟨b,off+k,none⟩) (by simp;omega)).trans (HC.out k hkl)
   have HSZ:=hideT (HW.out k hkl)
   have HD:=hideT (List.drop_eq_getElem_cons hkl)
   obtain⟨s,hse⟩:∃ s,s=p[k]:=⟨_,rfl⟩
   rw[<-hse]at ci HSZ HD
   clear hse
   have hs32:=HSZ.out
   by_cases hy0:y=0
   ·subst hy0
    have HE:Hid (decide (incl n0 i0 p leaf=some root)=false):=by
     unfold Hid
     rw[HI.out,HD.out,climbS_zero _ _ _ (by simp)]
     rfl
    go_wp2_with fail
    go_ret
    exact⟨ret_bool HE.out.symm,HB.out⟩
   ·have gy:¬(y:Int)=0:=by omega
    by_cases hodd:x%2=1
    ·have go1:(x:Int)%2=1:=by omega
     have HE:=hideT (climbS_odd x y s (p.drop (k+1)) h hy0 hodd)
     go_wp2_with fail
     refine(l03Node_any s h wr (by omega) (by omega)).mono ?_
     rintro e w2 ⟨rfl,hb2⟩
     have HB2:=hideT (HB.out.trans (hb2.mono HB.out.size))
     clear hb2 ci
     go_wp2_with fail
     go_loopw [11,12] (fun av lv wi=>av=.int .i64 x/\lv=.int .i64 y/\wi=w2) (fun _ _ _=>0)
     case atStart=>exact⟨rfl,rfl,rfl⟩
     case round =>
      obtain⟨rfl,rfl,hwi⟩:=hrel
      subst hwi
      go_wp2_with fail
      go_roundw
      case rel =>
       refine⟨k+1,x/2,y/2,nodeV s h,by go_num,by go_num,by go_num,rfl,by omega,by omega,by omega,nodeV_size _ _,?_,HB2.out⟩
       rw[HI.out,HD.out,HE.out]
      case measure=>simp[intOf];omega
    ·have go1:(x:Int)%2=0:=by omega
     by_cases hxy2:x=y
     ·have gxy:(x:Int)=y:=by omega
      have HE:Hid (climbS x y (s :: p.drop (k+1)) h=climbS (od x/2) (od x/2) (p.drop (k+1)) (nodeV s h)):=by
       unfold Hid
       rw[<-hxy2]
       exact climbS_end x s (p.drop (k+1)) h (by omega) (by omega)
      have HXY:=hideT hxy2
      have HO:=hideT (od_pos x (by omega))
      go_wp2_with fail
      refine(l03Node_any s h wr (by omega) (by omega)).mono ?_
      rintro e w2 ⟨rfl,hb2⟩
      have HB2:=hideT (HB.out.trans (hb2.mono HB.out.size))
      clear hb2 ci
      go_wp2_with fail
      go_loopw [11,12] (fun av lv wi=>∃ z:Nat,av=.int .i64 z/\lv=.int .i64 z/\0<z/\z<=x/\od z=od x/\wi=w2) (fun av _ _=>(intOf av).toNat)
      case atStart=>exact⟨x,by rw[HXY.out],by rw[HXY.out],by omega,Nat.le_refl _,rfl,rfl⟩
      case round =>
       obtain⟨z,rfl,rfl,hz0,hzx,hod,hwi⟩:=hrel
       subst hwi
       have HOD:=hideT hod
       clear hod
       have gz:0<(z:Int):=by omega
       by_cases hze:z%2=0
       ·have gz2:(z:Int)%2=0:=by omega
        go_wp2_with fail
        go_roundw
        case rel=>exact⟨z/2,by go_num,by go_num,by omega,by omega,by rw[<-od_even z hze hz0];exact HOD.out,trivial⟩
        case measure=>simp[intOf];omega
       ·have gz2:(z:Int)%2=1:=by omega
        have HZ:Hid (od x=z):=by
         unfold Hid
         rw[<-HOD.out]
         exact od_odd z (by omega)
        go_wp2_with fail
        go_roundw
        case rel =>
         refine⟨k+1,z/2,z/2,nodeV s h,by go_num,by go_num,by go_num,rfl,by omega,by omega,by omega,nodeV_size _ _,?_,HB2.out⟩
         rw[HI.out,HD.out,HE.out,HZ.out]
        case measure=>simp[intOf];omega
     ·have gxy:¬(x:Int)=y:=by omega
      have HE:=hideT (climbS_even x y s (p.drop (k+1)) h hy0 (by omega) hxy2)
      go_wp2_with fail
      refine(l03Node_any h s wr (by omega) (by omega)).mono ?_
      rintro e w2 ⟨rfl,hb2⟩
      have HB2:=hideT (HB.out.trans (hb2.mono HB.out.size))
      clear hb2 ci
      go_wp2_with fail
      go_roundw
      case rel =>
       refine⟨k+1,x/2,y/2,nodeV h s,by go_num,by go_num,by go_num,rfl,by omega,by omega,by omega,nodeV_size _ _,?_,HB2.out⟩
       rw[HI.out,HD.out,HE.out]
      case measure=>simp[intOf];omega
  ·have HD:Hid (p.drop k=[]):=by
    unfold Hid
    exact List.drop_eq_nil_of_le (by have:=HM.out;omega)
   by_cases hy0:y=0
   ·subst hy0
    have HE:Hid (decide (incl n0 i0 p leaf=some root)=decide (h=root)):=by
     unfold Hid
     rw[HI.out,HD.out,climbS_nil,if_pos rfl]
     simp
    go_wp2_with fail
    go_ret
    exact⟨ret_bool (by rw[HE.out];exact str_eq _ _),HB.out⟩
   ·have gy:((y:Int)==0)=false:=by simp;omega
    have HE:Hid (decide (incl n0 i0 p leaf=some root)=false):=by
     unfold Hid
     rw[HI.out,HD.out,climbS_nil,if_neg hy0]
     rfl
    go_wp2_with fail
    go_ret
    exact⟨ret_bool HE.out.symm,HB.out⟩
theorem incl_empty (leaf root:ByteArray) (i0 n0:Nat) (a:Option Addr) (cap:Nat) (w:World) (hn:n0<9223372036854775808) (hin:i0<n0) (hl:leaf.size=32) (hr:root.size=32) :
  Calls Tryz.prog 123 #[.string leaf,.int .i64 i0,.int .i64 n0,.slice a 0 cap,.string root] w fun e w'=>e=.returned (.bool (decide (incl n0 i0 [] leaf=some root)))/\Below w.heap.size w w':=by
 have HWd:=hideT (wide_spec a cap [] w 0 (.inl rfl) (by simp))
 have g1:¬(n0:Int)<=i0:=by omega
 rw[show wide []=true from rfl]at HWd
 go_enter Tryz.func123,Tryz.ntmps123
 go_wp2_with fail
 refine HWd.out.mono ?_
 rintro e w1 ⟨rfl,hw1⟩
 subst w1
 go_wp2_with fail
 go_loopw [14,11,12,13] (fun kv av lv hv wr=>kv=.int .i64 0/\av=.int .i64 i0/\lv=.int .i64 ((n0:Int)-1)/\hv=.string leaf/\wr=w) (fun _ _ _ _ _=>0)
 case atStart=>exact⟨rfl,rfl,rfl,rfl,rfl⟩
 case round =>
  obtain⟨rfl,rfl,rfl,rfl,hw⟩:=hrel
  subst hw
  by_cases h1:n0=1
  ·subst h1
   obtain rfl:i0=0:=by omega
   have HE:Hid (decide (incl 1 0 [] leaf=some root)=decide (leaf=root)):=by
    unfold Hid
    rw[incl_one,if_pos rfl]
    simp
   go_wp2_with fail
   go_ret
   exact⟨ret_bool (by rw[HE.out];exact str_eq _ _),Below.refl _ _⟩
  ·have HE:Hid (decide (incl n0 i0 [] leaf=some root)=false):=by
    unfold Hid
    rw[incl_none n0 i0 leaf (by omega)]
    rfl
   have gy:((n0:Int)-1==0)=false:=by simp;omega
   go_wp2_with fail
   go_ret
   exact⟨ret_bool HE.out.symm,Below.refl _ _⟩
theorem incl_in (leaf root:ByteArray) (i0 n0:Nat) (p:List ByteArray) (a:Option Addr) (cap B:Nat) (w:World) (hn:n0<9223372036854775808) (hin:i0<n0) (hp:p.length<=63) (hl:leaf.size=32) (hr:root.size=32) (hw:wide p=true) (hs:Strs w B a p) (hB:B<=w.heap.size) :
  Calls Tryz.prog 123 #[.string leaf,.int .i64 i0,.int .i64 n0,.slice a p.length cap,.string root] w fun e w'=>e=.returned (.bool (decide (incl n0 i0 p leaf=some root)))/\Below w.heap.size w w':=by
 rcases hs with rfl|⟨b,off,rfl,hb,hc⟩
 ·exact incl_empty leaf root i0 n0 a cap w hn hin hl hr
 ·exact incl_at leaf root i0 n0 p b off cap B w hn hin hp hl hr hw hb hc hB
theorem incl_spec (leaf root:ByteArray) (i n:Int) (p:List ByteArray) (a:Option Addr) (cap B:Nat) (w:World) (hn:n<9223372036854775808) (hp:p.length<=1048576) (hs:Strs w B a p) (hB:B<=w.heap.size) :
  Calls Tryz.prog 123 #[.string leaf,.int .i64 i,.int .i64 n,.slice a p.length cap,.string root] w fun e w'=>e=.returned (.bool (inclB leaf i n p root))/\Below w.heap.size w w':=by
 have HD:=hideT (wide_spec a cap p w B hs hp)
 have HIN:=hideT (fun (i0 n0:Nat) h1 h2 h3 h4 h5 h6=>incl_in leaf root i0 n0 p a cap B w h1 h2 h3 h4 h5 h6 hs hB)
 have HPath:=hideT (inclB_path leaf i n p root)
 clear hs
 by_cases h63:63<p.length
 ·have HF:=hideT (HPath.out (by rw[decide_eq_false (by omega)];rfl))
  generalize p.length=m at hp HD h63 ⊢
  go_enter Tryz.func123,Tryz.ntmps123
  go_wp2_with fail
  go_ret
  exact⟨ret_bool HF.out.symm,Below.refl _ _⟩
 ·cases h3:wide p with
  |false =>
   have HF:=hideT (HPath.out (by rw[h3,Bool.and_false]))
   rw[h3]at HD
   clear h3
   generalize p.length=m at hp HD h63 ⊢
   go_enter Tryz.func123,Tryz.ntmps123
   go_wp2_with fail
   refine HD.out.mono ?_
   rintro e w1 ⟨rfl,hw⟩
   subst w1
   go_wp2_with fail
   go_ret
   exact⟨ret_bool HF.out.symm,Below.refl _ _⟩
  |true =>
   have HT:Hid ((decide (p.length<=63) && wide p)=true):=by
    unfold Hid
    rw[h3,decide_eq_true (by omega)]
    rfl
   by_cases hl:leaf.size=32
   ·by_cases hr:root.size=32
    ·by_cases hi0:i<0
     ·have HF:=hideT (inclB_low leaf i n p root hi0)
      rw[h3]at HD
      clear h3 HIN
      generalize p.length=m at hp HD h63 ⊢
      go_enter Tryz.func123,Tryz.ntmps123
      go_wp2_with fail
      refine HD.out.mono ?_
      rintro e w1 ⟨rfl,hw⟩
      subst w1
      go_wp2_with fail
      go_ret
      exact⟨ret_bool HF.out.symm,Below.refl _ _⟩
     ·by_cases hin:i<n
      ·obtain⟨i',rfl⟩:∃ k:Nat,i=k:=⟨i.toNat,by omega⟩
       obtain⟨n',rfl⟩:∃ k:Nat,n=k:=⟨n.toNat,by omega⟩
       rw[inclB_in leaf i' n' p root hl hr HT.out (by omega)]
       exact HIN.out i' n' (by omega) (by omega) (by omega) hl hr h3
      ·have HF:=hideT (inclB_high leaf i n p root hin)
       have hin':n<=i:=by omega
       rw[h3]at HD
       clear h3 HIN
       generalize p.length=m at hp HD h63 ⊢
       go_enter Tryz.func123,Tryz.ntmps123
       go_wp2_with fail
       refine HD.out.mono ?_
       rintro e w1 ⟨rfl,hw⟩
       subst w1
       go_wp2_with fail
       go_ret
       exact⟨ret_bool HF.out.symm,Below.refl _ _⟩
    ·have HF:=hideT (inclB_root leaf i n p root hr)
     rw[h3]at HD
     clear h3 HIN
     generalize p.length=m at hp HD h63 ⊢
     go_enter Tryz.func123,Tryz.ntmps123
     go_wp2_with fail
     refine HD.out.mono ?_
     rintro e w1 ⟨rfl,hw⟩
     subst w1
     go_wp2_with fail
     go_ret
     exact⟨ret_bool HF.out.symm,Below.refl _ _⟩
   ·have HF:=hideT (inclB_leaf leaf i n p root hl)
    rw[h3]at HD
    clear h3 HIN
    generalize p.length=m at hp HD h63 ⊢
    go_enter Tryz.func123,Tryz.ntmps123
    go_wp2_with fail
    refine HD.out.mono ?_
    rintro e w1 ⟨rfl,hw⟩
    subst w1
    go_wp2_with fail
    go_ret
    exact⟨ret_bool HF.out.symm,Below.refl _ _⟩
end Go.Proofs.YtikiihjabbmkcaaGreatDoor.Tr


namespace Go.Proofs.YtikiihjabbmkcaaGreatDoor.Ls
open Go.RowKit
open Bk (cnt count_any)
open Bi (is_yes is_no)
open Tr (inclB incl_impl incl_spec inclB_leaf)
open Sh (Vars leafR leafV leafR_no leafR_yes leaf_impl l03Leaf_any)
open St (Strs)
def fitsB (z b:Int) (r:ByteArray) (i:Int) (t:ByteArray) (p:List ByteArray):Bool:=inclB (leafR t) i ((countN z b r:Nat):Int) p r
theorem mixedF:Tryz.prog.follows .mixedOrders=true:=by kernel_rfl
theorem vars_keepF {w w':World} (h:Vars w) (hb:Below w.heap.size w w'):Vars w':=h.below hb h.two
theorem inclB_range {leaf:ByteArray} {i n:Int} {p:List ByteArray} {root:ByteArray} (h:¬(0<=i/\i<n)):inclB leaf i n p root=false:=by
 unfold inclB
 rw[<-Bool.not_eq_true]
 simp only[Bool.and_eq_true,decide_eq_true_eq]
 exact fun q=>h ⟨q.1.1.2,q.1.2⟩
theorem fits_piece {z b:Int} {r:ByteArray} {i:Int} {t:ByteArray} {p:List ByteArray} (h:100<t.size):fitsB z b r i t p=false:=by
 unfold fitsB
 rw[leafR_no t h]
 exact inclB_leaf _ _ _ _ _ (by decide)
theorem fits_impl (z b:Int) (r:ByteArray) (i:Int) (t:ByteArray) (p:List ByteArray) (a:Option Addr) (cap m:Nat) (w:World) (ht:t.size<=maxLen) (hm:m=p.length) (hp:m<=1048576) (hcap:m<=cap) (hs:Strs w w.heap.size a p) (hV:Vars w) :
  Calls Tryz.prog 128 #[lV z b r,.int .i64 i,.string t,.slice a m cap] w fun e w'=>e=.returned (.bool (fitsB z b r i t p))/\Below w.heap.size w w':=by
 have HA:Hid (Below w.heap.size w (w.alloc (.cells #[.int .i64 z,.int .i64 b,.string r] 29))):=(Below.refl _ _).alloc (Nat.le_refl _) _
 have HX:Hid ((w.alloc (.cells #[.int .i64 z,.int .i64 b,.string r] 29)).heap[w.heap.size]? = some (.cells #[.int .i64 z,.int .i64 b,.string r] 29 (0,0))):=heap_alloc_new w _
 have HC:=hideL (fun W=>count_impl z b r W)
 have HL:=hideL (fun W h=>leaf_impl t W ht h)
 have HCL:=countN_le z b r
 have HI:Hid (∀ W,Below w.heap.size w W->Calls Tryz.prog 159 #[.string (leafR t),.int .i64 i,.int .i64 (countN z b r:Nat),.slice a m cap,.string r] W fun e w'=>e=.returned (.bool (fitsB z b r i t p))/\Below W.heap.size W w'):=fun W h=>by
  have:=incl_impl (leafR t) r i (countN z b r:Nat) p a cap W.heap.size W (by omega) (by omega) (by omega) ((hs.below h).mono h.size) (Nat.le_refl _) (vars_keepF hV h)
  rw[<-hm]at this
  exact this
 have HV:Hid (∀ W,Below w.heap.size w W->Vars W):=fun W h=>vars_keepF hV h
 have hmx:=mixedF
 clear hs hV hm
 unfold lV at HC ⊢
 generalize fitsB z b r i t p=Q at HI ⊢
 generalize leafR t=lf at HI HL
 generalize countN z b r=cn at HI HC
 go_enter Tryz.func128,Tryz.ntmps128
 go_wp2_with fail
 generalize hww:w.alloc (.cells #[.int .i64 z,.int .i64 b,.string r] 29)=wa at HA HX ⊢
 clear hww
 obtain⟨c0,c1,c2⟩:=cells3 HX.out
 generalize w.heap.size=gx at c0 c1 c2 ⊢
 have g0:=fun d os=>cell_regrown c0 d os
 have g1:=fun d os=>cell_regrown c1 d os
 have g2:=fun d os=>cell_regrown c2 d os
 refine wp_region_quiet_below (by assumption) (by kernel_rfl) ?_
 repeat (quiet_step (first|(go_at_call 160;exact Calls.regrown_of (HL.out _ (HV.out _ (lowL HA.out (below_regrown _ _ _)))))|(go_at_call 95;exact Calls.regrown_of (HC.out _))|(go_at_call 159;exact Calls.regrown_of (HI.out _ (lowL HA.out (below_regrown _ _ _))))))
 refine wpQuiet_nil ?_
 intro _ hw'
 obtain⟨⟨dq,osq⟩,hw''⟩:=hw'
 subst hw''
 have KQ:=hideL (below_regrown wa dq osq)
 generalize Go.Sort.grow (redrawn wa dq) osq=w8 at KQ ⊢
 clear g0 g1 g2 c0 c1 c2
 go_wp2_with fail
 go_ret
 exact⟨rfl,lowL HA.out KQ.out⟩
end Go.Proofs.YtikiihjabbmkcaaGreatDoor.Ls


namespace Go.Proofs.YtikiihjabbmkcaaGreatDoor.Kp
open Go.RowKit
open Ls (cells3 fitsB fits_impl lV vars_keepF)
open Sh (Vars)
open St (Strs)
def fitR (z b:Int) (r:ByteArray) (x:Rec):Bool:=decide (x.2.2.length<=20) && fitsB z b r x.1 x.2.1 x.2.2
theorem fit_long {z b:Int} {r:ByteArray} {x:Rec} (h:¬x.2.2.length<=20):fitR z b r x=false:=by
 unfold fitR
 rw[decide_eq_false h,Bool.false_and]
theorem fit_short {z b:Int} {r:ByteArray} {x:Rec} (h:x.2.2.length<=20):fitR z b r x=fitsB z b r x.1 x.2.1 x.2.2:=by
 unfold fitR
 rw[decide_eq_true h,Bool.true_and]
theorem fits_rec (z b:Int) (r:ByteArray) (x:MR) (w:World) (ht:x.1.2.1.size<=maxLen) (hp:x.1.2.2.length<=1048576) (hs:∃ a cap,x.2=.slice a x.1.2.2.length cap/\x.1.2.2.length<=cap/\Strs w w.heap.size a x.1.2.2) (hV:Vars w) :
  Calls Tryz.prog 85 #[.agg #[.int .i64 x.1.1,.string x.1.2.1,x.2],lV z b r] w fun e w'=>e=.returned (.bool (fitR z b r x.1))/\Below w.heap.size w w':=by
 obtain⟨⟨i,t,p⟩,v⟩:=x
 obtain⟨a,cap,hv,hc,hst⟩:=hs
 dsimp only at ht hp hv hc hst ⊢
 subst hv
 obtain⟨n,hn⟩:∃ n,n=p.length:=⟨_,rfl⟩
 have C0:=hideK (((Cx.nil w).new (.cells #[.int .i64 i,.string t,.slice a p.length cap] 130)).new (.cells #[.int .i64 z,.int .i64 b,.string r] 29))
 have HF:=hideK (fun (W:World) (hW:Below w.heap.size w W)=>fits_impl z b r i t p a cap n W ht hn (by omega) (by omega) ((hst.below hW).mono hW.size) (vars_keepF hV hW))
 have HL:=hideK (fun h=>fit_long (z:=z) (b:=b) (r:=r) (x:=(i,t,p)) h)
 have HS:=hideK (fun h=>fit_short (z:=z) (b:=b) (r:=r) (x:=(i,t,p)) h)
 dsimp only at HL HS
 rw[<-hn]at C0 HL HS ⊢
 clear hst hV hn hc
 unfold lV at HF ⊢
 by_cases h20:n<=20
 ·have h20':(n:Int)<=20:=by omega
  have HQ:=hideK (HS.out h20)
  rw[HQ.out]
  generalize fitsB z b r i t p=Q at HF ⊢
  clear HQ HL HS
  go_enter Tryz.func85,Tryz.ntmps85
  go_wp2_with fail
  refine(HF.out _ C0.out.low).mono ?_
  rintro e w1 ⟨rfl,hb⟩
  have B1:=hideK (C0.out.call hb).low
  clear hb C0
  go_wp2_with fail
  go_ret
  exact⟨rfl,B1.out⟩
 ·have HQ:=hideK (HL.out h20)
  rw[HQ.out]
  have h20':decide ((n:Int)<=20)=false:=by simp;omega
  clear HF HQ HL HS
  go_enter Tryz.func85,Tryz.ntmps85
  go_wp2_with fail
  go_ret
  exact⟨rfl,C0.out.low⟩
end Go.Proofs.YtikiihjabbmkcaaGreatDoor.Kp


namespace Go.Proofs.YtikiihjabbmkcaaGreatDoor.Kp
open Go.RowKit
open Gn (rd rt handle_below)
open St (OwnS)
open Ls (HH hh_keep num_all text_all cells3 set3_all set_j3)
theorem KeepsS.set3 {W:World} {g:Nat} {x y z:Value} {T:TypeId} (hg:W.heap[g]? = some (.cells #[x,y,z] T (0,0))) (hT:T≠9) (a b c:Value):KeepsS W (((W.setCell ⟨g,0,none⟩ a).setCell ⟨g,1,none⟩ b).setCell ⟨g,2,none⟩ c) :=
 ((KeepsS.set hg hT 0 a).trans (KeepsS.set (set_j3 hg a).1 hT 1 b)).trans (KeepsS.set (set_j3 (set_j3 hg a).1 b).2.1 hT 2 c)
theorem inner_no {s:ByteArray} (h:¬innerOk s):innerR s=none:=if_neg h
theorem inner_path {s:ByteArray} (h:innerOk s) (hp:pathR s (rd s (rt s (rd s 0).2.1).2.1).1.toNat (rd s (rt s (rd s 0).2.1).2.1).2.1 []=none):innerR s=none:=by
 unfold innerR
 rw[if_pos h,hp]
theorem inner_yes {s:ByteArray} {q:List ByteArray × Nat} (h:innerOk s) (hp:pathR s (rd s (rt s (rd s 0).2.1).2.1).1.toNat (rd s (rt s (rd s 0).2.1).2.1).2.1 []=some q):innerR s=if q.2=s.size then some ((rd s 0).1,(rt s (rd s 0).2.1).1,q.1) else none:=by
 unfold innerR
 rw[if_pos h,hp]
theorem readInner_any (s:ByteArray) (w:World) (hs:s.size<=1048576) (hh:HH w) :
  Calls Tryz.prog 127 #[.string s] w fun r w' =>
   ((∃ x v,innerR s=some x/\r=.returned (.tuple #[.agg #[.int .i64 x.1,.string x.2.1,v],.bool true])/\PathIn w' v x.2.2) ∨
   (innerR s=none/\r=.returned (.tuple #[.agg #[.int .i64 0,.string ⟨#[]⟩,.slice none 0 0],.bool false])))/\Below w.heap.size w w':=by
 have HHW:Hid (∀ W,Below w.heap.size w W->HH W):=fun W h=>hh_keep hh h
 have hs2:s.size<=maxLen:=by unfold maxLen;omega
 have H1:=hideK (fun W h=>Gn.get_impl s 0 W hs2 h)
 have H2:=hideK (fun W h=>Gn.text_impl s (rd s 0).2.1 W hs2 h)
 have H3:=hideK (fun W h=>Gn.get_impl s (rt s (rd s 0).2.1).2.1 W hs2 h)
 have HP:=hideK (fun n W hn=>readPath_any s (rd s (rt s (rd s 0).2.1).2.1).2.1 n W hs2 hn)
 rw[num_all]at H1 H3
 rw[text_all]at H2
 have HNO:=hideK (inner_no (s:=s))
 have HPA:=hideK (inner_path (s:=s))
 have HYE:=hideK (fun q=>inner_yes (s:=s) (q:=q))
 change Hid (∀ W,HH W->_) at H1 H2 H3
 unfold innerOk at HNO HPA HYE
 generalize innerR s=R at HNO HPA HYE ⊢
 generalize rd s (rt s (rd s 0).2.1).2.1=x3 at H3 HP HNO HPA HYE
 generalize rt s (rd s 0).2.1=x2 at H2 H3 HNO HPA HYE
 generalize rd s 0=x1 at H1 H2 HNO HPA HYE
 obtain⟨i,p1,c1⟩:=x1
 obtain⟨t,p2,c2⟩:=x2
 obtain⟨n,p3,c3⟩:=x3
 dsimp only at H1 H2 H3 HP HNO HPA HYE
 clear hh
 go_enter Tryz.func127,Tryz.ntmps127
 go_wp2_with fail
 have C0:=hideK ((Cx.nil w).new (.cells #[.int .i64 0,.string ⟨#[]⟩,.slice none 0 0] 130))
 generalize w.alloc (.cells #[.int .i64 0,.string ⟨#[]⟩,.slice none 0 0] 130)=W0 at C0 ⊢
 refine(H1.out _ (HHW.out _ C0.out.low)).mono ?_
 rintro e v1 ⟨rfl,hb⟩
 have C1:=hideK ((C0.out.call hb).new (.cells #[.int .i64 i,.int .i64 p1,.int .i64 c1] 174))
 clear hb C0
 go_wp2_with fail
 generalize v1.alloc (.cells #[.int .i64 i,.int .i64 p1,.int .i64 c1] 174)=W1 at C1 ⊢
 refine(H2.out _ (HHW.out _ C1.out.low)).mono ?_
 rintro e v2 ⟨rfl,hb⟩
 have C2:=hideK ((C1.out.call hb).new (.cells #[.string t,.int .i64 p2,.int .i64 c2] 170))
 clear hb C1
 go_wp2_with fail
 generalize v2.alloc (.cells #[.string t,.int .i64 p2,.int .i64 c2] 170)=W2 at C2 ⊢
 refine(H3.out _ (HHW.out _ C2.out.low)).mono ?_
 rintro e v3 ⟨rfl,hb⟩
 have C3:=hideK ((C2.out.call hb).new (.cells #[.int .i64 n,.int .i64 p3,.int .i64 c3] 174))
 clear hb C2
 go_upto_region 4 with fail
 generalize v3.alloc (.cells #[.int .i64 n,.int .i64 p3,.int .i64 c3] 174)=W3 at C3 ⊢
 obtain⟨a0,a1,a2⟩:=cells3 (C3.out.get 2 rfl)
 obtain⟨b0,b1,b2⟩:=cells3 (C3.out.get 1 rfl)
 obtain⟨d0,d1,d2⟩:=cells3 (C3.out.get 0 rfl)
 obtain⟨q0,q1,q2⟩:=cells3 (C3.out.get 3 rfl)
 have ff:=fun o=>frozen_of_row W3 w.heap.size o _ _ (C3.out.get 3 rfl)
 have s3:=set3_all (C3.out.get 3 rfl) (.int .i64 0) (.string ⟨#[]⟩) (.slice none 0 0)
 have E3:=hideK (set3_low C3.out.low (Nat.le_refl _) (.int .i64 0) (.string ⟨#[]⟩) (.slice none 0 0))
 generalize v1.heap.size=g1 at C3 a0 a1 a2 ⊢
 generalize v2.heap.size=g2 at C3 b0 b1 b2 ⊢
 generalize v3.heap.size=g3 at C3 d0 d1 d2 ⊢
 by_cases h1:c1=0
 ·have h1':(c1 != 0)=false:=by simp;exact h1
  by_cases h2:c2=0
  ·have h2':(c2 != 0)=false:=by simp;exact h2
   by_cases h3:c3=0
   ·have h3':(c3 != 0)=false:=by simp;exact h3
    have K:=hideK (And.intro h1 (And.intro h2 h3))
    clear h1 h2 h3
    by_cases h4:n<0
    ·have HX:=hideK (HNO.out (fun h=>by omega))
     go_wp2_with fail
     refine bodyPost_ret (v:=.tuple #[.agg #[.int .i64 0,.string ⟨#[]⟩,.slice none 0 0],.bool false]) (by simp[results,Tryz.results127,go_sem,s3.1,s3.2.1,s3.2.2]) rfl ⟨.inr ⟨HX.out,rfl⟩,E3.out⟩
    ·by_cases h5:(20:Int)<n
     ·have HX:=hideK (HNO.out (fun h=>by omega))
      go_wp2_with fail
      refine bodyPost_ret (v:=.tuple #[.agg #[.int .i64 0,.string ⟨#[]⟩,.slice none 0 0],.bool false]) (by simp[results,Tryz.results127,go_sem,s3.1,s3.2.1,s3.2.2]) rfl ⟨.inr ⟨HX.out,rfl⟩,E3.out⟩
     ·have HOK:=hideK (And.intro K.out.1 (And.intro K.out.2.1 (And.intro K.out.2.2 (And.intro (show 0<=n by omega) (show n<=20 by omega)))))
      obtain⟨k,rfl⟩:=Int.eq_ofNat_of_zero_le (show 0<=n by omega)
      have HPK:=hideK (fun W=>HP.out k W (by omega))
      have HPA1:=hideK (HPA.out HOK.out)
      have HYE1:=hideK (fun q=>HYE.out q HOK.out)
      simp only[Int.toNat_natCast]at HPA1 HYE1
      generalize pathR s k p3 []=Q at HPK HPA1 HYE1
      clear HNO HPA HYE HP HOK K E3 s3 h4
      go_wp2_with fail
      refine(HPK.out _).mono ?_
      rintro e v4 ⟨⟨q,v,hq,rfl,ho⟩|⟨hq,c,rfl⟩,hb⟩
      ·obtain⟨ap,cp,rfl,_,_⟩:=ho.strs
       have O:=hideK ho
       have C4:=hideK (C3.out.call hb)
       have HY:=hideK (HYE1.out q hq)
       obtain⟨a0,a1,a2⟩:=cells3 (C4.out.get 2 rfl)
       obtain⟨b0,b1,b2⟩:=cells3 (C4.out.get 1 rfl)
       obtain⟨q0,q1,q2⟩:=cells3 (C4.out.get 3 rfl)
       have ff:=fun o=>frozen_of_row v4 w.heap.size o _ _ (C4.out.get 3 rfl)
       clear ho hb C3 HYE1 HPA1 hq
       by_cases he:q.2=s.size
       ·have he':((q.2:Int) != (s.size:Int))=false:=by simp;omega
        rw[if_pos he]at HY
        have s3:=set3_all (C4.out.get 3 rfl) (.int .i64 i) (.string t) (.slice ap q.1.length cp)
        have E3:=hideK (set3_low C4.out.low (Nat.le_refl _) (.int .i64 i) (.string t) (.slice ap q.1.length cp))
        have O3:Hid (PathIn (((v4.setCell ⟨w.heap.size,0,none⟩ (.int .i64 i)).setCell ⟨w.heap.size,1,none⟩ (.string t)).setCell ⟨w.heap.size,2,none⟩ (.slice ap q.1.length cp)) (.slice ap q.1.length cp) q.1):=(pathIn_own O.out).keeps (KeepsS.set3 (C4.out.get 3 rfl) (by decide) _ _ _)
        go_wp2_with fail
        refine bodyPost_ret (v:=.tuple #[.agg #[.int .i64 i,.string t,.slice ap q.1.length cp],.bool true]) (by simp[results,Tryz.results127,go_sem,s3.1,s3.2.1,s3.2.2]) rfl ⟨.inl ⟨(i,t,q.1),_,HY.out,rfl,O3.out⟩,E3.out⟩
       ·have he':((q.2:Int) != (s.size:Int))=true:=by simp;omega
        rw[if_neg he]at HY
        have s3:=set3_all (C4.out.get 3 rfl) (.int .i64 0) (.string ⟨#[]⟩) (.slice none 0 0)
        have E3:=hideK (set3_low C4.out.low (Nat.le_refl _) (.int .i64 0) (.string ⟨#[]⟩) (.slice none 0 0))
        go_wp2_with fail
        refine bodyPost_ret (v:=.tuple #[.agg #[.int .i64 0,.string ⟨#[]⟩,.slice none 0 0],.bool false]) (by simp[results,Tryz.results127,go_sem,s3.1,s3.2.1,s3.2.2]) rfl ⟨.inr ⟨HY.out,rfl⟩,E3.out⟩
      ·have C4:=hideK (C3.out.call hb)
       have HX:=hideK (HPA1.out hq)
       obtain⟨q0,q1,q2⟩:=cells3 (C4.out.get 3 rfl)
       have ff:=fun o=>frozen_of_row v4 w.heap.size o _ _ (C4.out.get 3 rfl)
       have s3:=set3_all (C4.out.get 3 rfl) (.int .i64 0) (.string ⟨#[]⟩) (.slice none 0 0)
       have E3:=hideK (set3_low C4.out.low (Nat.le_refl _) (.int .i64 0) (.string ⟨#[]⟩) (.slice none 0 0))
       clear hb C3 HYE1 HPA1 hq
       go_wp2_with fail
       refine bodyPost_ret (v:=.tuple #[.agg #[.int .i64 0,.string ⟨#[]⟩,.slice none 0 0],.bool false]) (by simp[results,Tryz.results127,go_sem,s3.1,s3.2.1,s3.2.2]) rfl ⟨.inr ⟨HX.out,rfl⟩,E3.out⟩
   ·have h3':(c3 != 0)=true:=by simp;exact h3
    have HX:=hideK (HNO.out (fun h=>h3 h.2.2.1))
    go_wp2_with fail
    refine bodyPost_ret (v:=.tuple #[.agg #[.int .i64 0,.string ⟨#[]⟩,.slice none 0 0],.bool false]) (by simp[results,Tryz.results127,go_sem,s3.1,s3.2.1,s3.2.2]) rfl ⟨.inr ⟨HX.out,rfl⟩,E3.out⟩
  ·have h2':(c2 != 0)=true:=by simp;exact h2
   have HX:=hideK (HNO.out (fun h=>h2 h.2.1))
   go_wp2_with fail
   refine bodyPost_ret (v:=.tuple #[.agg #[.int .i64 0,.string ⟨#[]⟩,.slice none 0 0],.bool false]) (by simp[results,Tryz.results127,go_sem,s3.1,s3.2.1,s3.2.2]) rfl ⟨.inr ⟨HX.out,rfl⟩,E3.out⟩
 ·have h1':(c1 != 0)=true:=by simp;exact h1
  have HX:=hideK (HNO.out (fun h=>h1 h.1))
  go_wp2_with fail
  refine bodyPost_ret (v:=.tuple #[.agg #[.int .i64 0,.string ⟨#[]⟩,.slice none 0 0],.bool false]) (by simp[results,Tryz.results127,go_sem,s3.1,s3.2.1,s3.2.2]) rfl ⟨.inr ⟨HX.out,rfl⟩,E3.out⟩
end Go.Proofs.YtikiihjabbmkcaaGreatDoor.Kp

