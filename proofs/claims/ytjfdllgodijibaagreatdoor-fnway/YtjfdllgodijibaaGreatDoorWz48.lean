/- Texts put together: WaySpec. -/
import Derived.Test.YtjfdllgodijibaaGreatDoorWz19
import Derived.Test.YtjfdllgodijibaaGreatDoorWz26
import Derived.Test.YtjfdllgodijibaaGreatDoorWz25
set_option maxRecDepth 100000
set_option maxHeartbeats 8000000
namespace Go.Proofs.YtjfdllgodijibaaGreatDoor.Tr
open Go.RowKit
open St (Strs OwnS one_newS one_cellS app_one hideT)
open Sh (nodeV leafV)
open Bk (own_noneS)
open Bi (is_yes is_no)
theorem fit_text {s:Stp} (h:Fit s):s.text.size<=101:=by
 cases s with
 |leaf t =>
  have h1:t.size<=100:=h
  show ((⟨#[0]⟩:ByteArray)++t).size<=101
  rw[ByteArray.size_append]
  show 1+t.size<=101
  omega
 |node l r =>
  have h1:l.size=32/\r.size=32:=h
  show ((⟨#[1]⟩:ByteArray)++l++r).size<=101
  rw[ByteArray.size_append,ByteArray.size_append]
  show 1+l.size+r.size<=101
  omega
theorem own_last {w:World} {base:Nat} {v:Value} {l:List ByteArray} {s:ByteArray} (h:OwnS w base v (l++[s])):∃ g cap,v=.slice (some ⟨g,0,none⟩) (l.length+1) cap/\w.cell? ⟨g,l.length,none⟩=some (.string s):=by
 rcases h.split with⟨_,h0⟩|⟨g,cap,hv,_,_,ho⟩
 ·simp at h0
 ·have:=ho.cell (j:=l.length) (by simp)
  rw[List.getElem_append_right (Nat.le_refl _)]at this
  simp only[Nat.sub_self,List.getElem_cons_zero]at this
  exact⟨g,cap,by rw[hv,List.length_append];rfl,this⟩
def WayOut (t:ByteArray) (i0 n0:Nat) (p:List ByteArray) (base:Nat) (w':World) (v:Value) (ok:Bool):Prop:=(ok=true/\∃ S,gS wL wR i0 (n0-1) p (w0 t)=some S/\OwnS w' base v (S.2.map Stp.text))∨(ok=false/\gS wL wR i0 (n0-1) p (w0 t)=none)
theorem l07Way_at (t:ByteArray) (i0 n0:Nat) (p:List ByteArray) (b off cap m:Nat) (w:World) (hn:n0<=64) (hin:i0<n0) (hm:m=p.length) (hp:m<=400) (ht:t.size<=100) (hw:wide p=true) (hb:b<w.heap.size) (hc0:∀ j (h:j<p.length),w.cell? ⟨b,off+j,none⟩=some (.string p[j])) :
  Calls Tryz.prog 23 #[.string t,.int .i64 i0,.int .i64 n0,.slice (some ⟨b,off,none⟩) m cap] w fun e w'=>∃ v ok,e=.returned (.tuple #[v,.bool ok])/\Below w.heap.size w w'/\WayOut t i0 n0 p w.heap.size w' v ok:=by
 obtain⟨i1,hif,hz0,hz1,hz2⟩:=info_parts St.Tryz.infoS9
 have HC:=hideT hc0
 have HW:=hideT ((wide_yes p).1 hw)
 have HM:=hideT hm
 have HT1:Hid ((⟨#[0]⟩:ByteArray)++t=(Stp.leaf t).text):=rfl
 have n1:¬9223372036854775807<(⟨#[0]⟩:ByteArray).size+t.size:=by show ¬9223372036854775807<1+t.size;omega
 have HO:Hid (OwnS (w.alloc (.cells #[.string (Stp.leaf t).text] 9)) w.heap.size (.slice (some ⟨w.heap.size,0,none⟩) 1 1) [(Stp.leaf t).text]) :=
  ⟨rfl,.inr ⟨w.heap.size,1,#[.string (Stp.leaf t).text],rfl,Nat.le_refl _,heap_alloc_new w _,Nat.le_refl _,by unfold maxLen;omega,rfl,rfl⟩⟩
 have HA:Hid (Below w.heap.size w (w.alloc (.cells #[.string (Stp.leaf t).text] 9))):=(Below.refl _ _).alloc (Nat.le_refl _) _
 have HG:=hideT (good_w0 (t:=t) ht)
 have hsub:IntKind.i64.wrap ((n0:Int)-1)=(n0:Int)-1:=by rw[IntKind.wrap_i64];omega
 clear hw hc0 hm
 go_enter Tryz.func23,Tryz.ntmps23
 go_wp2_with fail
 rw[HT1.out]
 generalize hww:w.alloc (.cells #[.string (Stp.leaf t).text] 9)=wa at HO HA ⊢
 clear hww
 go_loopw [13,11,12,10] (fun kv av lv ov wr=>∃ (k x y:Nat) (S:WS),kv=.int .i64 k/\av=.int .i64 x/\lv=.int .i64 y/\k<=m/\x<=y/\y<n0/\GoodW S/\S.2.length=k+1/\OwnS wr w.heap.size ov (S.2.map Stp.text)/\gS wL wR i0 (n0-1) p (w0 t)=gS wL wR x y (p.drop k) S/\Below w.heap.size w wr) (fun kv _ _ _ _=>m-(intOf kv).toNat)
 case atStart =>
  exact⟨0,i0,n0-1,w0 t,rfl,rfl,by go_num,by omega,by omega,by omega,HG.out,rfl,HO.out,rfl,HA.out⟩
 case round =>
  obtain⟨k,x,y,S,rfl,rfl,rfl,hk,hxy,hy,hgd,hsl,ho,hinc,hbel⟩:=hrel
  have HB:=hideT hbel
  have HI:=hideT hinc
  have HGD:=hideT hgd
  have O:=hideT ho
  have HSL:=hideT hsl
  clear hbel hinc hgd ho hsl HO HA HG
  by_cases hlt:k<m
  ·have hlt':(k:Int)<(m:Int):=by omega
   have hkl:k<p.length:=by rw[<-HM.out];exact hlt
   have ci:=(HB.out.cell (p:=⟨b,off+k,none⟩) hb).trans (HC.out k hkl)
   have HSZ:=hideT (HW.out k hkl)
   have HD:=hideT (List.drop_eq_getElem_cons hkl)
   obtain⟨s,hse⟩:∃ s,s=p[k]:=⟨_,rfl⟩
   rw[<-hse]at ci HSZ HD
   clear hse
   by_cases hy0:y=0
   ·subst hy0
    have HE:Hid (gS wL wR i0 (n0-1) p (w0 t)=none):=by
     unfold Hid
     rw[HI.out,HD.out,gS_zero _ _ _ _ _ (by simp)]
    go_wp2_with fail
    go_ret2
    first|exact⟨_,_,rfl,HB.out,.inr ⟨rfl,HE.out⟩⟩|exact⟨_,.inl ⟨rfl,HB.out,.inr ⟨rfl,HE.out⟩⟩⟩|exact⟨_,.inr ⟨rfl,HB.out,.inr ⟨rfl,HE.out⟩⟩⟩
   ·have gy:¬(y:Int)=0:=by omega
    have gyb:((y:Int)==0)=false:=by simp;omega
    obtain⟨q0,s0,hq,hdig⟩:=HGD.out.1
    have hfit:=HGD.out.2.1 s0 (by rw[hq];simp)
    have hfs:=fit_text hfit
    have hql:q0.length=k:=by have:=congrArg List.length hq;rw[HSL.out,List.length_append]at this;simp at this;omega
    have OL:=O.out
    rw[hq,List.map_append]at OL
    obtain⟨g,cp,hv,cl⟩:=own_last OL
    rw[List.length_map,hql]at hv cl
    have HAL:Hid (∀ W,Calls Tryz.prog 40 #[.string s0.text] W fun e w'=>e=.returned (.string S.1)/\Below W.heap.size W w'):=fun W=>by
     have:=Sh.all_any s0.text W (by omega)
     rw[<-Stp.sha,hdig]at this
     exact this
    have hS1:=HGD.out.2.2
    have HGL:=hideT (good_wL HSZ.out HGD.out)
    have HGR:=hideT (good_wR HSZ.out HGD.out)
    clear OL hq hdig hfit q0 hql
    subst hv
    have hs32:=HSZ.out
    by_cases hodd:x%2=1
    ·have go1:(x:Int)%2=1:=by omega
     have HE:=hideT (gS_odd wL wR x y s (p.drop (k+1)) S hy0 hodd)
     go_wp2_with fail
     refine(HAL.out _).mono ?_
     rintro e w2 ⟨rfl,hb2⟩
     have HB2:=hideT (HB.out.trans (hb2.mono HB.out.size))
     have O2:=hideT (O.out.below hb2)
     have ci2:=(hb2.cell (p:=⟨b,off+k,none⟩) (by have:=HB.out.size;show b<_;omega)).trans ci
     have hz2':=HB2.out.size
     have HTX:Hid ((⟨#[1]⟩:ByteArray)++s++S.1=(Stp.node s S.1).text):=rfl
     have n2:¬9223372036854775807<(⟨#[1]⟩:ByteArray).size+s.size:=by show ¬9223372036854775807<1+s.size;omega
     have n3:¬9223372036854775807<(⟨#[1]⟩:ByteArray).size+s.size+S.1.size:=by show ¬9223372036854775807<1+s.size+S.1.size;omega
     clear hb2 ci cl O HAL
     go_wp2_with (at_builtin;rw[HTX.out];refine wpList_append_own _ rfl (.tmp 45) (.tmp 53) 23 rfl w.heap.size 9 i1 (.string ⟨#[]⟩) 1 16 Tryz.underlying23 hif hz0 hz1 hz2 rfl (by decide) _ _ _ rfl (World.ownsRow.alloc O2.out _) ⟨w2.heap.size,0,none⟩ 1 1 [.string (Stp.node s S.1).text] rfl rfl (one_newS w2 _ _) (one_cellS _) (by rw[List.length_map,HSL.out];unfold maxLen;omega) (by rw[List.length_map,HSL.out];omega) (by simp;omega) ?_)
     intro v3 w3 hown hgrow _
     have O3:Hid (OwnS w3 w.heap.size v3 ((S.2++[Stp.node s S.1]).map Stp.text)):=by
      unfold Hid
      rw[List.map_append]
      refine OwnS.snoc ?_
      rw[List.length_map,List.map_map]
      exact hown
     have HB3:=hideT (app_one HB2.out hz2' (Nat.le_refl _) O2.out hgrow)
     have HSL3:Hid ((S.2++[Stp.node s S.1]).length=k+1+1):=by unfold Hid;rw[List.length_append,HSL.out];rfl
     clear hown hgrow O2 ci2
     go_wp2_with fail
     go_loopw [11,12] (fun av lv wi=>av=.int .i64 x/\lv=.int .i64 y/\wi=w3) (fun _ _ _=>0)
     case atStart=>exact⟨rfl,rfl,rfl⟩
     case round =>
      obtain⟨rfl,rfl,hwi⟩:=hrel
      subst hwi
      go_wp2_with fail
      go_roundw
      case rel =>
       refine⟨k+1,x/2,y/2,wL s S,by go_num,by go_num,by go_num,by omega,by omega,by omega,HGL.out,HSL3.out,O3.out,?_,HB3.out⟩
       rw[HI.out,HD.out,HE.out]
      case measure=>simp[intOf];omega
    ·have go1:(x:Int)%2=0:=by omega
     by_cases hxy2:x=y
     ·have gxy:(x:Int)=y:=by omega
      have HE:Hid (gS wL wR x y (s :: p.drop (k+1)) S=gS wL wR (od x/2) (od x/2) (p.drop (k+1)) (wL s S)):=by
       unfold Hid
       rw[<-hxy2]
       exact gS_end wL wR x s (p.drop (k+1)) S (by omega) (by omega)
      have HXY:=hideT hxy2
      have HOP:=hideT (od_pos x (by omega))
      go_wp2_with fail
      refine(HAL.out _).mono ?_
      rintro e w2 ⟨rfl,hb2⟩
      have HB2:=hideT (HB.out.trans (hb2.mono HB.out.size))
      have O2:=hideT (O.out.below hb2)
      have ci2:=(hb2.cell (p:=⟨b,off+k,none⟩) (by have:=HB.out.size;show b<_;omega)).trans ci
      have hz2':=HB2.out.size
      have HTX:Hid ((⟨#[1]⟩:ByteArray)++s++S.1=(Stp.node s S.1).text):=rfl
      have n2:¬9223372036854775807<(⟨#[1]⟩:ByteArray).size+s.size:=by show ¬9223372036854775807<1+s.size;omega
      have n3:¬9223372036854775807<(⟨#[1]⟩:ByteArray).size+s.size+S.1.size:=by show ¬9223372036854775807<1+s.size+S.1.size;omega
      clear hb2 ci cl O HAL
      go_wp2_with (at_builtin;rw[HTX.out];refine wpList_append_own _ rfl (.tmp 45) (.tmp 53) 23 rfl w.heap.size 9 i1 (.string ⟨#[]⟩) 1 16 Tryz.underlying23 hif hz0 hz1 hz2 rfl (by decide) _ _ _ rfl (World.ownsRow.alloc O2.out _) ⟨w2.heap.size,0,none⟩ 1 1 [.string (Stp.node s S.1).text] rfl rfl (one_newS w2 _ _) (one_cellS _) (by rw[List.length_map,HSL.out];unfold maxLen;omega) (by rw[List.length_map,HSL.out];omega) (by simp;omega) ?_)
      intro v3 w3 hown hgrow _
      have O3:Hid (OwnS w3 w.heap.size v3 ((S.2++[Stp.node s S.1]).map Stp.text)):=by
       unfold Hid
       rw[List.map_append]
       refine OwnS.snoc ?_
       rw[List.length_map,List.map_map]
       exact hown
      have HB3:=hideT (app_one HB2.out hz2' (Nat.le_refl _) O2.out hgrow)
      have HSL3:Hid ((S.2++[Stp.node s S.1]).length=k+1+1):=by unfold Hid;rw[List.length_append,HSL.out];rfl
      clear hown hgrow O2 ci2
      go_wp2_with fail
      go_loopw [11,12] (fun av lv wi=>∃ z:Nat,av=.int .i64 z/\lv=.int .i64 z/\0<z/\z<=x/\od z=od x/\wi=w3) (fun av _ _=>(intOf av).toNat)
      case atStart=>exact⟨x,by rw[HXY.out],by rw[HXY.out],by omega,Nat.le_refl _,rfl,rfl⟩
      case round =>
       obtain⟨z,rfl,rfl,hz0',hzx,hod,hwi⟩:=hrel
       subst hwi
       have HOD:=hideT hod
       clear hod
       have gz:0<(z:Int):=by omega
       by_cases hze:z%2=0
       ·have gz2:(z:Int)%2=0:=by omega
        go_wp2_with fail
        go_roundw
        case rel=>exact⟨z/2,by go_num,by go_num,by omega,by omega,by rw[<-od_even z hze hz0'];exact HOD.out,trivial⟩
        case measure=>simp[intOf];omega
       ·have gz2:(z:Int)%2=1:=by omega
        have HZ:Hid (od x=z):=by
         unfold Hid
         rw[<-HOD.out]
         exact od_odd z (by omega)
        go_wp2_with fail
        go_roundw
        case rel =>
         refine⟨k+1,z/2,z/2,wL s S,by go_num,by go_num,by go_num,by omega,by omega,by omega,HGL.out,HSL3.out,O3.out,?_,HB3.out⟩
         rw[HI.out,HD.out,HE.out,HZ.out]
        case measure=>simp[intOf];omega
     ·have gxy:¬(x:Int)=y:=by omega
      have gxb:((x:Int)==y)=false:=by simp;omega
      have HE:=hideT (gS_even wL wR x y s (p.drop (k+1)) S hy0 (by omega) hxy2)
      go_wp2_with fail
      refine(HAL.out _).mono ?_
      rintro e w2 ⟨rfl,hb2⟩
      have HB2:=hideT (HB.out.trans (hb2.mono HB.out.size))
      have O2:=hideT (O.out.below hb2)
      have ci2:=(hb2.cell (p:=⟨b,off+k,none⟩) (by have:=HB.out.size;show b<_;omega)).trans ci
      have hz2':=HB2.out.size
      have HTX:Hid ((⟨#[1]⟩:ByteArray)++S.1++s=(Stp.node S.1 s).text):=rfl
      have n2:¬9223372036854775807<(⟨#[1]⟩:ByteArray).size+S.1.size:=by show ¬9223372036854775807<1+S.1.size;omega
      have n3:¬9223372036854775807<(⟨#[1]⟩:ByteArray).size+S.1.size+s.size:=by show ¬9223372036854775807<1+S.1.size+s.size;omega
      clear hb2 ci cl O HAL
      go_wp2_with (at_builtin;rw[HTX.out];refine wpList_append_own _ rfl (.tmp 66) (.tmp 74) 23 rfl w.heap.size 9 i1 (.string ⟨#[]⟩) 1 16 Tryz.underlying23 hif hz0 hz1 hz2 rfl (by decide) _ _ _ rfl (World.ownsRow.alloc O2.out _) ⟨w2.heap.size,0,none⟩ 1 1 [.string (Stp.node S.1 s).text] rfl rfl (one_newS w2 _ _) (one_cellS _) (by rw[List.length_map,HSL.out];unfold maxLen;omega) (by rw[List.length_map,HSL.out];omega) (by simp;omega) ?_)
      intro v3 w3 hown hgrow _
      have O3:Hid (OwnS w3 w.heap.size v3 ((S.2++[Stp.node S.1 s]).map Stp.text)):=by
       unfold Hid
       rw[List.map_append]
       refine OwnS.snoc ?_
       rw[List.length_map,List.map_map]
       exact hown
      have HB3:=hideT (app_one HB2.out hz2' (Nat.le_refl _) O2.out hgrow)
      have HSL3:Hid ((S.2++[Stp.node S.1 s]).length=k+1+1):=by unfold Hid;rw[List.length_append,HSL.out];rfl
      clear hown hgrow O2 ci2
      go_wp2_with fail
      go_roundw
      case rel =>
       refine⟨k+1,x/2,y/2,wR S s,by go_num,by go_num,by go_num,by omega,by omega,by omega,HGR.out,HSL3.out,O3.out,?_,HB3.out⟩
       rw[HI.out,HD.out,HE.out]
      case measure=>simp[intOf];omega
  ·have HD:Hid (p.drop k=[]):=by
    unfold Hid
    exact List.drop_eq_nil_of_le (by have:=HM.out;omega)
   have hlt':¬(k:Int)<(m:Int):=by omega
   by_cases hy0:y=0
   ·subst hy0
    have HE:Hid (gS wL wR i0 (n0-1) p (w0 t)=some S):=by
     unfold Hid
     rw[HI.out,HD.out,gS_nil,if_pos rfl]
    go_wp2_with fail
    go_ret2
    first|exact⟨_,_,rfl,HB.out,.inl ⟨rfl,S,HE.out,O.out⟩⟩|exact⟨_,.inr ⟨rfl,HB.out,.inl ⟨rfl,S,HE.out,O.out⟩⟩⟩|exact⟨_,.inl ⟨rfl,HB.out,.inl ⟨rfl,S,HE.out,O.out⟩⟩⟩
   ·have gy:((y:Int)==0)=false:=by simp;omega
    have HE:Hid (gS wL wR i0 (n0-1) p (w0 t)=none):=by
     unfold Hid
     rw[HI.out,HD.out,gS_nil,if_neg hy0]
    go_wp2_with fail
    go_ret2
    first|exact⟨_,_,rfl,HB.out,.inr ⟨rfl,HE.out⟩⟩|exact⟨_,.inl ⟨rfl,HB.out,.inr ⟨rfl,HE.out⟩⟩⟩|exact⟨_,.inr ⟨rfl,HB.out,.inr ⟨rfl,HE.out⟩⟩⟩
theorem l07Way_none (t:ByteArray) (i0 n0:Nat) (a:Option Addr) (cap:Nat) (w:World) (hn:n0<=64) (hin:i0<n0) (ht:t.size<=100) :
  Calls Tryz.prog 23 #[.string t,.int .i64 i0,.int .i64 n0,.slice a 0 cap] w fun e w'=>∃ v ok,e=.returned (.tuple #[v,.bool ok])/\Below w.heap.size w w'/\WayOut t i0 n0 [] w.heap.size w' v ok:=by
 have HT1:Hid ((⟨#[0]⟩:ByteArray)++t=(Stp.leaf t).text):=rfl
 have n1:¬9223372036854775807<(⟨#[0]⟩:ByteArray).size+t.size:=by show ¬9223372036854775807<1+t.size;omega
 have HO:Hid (OwnS (w.alloc (.cells #[.string (Stp.leaf t).text] 9)) w.heap.size (.slice (some ⟨w.heap.size,0,none⟩) 1 1) [(Stp.leaf t).text]) :=
  ⟨rfl,.inr ⟨w.heap.size,1,#[.string (Stp.leaf t).text],rfl,Nat.le_refl _,heap_alloc_new w _,Nat.le_refl _,by unfold maxLen;omega,rfl,rfl⟩⟩
 have HA:Hid (Below w.heap.size w (w.alloc (.cells #[.string (Stp.leaf t).text] 9))):=(Below.refl _ _).alloc (Nat.le_refl _) _
 have hsub:IntKind.i64.wrap ((n0:Int)-1)=(n0:Int)-1:=by rw[IntKind.wrap_i64];omega
 go_enter Tryz.func23,Tryz.ntmps23
 go_wp2_with fail
 rw[HT1.out]
 generalize hww:w.alloc (.cells #[.string (Stp.leaf t).text] 9)=wa at HO HA ⊢
 clear hww
 go_loopw [13,11,12,10] (fun kv av lv ov wr=>kv=.int .i64 0/\av=.int .i64 i0/\lv=.int .i64 ((n0:Int)-1)/\ov=.slice (some ⟨w.heap.size,0,none⟩) 1 1/\wr=wa) (fun _ _ _ _ _=>0)
 case atStart=>exact⟨rfl,rfl,rfl,rfl,rfl⟩
 case round =>
  obtain⟨rfl,rfl,rfl,rfl,hwr⟩:=hrel
  subst hwr
  by_cases hy0:n0=1
  ·subst hy0
   have HE:Hid (WayOut t i0 1 [] w.heap.size wr (.slice (some ⟨w.heap.size,0,none⟩) 1 1) true):=.inl ⟨rfl,w0 t,by rw[gS_nil];rfl,HO.out⟩
   go_wp2_with fail
   go_ret2
   first|exact⟨_,_,rfl,HA.out,HE.out⟩|exact⟨_,.inr ⟨rfl,HA.out,HE.out⟩⟩|exact⟨_,.inl ⟨rfl,HA.out,HE.out⟩⟩
  ·have HE:Hid (WayOut t i0 n0 [] w.heap.size wr (.slice (some ⟨w.heap.size,0,none⟩) 1 1) false):=.inr ⟨rfl,by rw[gS_nil,if_neg (by omega)]⟩
   have gy:(((n0:Int)-1)==0)=false:=by simp;omega
   go_wp2_with fail
   go_ret2
   first|exact⟨_,_,rfl,HA.out,HE.out⟩|exact⟨_,.inl ⟨rfl,HA.out,HE.out⟩⟩|exact⟨_,.inr ⟨rfl,HA.out,HE.out⟩⟩
theorem l07Way_any (t:ByteArray) (i0 n0:Nat) (p:List ByteArray) (a:Option Addr) (cap m:Nat) (w:World) (hn:n0<=64) (hin:i0<n0) (hm:m=p.length) (hp:m<=400) (ht:t.size<=100) (hw:wide p=true) (hs:Strs w w.heap.size a p) :
  Calls Tryz.prog 23 #[.string t,.int .i64 i0,.int .i64 n0,.slice a m cap] w fun e w'=>∃ v ok,e=.returned (.tuple #[v,.bool ok])/\Below w.heap.size w w'/\WayOut t i0 n0 p w.heap.size w' v ok:=by
 rcases hs with h0|⟨b,off,rfl,hb,hc⟩
 ·subst h0
  have h1:m=0:=hm
  subst h1
  exact l07Way_none t i0 n0 a cap w hn hin ht
 ·exact l07Way_at t i0 n0 p b off cap m w hn hin hm hp ht hw hb hc
theorem way_spec (i n:Int) (t:ByteArray) (p:List ByteArray) (a:Option Addr) (cap m:Nat) (w:World) (hm:m=p.length) (hp:m<=1048576) (hn0:-9223372036854775808<=n) (hs:Strs w w.heap.size a p) :
  Calls Tryz.prog 7 #[.int .i64 i,.int .i64 n,.string t,.slice a m cap] w fun e w'=>∃ v,e=.returned v/\OwnS w' w.heap.size v (wayL i n t p)/\Below w.heap.size w w':=by
 have HN:Hid (¬okW i n t p->wayL i n t p=[]):=fun h=>wayL_none (wayX_no h)
 have HON:=hideT (own_noneS w)
 have HBA:Hid (Below w.heap.size w (w.alloc (.cells #[] 9))):=(Below.refl _ _).alloc (Nat.le_refl _) _
 by_cases h1:400<m
 ·have h1i:(400:Int)<(m:Int):=by omega
  have HL:=hideT (HN.out fun q=>by have:=q.2.2.2.2.1;omega)
  rw[HL.out]
  clear hs hm HL HN
  go_enter Tryz.func7,Tryz.ntmps7
  go_wp2_with fail
  go_ret
  exact⟨_,rfl,HON.out,HBA.out⟩
 ·have h1i:¬(400:Int)<(m:Int):=by omega
  have h1d:decide ((400:Int)<(m:Int))=false:=by simp;omega
  by_cases h2:1<=n/\n<=64
  ·have H2:=hideT (fun W=>is_yes n 1 64 W h2.1 h2.2)
   have hsub:IntKind.i64.wrap (n-1)=n-1:=by rw[IntKind.wrap_i64];omega
   by_cases h3:0<=i/\i<=n-1
   ·have H3:=hideT (fun W=>is_yes i 0 (n-1) W h3.1 h3.2)
    by_cases h4:100<t.size
    ·have h4i:(100:Int)<(t.size:Int):=by omega
     have HL:=hideT (HN.out fun q=>by have:=q.2.2.2.1;omega)
     rw[HL.out]
     clear hs hm HL HN h2 h3
     go_enter Tryz.func7,Tryz.ntmps7
     go_wp2_with fail
     refine(H2.out _).mono ?_
     rintro e w1 ⟨rfl,hw⟩
     subst w1
     go_wp2_with fail
     refine(H3.out _).mono ?_
     rintro e w1 ⟨rfl,hw⟩
     subst w1
     go_wp2_with fail
     go_ret
     exact⟨_,rfl,HON.out,HBA.out⟩
    ·have h4i:¬(100:Int)<(t.size:Int):=by omega
     have h4d:decide ((100:Int)<(t.size:Int))=false:=by simp;omega
     have HWD:=hideT (wide_spec a cap p w w.heap.size hs (by omega))
     rw[<-hm]at HWD
     cases hwd:wide p with
     |false =>
      have HL:=hideT (HN.out fun q=>by have:=q.2.2.2.2.2;rw[hwd]at this;cases this)
      rw[HL.out]
      rw[hwd]at HWD
      clear hs hm HL HN h2 h3 hwd
      go_enter Tryz.func7,Tryz.ntmps7
      go_wp2_with fail
      refine(H2.out _).mono ?_
      rintro e w1 ⟨rfl,hw⟩
      subst w1
      go_wp2_with fail
      refine(H3.out _).mono ?_
      rintro e w1 ⟨rfl,hw⟩
      subst w1
      go_wp2_with fail
      refine HWD.out.mono ?_
      rintro e w1 ⟨rfl,hw⟩
      subst w1
      go_wp2_with fail
      go_ret
      exact⟨_,rfl,HON.out,HBA.out⟩
     |true =>
      obtain⟨i',rfl⟩:=Int.eq_ofNat_of_zero_le h3.1
      obtain⟨n',rfl⟩:=Int.eq_ofNat_of_zero_le (show 0<=n by omega)
      have HWY:=hideT (l07Way_any t i' n' p a cap m w (by omega) (by omega) hm (by omega) (by omega) hwd hs)
      have HSM:=hideT (way_same n' i' p t (by omega))
      have HYES:Hid (∀ S,gS wL wR i' (n' - 1) p (w0 t)=some S->wayL i' n' t p=S.2.map Stp.text):=fun S h=>by
       have hl:=gS_len wL wR p _ _ _ _ h
       exact wayL_some (by rw[wayX_yes ⟨by omega,by omega,by omega,by omega,by omega,hwd⟩,HSM.out];exact h)
      have HNO:Hid (gS wL wR i' (n' - 1) p (w0 t)=none->wayL i' n' t p=[]):=fun h=>by
       by_cases hok:okW i' n' t p
       ·exact wayL_none (by rw[wayX_yes hok,HSM.out];exact h)
       ·exact HN.out hok
      rw[hwd]at HWD
      generalize wayL i' n' t p=L at HYES HNO ⊢
      clear hs hm HN h2 h3 hwd HSM
      go_enter Tryz.func7,Tryz.ntmps7
      go_wp2_with fail
      refine(H2.out _).mono ?_
      rintro e w1 ⟨rfl,hw⟩
      subst w1
      go_wp2_with fail
      refine(H3.out _).mono ?_
      rintro e w1 ⟨rfl,hw⟩
      subst w1
      go_wp2_with fail
      refine HWD.out.mono ?_
      rintro e w1 ⟨rfl,hw⟩
      subst w1
      go_wp2_with fail
      refine HWY.out.mono ?_
      rintro e w2 ⟨v,ok,rfl,hb,⟨rfl,S,hS,ho⟩|⟨rfl,hS⟩⟩
      ·have HB:=hideT hb
       have O:Hid (OwnS w2 w.heap.size v L):=by rw[HYES.out S hS];exact ho
       clear hb ho hS HYES HNO
       go_wp2_with fail
       go_ret
       exact⟨_,rfl,O.out,HB.out⟩
      ·have HB:=hideT hb
       have HL:=hideT (HNO.out hS)
       have HO2:=hideT (own_noneS w2)
       clear hb hS HYES HNO
       go_wp2_with fail
       go_ret
       exact⟨_,rfl,by rw[HL.out];exact OwnS.mono HO2.out HB.out.size,HB.out.alloc HB.out.size _⟩
   ·have H3:=hideT (fun W=>is_no i 0 (n-1) W (by omega))
    have HL:=hideT (HN.out fun q=>by have:=q.1;have:=q.2.1;omega)
    rw[HL.out]
    clear hs hm HL HN h2 h3
    go_enter Tryz.func7,Tryz.ntmps7
    go_wp2_with fail
    refine(H2.out _).mono ?_
    rintro e w1 ⟨rfl,hw⟩
    subst w1
    go_wp2_with fail
    refine(H3.out _).mono ?_
    rintro e w1 ⟨rfl,hw⟩
    subst w1
    go_wp2_with fail
    go_ret
    exact⟨_,rfl,HON.out,HBA.out⟩
  ·have H2:=hideT (fun W=>is_no n 1 64 W (by omega))
   have HL:=hideT (HN.out fun q=>by have:=q.1;have:=q.2.1;have:=q.2.2.1;omega)
   rw[HL.out]
   clear hs hm HL HN h2
   go_enter Tryz.func7,Tryz.ntmps7
   go_wp2_with fail
   refine(H2.out _).mono ?_
   rintro e w1 ⟨rfl,hw⟩
   subst w1
   go_wp2_with fail
   go_ret
   exact⟨_,rfl,HON.out,HBA.out⟩
end Go.Proofs.YtjfdllgodijibaaGreatDoor.Tr

