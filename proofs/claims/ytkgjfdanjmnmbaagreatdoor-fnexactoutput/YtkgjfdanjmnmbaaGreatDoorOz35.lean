/- Texts put together: WholeSpec, StrEq, Mark, Held, StrIn, CodesWalks, CodesTop, PutWalks, CodeMap, CodeWhy. -/
import Derived.Test.YtkgjfdanjmnmbaaGreatDoorOz26
import Derived.Test.YtkgjfdanjmnmbaaGreatDoorOz34
import Derived.Test.YtkgjfdanjmnmbaaGreatDoorOz11
import Derived.BigRegion
import Derived.BigQuiet
import Derived.Deep.QuietTactic
import Derived.Test.YtkgjfdanjmnmbaaGreatDoorOz12
import Derived.Deep.RegionWith
import Derived.Test.YtkgjfdanjmnmbaaGreatDoorOz13
import Derived.Test.YtkgjfdanjmnmbaaGreatDoorOz28
import Derived.Test.YtkgjfdanjmnmbaaGreatDoorOz21
import Derived.Test.YtkgjfdanjmnmbaaGreatDoorOz31
import Derived.Maps.RangeWalk
import Derived.Maps.OwnSet
import Derived.StringKeys
import Derived.Shelf.Strings.Prefix
set_option maxRecDepth 100000
set_option maxHeartbeats 8000000
namespace Go.Proofs.YtkgjfdanjmnmbaaGreatDoor.Bi
open Go.RowKit
open In (Ints)
def sumR (l:List Int):Int × Int:=if right l=true then ((csum l:Nat),(above l:Nat)) else (-1,0)
theorem sumR_yes {l:List Int} (h:right l=true):sumR l=(((csum l:Nat):Int),((above l:Nat):Int)):=if_pos h
theorem sumR_no {l:List Int} (h:right l=false):sumR l=(-1,0):=if_neg (by rw[h];decide)
theorem good12 {l:List Int} {k:Nat} (hk:l.length<=k) (h:∀ j (hj:j<l.length),j<k->0<=l[j]/\l[j]<=12):∀ x∈l,0<=x/\x<=12:=by
 intro x hx
 obtain⟨j,hj,rfl⟩:=List.getElem_of_mem hx
 exact h j hj (by omega)
theorem good_more {l:List Int} {k:Nat} (hk:k<l.length) (h:∀ j (hj:j<l.length),j<k->0<=l[j]/\l[j]<=12) (h2:0<=l[k]/\l[k]<=12):∀ j (hj:j<l.length),j<k+1->0<=l[j]/\l[j]<=12:=by
 intro j hj hjk
 by_cases e:j=k
 ·subst e;exact h2
 ·exact h j hj (by omega)
theorem sum_spec (l:List Int) (a:Option Addr) (cap B:Nat) (w:World) (hi:Ints w B a l) (hn:l.length<=400) :
  Calls Tryz.prog 147 #[.slice a l.length cap] w fun e w'=>e=.returned (.tuple #[.int .i64 (sumR l).1,.int .i64 (sumR l).2])/\w'=w:=by
 have HS:=hideB hi
 clear hi
 obtain⟨n,hln⟩:∃ n,n=l.length:=⟨_,rfl⟩
 have HLN:=hideB hln
 rw[<-hln]at hn ⊢
 clear hln
 have HP12:=hideB (pow_any 12 w (by decide))
 obtain⟨r,hr⟩:∃ r,r=sumR l:=⟨_,rfl⟩
 rw[<-hr]
 have HR:=hideB hr
 clear hr
 go_enter Tryz.func147,Tryz.ntmps147
 go_wp2_with fail
 go_loopw [6,4,5] (fun i v u wr=>∃ k s c:Nat,i=.int .i64 k/\v=.int .i64 s/\u=.int .i64 c/\k<=n/\s=csum (l.take k)/\c=above (l.take k)/\s<=4096*k/\c<=k/\(∀ j (hj:j<l.length),j<k->0<=l[j]/\l[j]<=12)/\wr=w) (fun i _ _ _=>n-(intOf i).toNat)
 case atStart=>exact⟨0,0,0,rfl,rfl,rfl,Nat.zero_le _,by simp[csum],by simp[above],by omega,by omega,fun j hj h0=>absurd h0 (Nat.not_lt_zero j),rfl⟩
 case round =>
  obtain⟨k,s,c,rfl,rfl,rfl,hk,hs,hc',hsb,hcb,hall,hw⟩:=hrel
  subst hw
  have HC:=hideB hs
  have HD:=hideB hc'
  have HA:=hideB hall
  clear hs hc' hall
  by_cases hlt:k<n
  ·have hkl:k<l.length:=by rw[<-HLN.out];exact hlt
   obtain⟨b,off,rfl,hb,hc⟩:=HS.out.some (by omega)
   have ci:=hc k hkl
   have HM:=hideB (csum_more hkl)
   have HM':=hideB (above_more hkl)
   have HGM:=hideB (good_more hkl HA.out)
   obtain⟨x,hx⟩:∃ x,x=l[k]:=⟨_,rfl⟩
   have HX:=hideB hx
   rw[<-hx]at ci HM HM' HGM
   clear hc hx
   by_cases h0:0<=x/\x<=12
   ·have HI:=hideB (is_yes x 0 12 wr h0.1 h0.2)
    by_cases hpos:0<x
    ·obtain⟨m,rfl,hm1,hm2,hp⟩:=part_pos x hpos h0.2
     obtain⟨d,hd⟩:∃ d:Nat,d=12-m:=⟨_,rfl⟩
     have hdi:(12:Int)-m=d:=by omega
     have HQ:=hideB (pow_any d wr (by omega))
     rw[<-hd]at hp
     have hp2:2 ^ d<=4096:=by have:=part_le (m:Int);rw[hp]at this;exact this
     have HP:=hideB hp
     have HM2:Hid (above (l.take (k+1))=c+1):=by
      unfold Hid
      rw[HM'.out,if_pos hpos,HD.out]
     clear hp hd
     generalize 2 ^ d=pm at hp2 HP HQ
     go_wp2_with fail
     refine HI.out.mono ?_
     rintro e w' ⟨rfl,hw⟩
     subst w'
     go_wp2_with fail
     refine HQ.out.mono ?_
     rintro e w' ⟨rfl,hw⟩
     subst w'
     go_wp2_with fail
     go_roundw
     case rel=>exact⟨k+1,s+pm,c+1,by go_num,by go_num,by go_num,by omega,by rw[HM.out,HP.out,HC.out],HM2.out.symm,by omega,by omega,HGM.out h0,trivial⟩
     case measure=>simp[intOf];omega
    ·have HP:=hideB (part_none x hpos)
     have HM2:Hid (above (l.take (k+1))=c):=by
      unfold Hid
      rw[HM'.out,if_neg hpos,HD.out]
      rfl
     go_wp2_with fail
     refine HI.out.mono ?_
     rintro e w' ⟨rfl,hw⟩
     subst w'
     go_wp2_with fail
     go_roundw
     case rel=>exact⟨k+1,s,c,by go_num,rfl,rfl,by omega,by rw[HM.out,HP.out,HC.out];rfl,HM2.out.symm,by omega,by omega,HGM.out h0,trivial⟩
     case measure=>simp[intOf];omega
   ·have HI:=hideB (is_no x 0 12 wr (by omega))
    have HE:Hid (r=(-1,0)):=by
     unfold Hid
     rw[HR.out]
     exact sumR_no (right_no (Or.inl (within_bad (m:=12) hkl (by rw[<-HX.out];omega))))
    clear h0
    go_wp2_with fail
    refine HI.out.mono ?_
    rintro e w' ⟨rfl,hw⟩
    subst w'
    go_wp2_with fail
    go_ret2
    exact⟨by rw[HE.out];rfl,rfl⟩
  ·have HS2:Hid (s=csum l):=by
    unfold Hid
    rw[HC.out,List.take_of_length_le (by have:=HLN.out;omega)]
   have HC2:Hid (c=above l):=by
    unfold Hid
    rw[HD.out,List.take_of_length_le (by have:=HLN.out;omega)]
   have HG:=hideB (good12 (by have:=HLN.out;omega) HA.out)
   by_cases hlong:257<n
   ·have HE:Hid (r=(-1,0)):=by
     unfold Hid
     rw[HR.out]
     exact sumR_no (right_no (Or.inl (within_long (by have:=HLN.out;omega))))
    have hl':(257:Int)<n:=by omega
    go_wp2_with fail
    go_ret2
    exact⟨by rw[HE.out];rfl,rfl⟩
   ·have hl':decide ((257:Int)<n)=false:=decide_eq_false (by omega)
    have HW:Hid (within l 12=true):=within_of (by have:=HLN.out;omega) HG.out
    by_cases hbig:4096<s
    ·have HE:Hid (r=(-1,0)):=by
      unfold Hid
      rw[HR.out]
      exact sumR_no (right_no (Or.inr (by rw[<-HS2.out];omega)))
     go_wp2_with fail
     refine HP12.out.mono ?_
     rintro e w' ⟨rfl,hw⟩
     subst w'
     go_wp2_with fail
     go_ret2
     exact⟨by rw[HE.out];rfl,rfl⟩
    ·have HE:Hid (r=((s:Int),(c:Int))):=by
      unfold Hid
      rw[HR.out,HS2.out,HC2.out]
      exact sumR_yes (right_of HW.out (by rw[<-HS2.out];omega))
     have hb':decide ((4096:Int)<s)=false:=decide_eq_false (by omega)
     go_wp2_with fail
     refine HP12.out.mono ?_
     rintro e w' ⟨rfl,hw⟩
     subst w'
     go_wp2_with fail
     go_ret2
     exact⟨by rw[HE.out];rfl,rfl⟩
theorem whole_yes1 {l:List Int} (h:right l=true) (h1:csum l=4096):whole l=true:=by unfold whole;rw[h,decide_eq_true h1];rfl
theorem whole_yes2 {l:List Int} (h:right l=true) (h1:above l=1) (h2:csum l=2048):whole l=true:=by unfold whole;rw[h,decide_eq_true h1,decide_eq_true h2];simp
theorem whole_no1 {l:List Int} (h1:¬csum l=4096) (h2:¬above l=1):whole l=false:=by unfold whole;rw[decide_eq_false h1,decide_eq_false h2];simp
theorem whole_no2 {l:List Int} (h1:¬csum l=4096) (h2:¬csum l=2048):whole l=false:=by unfold whole;rw[decide_eq_false h1,decide_eq_false h2];simp
theorem l04Whole_any (l:List Int) (a:Option Addr) (cap B:Nat) (w:World) (hi:Ints w B a l) (hn:l.length<=400) :
  Calls Tryz.prog 106 #[.slice a l.length cap] w fun e w'=>e=.returned (.bool (whole l))/\w'=w:=by
 have HS:=hideB (sum_spec l a cap B w hi hn)
 have HP12:=hideB (pow_any 12 w (by decide))
 have HP11:=hideB (pow_any 11 w (by decide))
 clear hi
 cases hr:right l with
 |false =>
  have HE:=hideB (whole_no hr)
  rw[sumR_no hr]at HS
  generalize l.length=n at HS hn ⊢
  generalize whole l=wl at HE ⊢
  go_enter Tryz.func106,Tryz.ntmps106
  go_wp2_with fail
  refine HS.out.mono ?_
  rintro e w' ⟨rfl,hw⟩
  subst w'
  go_wp2_with fail
  refine HP12.out.mono ?_
  rintro e w' ⟨rfl,hw⟩
  subst w'
  go_wp2_with fail
  go_ret
  exact⟨ret_boolB HE.out.symm,rfl⟩
 |true =>
  rw[sumR_yes hr]at HS
  by_cases h1:csum l=4096
  ·have HE:=hideB (whole_yes1 hr h1)
   rw[h1]at HS
   generalize l.length=n at HS hn ⊢
   generalize whole l=wl at HE ⊢
   generalize above l=ab at HS
   clear h1
   go_enter Tryz.func106,Tryz.ntmps106
   go_wp2_with fail
   refine HS.out.mono ?_
   rintro e w' ⟨rfl,hw⟩
   subst w'
   go_wp2_with fail
   refine HP12.out.mono ?_
   rintro e w' ⟨rfl,hw⟩
   subst w'
   go_wp2_with fail
   go_ret
   exact⟨ret_boolB HE.out.symm,rfl⟩
  ·by_cases h2:above l=1
   ·by_cases h3:csum l=2048
    ·have HE:=hideB (whole_yes2 hr h2 h3)
     rw[h3,h2]at HS
     generalize l.length=n at HS hn ⊢
     generalize whole l=wl at HE ⊢
     clear h1 h2 h3
     go_enter Tryz.func106,Tryz.ntmps106
     go_wp2_with fail
     refine HS.out.mono ?_
     rintro e w' ⟨rfl,hw⟩
     subst w'
     go_wp2_with fail
     refine HP12.out.mono ?_
     rintro e w' ⟨rfl,hw⟩
     subst w'
     go_wp2_with fail
     refine HP11.out.mono ?_
     rintro e w' ⟨rfl,hw⟩
     subst w'
     go_wp2_with fail
     go_ret
     exact⟨ret_boolB HE.out.symm,rfl⟩
    ·have HE:=hideB (whole_no2 h1 h3)
     rw[h2]at HS
     have g1:(((csum l:Nat):Int)==4096)=false:=beq_eq_false_iff_ne.2 (by omega)
     have g3:(((csum l:Nat):Int)==2048)=false:=beq_eq_false_iff_ne.2 (by omega)
     generalize l.length=n at HS hn ⊢
     generalize whole l=wl at HE ⊢
     generalize csum l=cs at HS g1 g3
     clear h1 h2 h3
     go_enter Tryz.func106,Tryz.ntmps106
     go_wp2_with fail
     refine HS.out.mono ?_
     rintro e w' ⟨rfl,hw⟩
     subst w'
     go_wp2_with fail
     refine HP12.out.mono ?_
     rintro e w' ⟨rfl,hw⟩
     subst w'
     go_wp2_with fail
     refine HP11.out.mono ?_
     rintro e w' ⟨rfl,hw⟩
     subst w'
     go_wp2_with fail
     go_ret
     exact⟨ret_boolB HE.out.symm,rfl⟩
   ·have HE:=hideB (whole_no1 h1 h2)
    have g1:(((csum l:Nat):Int)==4096)=false:=beq_eq_false_iff_ne.2 (by omega)
    have g2:(((above l:Nat):Int)==1)=false:=beq_eq_false_iff_ne.2 (by omega)
    generalize l.length=n at HS hn ⊢
    generalize whole l=wl at HE ⊢
    generalize csum l=cs at HS g1
    generalize above l=ab at HS g2
    clear h1 h2
    go_enter Tryz.func106,Tryz.ntmps106
    go_wp2_with fail
    refine HS.out.mono ?_
    rintro e w' ⟨rfl,hw⟩
    subst w'
    go_wp2_with fail
    refine HP12.out.mono ?_
    rintro e w' ⟨rfl,hw⟩
    subst w'
    go_wp2_with fail
    go_ret
    exact⟨ret_boolB HE.out.symm,rfl⟩
theorem whole_impl (l:List Int) (a:Option Addr) (cap B:Nat) (w:World) (hi:Ints w B a l) (hn:l.length<=1048576) :
  Calls Tryz.prog 144 #[.slice a l.length cap] w fun e w'=>e=.returned (.bool (whole l))/\w'=w:=by
 have HR:=hideB (right_impl l a cap B w hi hn)
 have HC:=hideB (count_impl l a cap B w hi hn)
 have HK:=hideB (contains_impl l 1 a cap B w hi hn)
 cases hr:right l with
 |false =>
  have HE:=hideB (whole_no hr)
  rw[hr]at HR
  clear hi
  generalize l.length=n at HR hn ⊢
  generalize whole l=wl at HE ⊢
  go_enter Tryz.func144,Tryz.ntmps144
  go_wp2_with fail
  refine HR.out.mono ?_
  rintro e w' ⟨rfl,hw⟩
  subst w'
  go_wp2_with fail
  go_ret
  exact⟨ret_boolB HE.out.symm,rfl⟩
 |true =>
  have HS:=hideB (sum_impl l a cap B w hi (right_yes hr).1)
  rw[hr]at HR
  clear hi
  by_cases h2:above l=1
  ·rw[alone l h2]at HK
   rw[h2]at HC
   by_cases h3:csum l=2048
   ·have HE:=hideB (whole_yes2 hr h2 h3)
    rw[decide_eq_true h3]at HK
    generalize l.length=n at HR HC HK HS hn ⊢
    generalize whole l=wl at HE ⊢
    clear h2 h3 hr HS
    go_enter Tryz.func144,Tryz.ntmps144
    go_wp2_with fail
    refine HR.out.mono ?_
    rintro e w' ⟨rfl,hw⟩
    subst w'
    go_wp2_with fail
    refine HC.out.mono ?_
    rintro e w' ⟨rfl,hw⟩
    subst w'
    go_wp2_with fail
    refine HK.out.mono ?_
    rintro e w' ⟨rfl,hw⟩
    subst w'
    go_wp2_with fail
    go_ret
    exact⟨ret_boolB HE.out.symm,rfl⟩
   ·have HE:Hid (whole l=decide (csum l=4096)):=by
     unfold Hid
     by_cases h4:csum l=4096
     ·rw[whole_yes1 hr h4,decide_eq_true h4]
     ·rw[whole_no2 h4 h3,decide_eq_false h4]
    rw[decide_eq_false h3]at HK
    have HD:Hid (((((csum l:Nat):Int))==4096)=decide (csum l=4096)):=by
     unfold Hid
     rw[Bool.eq_iff_iff]
     simp
     omega
    generalize decide (csum l=4096)=dc at HE HD
    generalize l.length=n at HR HC HK HS hn ⊢
    generalize whole l=wl at HE ⊢
    generalize csum l=cs at HS HD
    clear h2 h3 hr
    go_enter Tryz.func144,Tryz.ntmps144
    go_wp2_with fail
    refine HR.out.mono ?_
    rintro e w' ⟨rfl,hw⟩
    subst w'
    go_wp2_with fail
    refine HC.out.mono ?_
    rintro e w' ⟨rfl,hw⟩
    subst w'
    go_wp2_with fail
    refine HK.out.mono ?_
    rintro e w' ⟨rfl,hw⟩
    subst w'
    go_wp2_with fail
    refine HS.out.mono ?_
    rintro e w' ⟨rfl,hw⟩
    subst w'
    go_wp2_with fail
    go_ret
    exact⟨ret_boolB (HD.out.trans HE.out.symm),rfl⟩
  ·have HE:Hid (whole l=decide (csum l=4096)):=by
    unfold Hid
    by_cases h4:csum l=4096
    ·rw[whole_yes1 hr h4,decide_eq_true h4]
    ·rw[whole_no1 h4 h2,decide_eq_false h4]
   have g2:(((above l:Nat):Int)==1)=false:=beq_eq_false_iff_ne.2 (by omega)
   have HD:Hid (((((csum l:Nat):Int))==4096)=decide (csum l=4096)):=by
    unfold Hid
    rw[Bool.eq_iff_iff]
    simp
    omega
   generalize decide (csum l=4096)=dc at HE HD
   generalize l.length=n at HR HC HK HS hn ⊢
   generalize whole l=wl at HE ⊢
   generalize csum l=cs at HS HD
   generalize above l=ab at HC g2
   clear h2 hr HK
   go_enter Tryz.func144,Tryz.ntmps144
   go_wp2_with fail
   refine HR.out.mono ?_
   rintro e w' ⟨rfl,hw⟩
   subst w'
   go_wp2_with fail
   refine HC.out.mono ?_
   rintro e w' ⟨rfl,hw⟩
   subst w'
   go_wp2_with fail
   refine HS.out.mono ?_
   rintro e w' ⟨rfl,hw⟩
   subst w'
   go_wp2_with fail
   go_ret
   exact⟨ret_boolB (HD.out.trans HE.out.symm),rfl⟩
end Go.Proofs.YtkgjfdanjmnmbaaGreatDoor.Bi


/- The laws' own look whether two rows of texts are alike. -/
namespace Go.Proofs.YtkgjfdanjmnmbaaGreatDoor.St
open Go.RowKit
end Go.Proofs.YtkgjfdanjmnmbaaGreatDoor.St


/- The laws' marks: the text of a mark, marks written into a row of texts, marks found again. -/
namespace Go.Proofs.YtkgjfdanjmnmbaaGreatDoor.St
open Go.RowKit
def dg (k:Nat) (o:ByteArray):ByteArray:=if _h:k=0 then o else dg (k/10) (⟨#[UInt8.ofNat (48+k%10)]⟩++o)
termination_by k
decreasing_by omega
def markT (k:Nat):ByteArray:=⟨#[109]⟩++dg k ⟨#[]⟩
def marks (k n:Nat):List ByteArray:=(List.range n).map fun j=>markT (k+j)
def mmid (l:List ByteArray) (k i:Nat):List ByteArray:=marks k i++l.drop i
end Go.Proofs.YtkgjfdanjmnmbaaGreatDoor.St


/- The laws' marks found again; an empty row too. -/
namespace Go.Proofs.YtkgjfdanjmnmbaaGreatDoor.St
open Go.RowKit
end Go.Proofs.YtkgjfdanjmnmbaaGreatDoor.St


/- Rows of texts between two marks of memory: what the laws' helpers do with them. -/
namespace Go.Proofs.YtkgjfdanjmnmbaaGreatDoor.St
open Go.RowKit
def OwnIn (w:World) (lo hi:Nat) (v:Value) (l:List ByteArray):Prop :=
 (v=.slice none 0 0/\l=[])∨∃ g cap,v=.slice (some ⟨g,0,none⟩) l.length cap/\lo<=g/\g<hi/\IsO w g 9 l
theorem OwnS.inn {w:World} {base:Nat} {v:Value} {l:List ByteArray} (h:OwnS w base v l):OwnIn w base w.heap.size v l:=by
 rcases h.split with h|⟨g,cap,hv,hg,_,ho⟩
 ·exact .inl h
 ·exact .inr ⟨g,cap,hv,hg,ho.lt,ho⟩
theorem IsS.inn {w:World} {g:Nat} {l:List ByteArray} (h:IsS w g 9 l) (cap:Nat):OwnIn w g (g+1) (.slice (some ⟨g,0,none⟩) l.length cap) l :=
 .inr ⟨g,cap,rfl,Nat.le_refl _,Nat.lt_succ_self _,h.own⟩
theorem OwnIn.below {w w':World} {lo hi B:Nat} {v:Value} {l:List ByteArray} (h:OwnIn w lo hi v l) (b:Below B w w') (hB:hi<=B):OwnIn w' lo hi v l:=by
 rcases h with h|⟨g,cap,hv,hg,hh,ho⟩
 ·exact .inl h
 ·exact .inr ⟨g,cap,hv,hg,hh,ho.below b (by omega)⟩
theorem OwnIn.aft {w w':World} {lo hi g:Nat} {v:Value} {l:List ByteArray} (h:OwnIn w lo hi v l) (ha:Aft g w w') (hg:g<lo∨hi<=g) (hh:hi<=w.heap.size):OwnIn w' lo hi v l:=by
 rcases h with h|⟨g',cap,hv,hg',hh',ho⟩
 ·exact .inl h
 ·exact .inr ⟨g',cap,hv,hg',hh',ho.of_heap (ha.2.2.2.2 g' (by omega) (by omega))⟩
theorem OwnIn.strs {w:World} {lo hi:Nat} {v:Value} {l:List ByteArray} (h:OwnIn w lo hi v l):∃ a cap,v=.slice a l.length cap/\Strs w hi a l:=by
 rcases h with⟨rfl,rfl⟩|⟨g,cap,rfl,_,hh,ho⟩
 ·exact⟨none,0,rfl,.inl rfl⟩
 ·exact⟨_,cap,rfl,ho.strs hh⟩
def Marked (w:World) (lo hi:Nat) (v:Value) (n:Nat):Prop:=OwnIn w lo hi v (marks 1 n)
end Go.Proofs.YtkgjfdanjmnmbaaGreatDoor.St


namespace Go.Proofs.YtkgjfdanjmnmbaaGreatDoor.Bi
open Go.RowKit
open In (Ints)
open St (IsS made_strs OwnIn IsO)
open St.Tryz (infoS9)
theorem below2 {w w1 w2:World} (h:Below w.heap.size w w1) (h2:Below w1.heap.size w1 w2):Below w.heap.size w w2:=h.trans (h2.mono h.size)
theorem codes_spec (l:List Int) (a:Option Addr) (cap B:Nat) (w:World) (hi:Ints w B a l) (hB:B<=w.heap.size) (hr:right l=true) :
  Calls Tryz.prog 149 #[.slice a l.length cap] w fun e w'=>e=.returned (.slice (some ⟨w.heap.size,0,none⟩) l.length l.length)/\IsS w' w.heap.size 9 (codesV l)/\Below w.heap.size w w':=by
 obtain⟨i0,hi0,hz0,hz1,hz2⟩:=info_parts infoS9
 have HS:=hideB (hi.mono hB)
 have HCS:=hideB (right_yes hr).2
 have hn:=(within_yes (right_yes hr).1).1
 clear hi hr
 obtain⟨n,hln⟩:∃ n,n=l.length:=⟨_,rfl⟩
 have HLN:=hideB hln
 rw[<-hln]at hn ⊢
 clear hln
 go_enter Tryz.func149,Tryz.ntmps149
 go_wp2_with (at_make;refine wpList_make_full _ rfl (.tmp 8) (.tmp 8) 47 rfl w.heap.size 9 i0 (.string ⟨#[]⟩) 1 Tryz.underlying47 hi0 hz0 hz1 .i64 .i64 _ _ n rfl rfl (by simp) (by simp) (by rw[hz2];omega) (by unfold maxLen;omega) (Nat.le_refl _) ?_;intro w1 hown1 hgrow1;have HR:=hideB (made_strs hown1);have HB:=hideB ((Below.refl w.heap.size w).grown hgrow1 (Nat.le_refl _) (by simp));clear hown1 hgrow1)
 go_loopw [5,4] (fun i m wr=>∃ v:Nat,i=.int .i64 ((v:Int)+1)/\m=.int .i64 (outN l v:Nat)/\v<=12/\IsS wr w.heap.size 9 (outO l v)/\Below w.heap.size w wr) (fun i _ _=>13-(intOf i).toNat)
 case atStart=>exact⟨0,rfl,rfl,by omega,by simp only[outO];rw[<-HLN.out];exact HR.out,HB.out⟩
 case round =>
  obtain⟨v,rfl,rfl,hv,h1,hbel⟩:=hrel
  have G1:=hideB h1
  have GB:=hideB hbel
  clear h1 hbel
  have ho:=out_small HCS.out hv
  have HOL:=hideB (outO_length l v)
  by_cases hv12:v<12
  ·have HN0:Hid (innN l (v+1) (2*outN l v) 0=2*outN l v):=innN_zero l (v+1) (2*outN l v)
   have HNA:=hideB (innN_all l v)
   have HNL:=hideB (innN_le l (v+1) (2*outN l v))
   have HNF:=hideB (fun (k:Nat) (hk:k<l.length) (e:l[k]=((v+1:Nat):Int))=>inn_fits HCS.out hv12 hk e)
   have HNY:=hideB (fun (k:Nat) (hk:k<l.length) (e:l[k]=((v+1:Nat):Int))=>innN_yes (n0:=2*outN l v) hk e)
   have HNN:=hideB (fun (k:Nat) (hk:k<l.length) (e:¬l[k]=((v+1:Nat):Int))=>innN_no (n0:=2*outN l v) hk e)
   have HOY:=hideB (fun (k:Nat) (hk:k<l.length) (e:l[k]=((v+1:Nat):Int))=>innO_yes (n0:=2*outN l v) (o:=outO l v) hk e)
   have HON:=hideB (fun (k:Nat) (hk:k<l.length) (e:¬l[k]=((v+1:Nat):Int))=>innO_no (n0:=2*outN l v) (o:=outO l v) hk e)
   have HOO:Hid (innO l (v+1) (2*outN l v) (outO l v) l.length=outO l (v+1)):=rfl
   have HIL:=hideB (innO_length l (v+1) (2*outN l v) (outO l v))
   have hpw:2 ^ (v+1)<=4096:=by
    have:=Nat.pow_le_pow_right (n:=2) (by decide) (show v+1<=12 by omega)
    omega
   have HPW:Hid (∀ x:Nat,x<2 ^ (v+1)->x<4096):=fun x hx=>by omega
   clear hpw
   generalize outN l v=no at ho HN0 HNA HNL HNF HNY HNN HOY HON HOO HIL
   have hv13:(v:Int)+1<=12:=by omega
   go_wp2_with fail
   go_loopw [6,4] (fun i m wr2=>∃ k q:Nat,i=.int .i64 k/\m=.int .i64 q/\q=innN l (v+1) (2*no) k/\k<=n/\IsS wr2 w.heap.size 9 (innO l (v+1) (2*no) (outO l v) k)/\Below w.heap.size w wr2) (fun i _ _=>n-(intOf i).toNat)
   case atStart=>exact⟨0,2*no,rfl,by go_num,HN0.out.symm,by omega,G1.out,GB.out⟩
   case round =>
    obtain⟨k,q,rfl,rfl,hq,hk,h2,hbel2⟩:=hrel
    have G2:=hideB h2
    have GB2:=hideB hbel2
    have HQ:=hideB hq
    clear h2 hbel2 hq
    by_cases hlt:k<n
    ·have hkl:k<l.length:=by rw[<-HLN.out];exact hlt
     obtain⟨b,off,rfl,hb,hc⟩:=(HS.out.below GB2.out).some (by omega)
     have ci:=hc k hkl
     have hqb:q<=2*no+257:=by
      have:=HNL.out k
      rw[<-HQ.out,<-HLN.out]at this
      omega
     obtain⟨x,hx⟩:∃ x,x=l[k]:=⟨_,rfl⟩
     have HX:=hideB hx
     rw[<-hx]at ci
     clear hc hx
     by_cases e:x=(v:Int)+1
     ·have hb1:(x==(v:Int)+1)=true:=beq_iff_eq.2 e
      have HXE:Hid (l[k]=((v+1:Nat):Int)):=by
       unfold Hid
       rw[<-HX.out,e]
       rfl
      have HF:Hid (q<2 ^ (v+1)):=by
       unfold Hid
       rw[HQ.out]
       exact HNF.out k hkl HXE.out
      have hq4:=HPW.out q HF.out
      have HNK:Hid (q+1=innN l (v+1) (2*no) (k+1)):=by
       unfold Hid
       rw[HNY.out k hkl HXE.out,HQ.out]
      have HOK:Hid (innO l (v+1) (2*no) (outO l v) (k+1)=(innO l (v+1) (2*no) (outO l v) k).set k (bitsV q (v+1))):=by
       unfold Hid
       rw[HOY.out k hkl HXE.out,HQ.out]
      have HBI:=hideB (fun W=>bits_spec q (v+1) W (by omega) (by omega) (by omega))
      clear e
      go_wp2_with fail
      refine(HBI.out _).mono ?_
      rintro e w2 ⟨rfl,hb2⟩
      have G3:=hideB (G2.out.below hb2 G2.out.lt)
      have B3:=hideB (below2 GB2.out hb2)
      have cf:=G3.out.frozen k
      obtain⟨v0,ce⟩:∃ v0,w2.cell? ⟨w.heap.size,k,none⟩=some (.string v0):=⟨_,G3.out.cell (j:=k) (by rw[HIL.out,HOL.out];exact hkl)⟩
      clear hb2
      go_wp2_with fail
      go_roundw
      case rel=>exact⟨k+1,q+1,by go_num,by go_num,HNK.out,by omega,by rw[HOK.out];exact G3.out.set k _,B3.out.setCell (Nat.le_refl _) _⟩
      case measure=>simp[intOf];omega
     ·have hb1:(x==(v:Int)+1)=false:=beq_eq_false_iff_ne.2 e
      have HXE:Hid (¬l[k]=((v+1:Nat):Int)):=by
       unfold Hid
       rw[<-HX.out]
       exact e
      have HNK:Hid (q=innN l (v+1) (2*no) (k+1)):=by
       unfold Hid
       rw[HNN.out k hkl HXE.out,HQ.out]
      have HOK:Hid (innO l (v+1) (2*no) (outO l v) (k+1)=innO l (v+1) (2*no) (outO l v) k):=HON.out k hkl HXE.out
      clear e
      go_wp2_with fail
      go_roundw
      case rel=>exact⟨k+1,q,by go_num,rfl,HNK.out,by omega,by rw[HOK.out];exact G2.out,GB2.out⟩
      case measure=>simp[intOf];omega
    ·have hkn:k=l.length:=by have:=HLN.out;omega
     have HQE:Hid (q=outN l (v+1)):=by
      unfold Hid
      rw[HQ.out,hkn]
      exact HNA.out
     have HOE:Hid (innO l (v+1) (2*no) (outO l v) k=outO l (v+1)):=by
      unfold Hid
      rw[hkn]
      exact HOO.out
     have hqb:q<=4096:=by
      rw[HQE.out]
      exact out_small HCS.out (by omega)
     clear hkn
     go_wp2_with fail
     go_roundw
     case rel=>exact⟨v+1,by go_num,by rw[<-HQE.out],by omega,by rw[<-HOE.out];exact G2.out,GB2.out⟩
     case measure=>simp[intOf];omega
  ·obtain rfl:v=12:=by omega
   go_wp2_with fail
   go_ret
   exact⟨rfl,G1.out,GB.out⟩
theorem codes_yes (l:List Int) (a:Option Addr) (cap B:Nat) (w:World) (hi:Ints w B a l) (hB:B<=w.heap.size) (hr:right l=true) :
  Calls Tryz.prog 145 #[.slice a l.length cap] w fun e w'=>e=.returned (.slice (some ⟨w.heap.size,0,none⟩) l.length l.length)/\IsS w' w.heap.size 9 (codesV l)/\Below w.heap.size w w':=by
 obtain⟨i0,hi0,hz0,hz1,hz2⟩:=info_parts infoS9
 have HS:=hideB (hi.mono hB)
 have HRI:=hideB (right_impl l a cap B w hi (by have:=(within_yes (right_yes hr).1).1;omega))
 rw[hr]at HRI
 have HCS:=hideB (right_yes hr).2
 have hn:=(within_yes (right_yes hr).1).1
 clear hi hr
 obtain⟨n,hln⟩:∃ n,n=l.length:=⟨_,rfl⟩
 have HLN:=hideB hln
 rw[<-hln]at hn HRI ⊢
 clear hln
 go_enter Tryz.func145,Tryz.ntmps145
 go_wp2_with fail
 refine HRI.out.mono ?_
 rintro e w' ⟨rfl,hw⟩
 subst w'
 go_wp2_with (at_make;refine wpList_make_full _ rfl (.tmp 12) (.tmp 12) 47 rfl w.heap.size 9 i0 (.string ⟨#[]⟩) 1 Tryz.underlying47 hi0 hz0 hz1 .i64 .i64 _ _ n rfl rfl (by simp) (by simp) (by rw[hz2];omega) (by unfold maxLen;omega) (Nat.le_refl _) ?_;intro w1 hown1 hgrow1;have HR:=hideB (made_strs hown1);have HB:=hideB ((Below.refl w.heap.size w).grown hgrow1 (Nat.le_refl _) (by simp));clear hown1 hgrow1)
 go_loopw [5,4] (fun i m wr=>∃ v:Nat,i=.int .i64 ((v:Int)+1)/\m=.int .i64 (outN l v:Nat)/\v<=12/\IsS wr w.heap.size 9 (outO l v)/\Below w.heap.size w wr) (fun i _ _=>13-(intOf i).toNat)
 case atStart=>exact⟨0,rfl,rfl,by omega,by simp only[outO];rw[<-HLN.out];exact HR.out,HB.out⟩
 case round =>
  obtain⟨v,rfl,rfl,hv,h1,hbel⟩:=hrel
  have G1:=hideB h1
  have GB:=hideB hbel
  clear h1 hbel
  have ho:=out_small HCS.out hv
  have HOL:=hideB (outO_length l v)
  by_cases hv12:v<12
  ·have HN0:Hid (innN l (v+1) (2*outN l v) 0=2*outN l v):=innN_zero l (v+1) (2*outN l v)
   have HNA:=hideB (innN_all l v)
   have HNL:=hideB (innN_le l (v+1) (2*outN l v))
   have HNF:=hideB (fun (k:Nat) (hk:k<l.length) (e:l[k]=((v+1:Nat):Int))=>inn_fits HCS.out hv12 hk e)
   have HNY:=hideB (fun (k:Nat) (hk:k<l.length) (e:l[k]=((v+1:Nat):Int))=>innN_yes (n0:=2*outN l v) hk e)
   have HNN:=hideB (fun (k:Nat) (hk:k<l.length) (e:¬l[k]=((v+1:Nat):Int))=>innN_no (n0:=2*outN l v) hk e)
   have HOY:=hideB (fun (k:Nat) (hk:k<l.length) (e:l[k]=((v+1:Nat):Int))=>innO_yes (n0:=2*outN l v) (o:=outO l v) hk e)
   have HON:=hideB (fun (k:Nat) (hk:k<l.length) (e:¬l[k]=((v+1:Nat):Int))=>innO_no (n0:=2*outN l v) (o:=outO l v) hk e)
   have HOO:Hid (innO l (v+1) (2*outN l v) (outO l v) l.length=outO l (v+1)):=rfl
   have HIL:=hideB (innO_length l (v+1) (2*outN l v) (outO l v))
   have hpw:2 ^ (v+1)<=4096:=by
    have:=Nat.pow_le_pow_right (n:=2) (by decide) (show v+1<=12 by omega)
    omega
   have HPW:Hid (∀ x:Nat,x<2 ^ (v+1)->x<4096):=fun x hx=>by omega
   clear hpw
   generalize outN l v=no at ho HN0 HNA HNL HNF HNY HNN HOY HON HOO HIL
   have hv13:(v:Int)+1<=12:=by omega
   go_wp2_with fail
   go_loopw [22,4] (fun i m wr2=>∃ k q:Nat,i=.int .i64 k/\m=.int .i64 q/\q=innN l (v+1) (2*no) k/\k<=n/\IsS wr2 w.heap.size 9 (innO l (v+1) (2*no) (outO l v) k)/\Below w.heap.size w wr2) (fun i _ _=>n-(intOf i).toNat)
   case atStart=>exact⟨0,2*no,rfl,by go_num,HN0.out.symm,by omega,G1.out,GB.out⟩
   case round =>
    obtain⟨k,q,rfl,rfl,hq,hk,h2,hbel2⟩:=hrel
    have G2:=hideB h2
    have GB2:=hideB hbel2
    have HQ:=hideB hq
    clear h2 hbel2 hq
    by_cases hlt:k<n
    ·have hkl:k<l.length:=by rw[<-HLN.out];exact hlt
     obtain⟨b,off,rfl,hb,hc⟩:=(HS.out.below GB2.out).some (by omega)
     have ci:=hc k hkl
     have hqb:q<=2*no+257:=by
      have:=HNL.out k
      rw[<-HQ.out,<-HLN.out]at this
      omega
     obtain⟨x,hx⟩:∃ x,x=l[k]:=⟨_,rfl⟩
     have HX:=hideB hx
     rw[<-hx]at ci
     clear hc hx
     by_cases e:x=(v:Int)+1
     ·have hb1:(x==(v:Int)+1)=true:=beq_iff_eq.2 e
      have HXE:Hid (l[k]=((v+1:Nat):Int)):=by
       unfold Hid
       rw[<-HX.out,e]
       rfl
      have HF:Hid (q<2 ^ (v+1)):=by
       unfold Hid
       rw[HQ.out]
       exact HNF.out k hkl HXE.out
      have hq4:=HPW.out q HF.out
      have HNK:Hid (q+1=innN l (v+1) (2*no) (k+1)):=by
       unfold Hid
       rw[HNY.out k hkl HXE.out,HQ.out]
      have HOK:Hid (innO l (v+1) (2*no) (outO l v) (k+1)=(innO l (v+1) (2*no) (outO l v) k).set k (bitsV q (v+1))):=by
       unfold Hid
       rw[HOY.out k hkl HXE.out,HQ.out]
      have HBI:=hideB (fun W=>bitsOf_yes q (v+1) W (by omega) (by omega) HF.out)
      clear e
      go_wp2_with fail
      refine(HBI.out _).mono ?_
      rintro e w2 ⟨rfl,hb2⟩
      have G3:=hideB (G2.out.below hb2 G2.out.lt)
      have B3:=hideB (below2 GB2.out hb2)
      have cf:=G3.out.frozen k
      obtain⟨v0,ce⟩:∃ v0,w2.cell? ⟨w.heap.size,k,none⟩=some (.string v0):=⟨_,G3.out.cell (j:=k) (by rw[HIL.out,HOL.out];exact hkl)⟩
      clear hb2
      go_wp2_with fail
      go_roundw
      case rel=>exact⟨k+1,q+1,by go_num,by go_num,HNK.out,by omega,by rw[HOK.out];exact G3.out.set k _,B3.out.setCell (Nat.le_refl _) _⟩
      case measure=>simp[intOf];omega
     ·have hb1:(x==(v:Int)+1)=false:=beq_eq_false_iff_ne.2 e
      have HXE:Hid (¬l[k]=((v+1:Nat):Int)):=by
       unfold Hid
       rw[<-HX.out]
       exact e
      have HNK:Hid (q=innN l (v+1) (2*no) (k+1)):=by
       unfold Hid
       rw[HNN.out k hkl HXE.out,HQ.out]
      have HOK:Hid (innO l (v+1) (2*no) (outO l v) (k+1)=innO l (v+1) (2*no) (outO l v) k):=HON.out k hkl HXE.out
      clear e
      go_wp2_with fail
      go_roundw
      case rel=>exact⟨k+1,q,by go_num,rfl,HNK.out,by omega,by rw[HOK.out];exact G2.out,GB2.out⟩
      case measure=>simp[intOf];omega
    ·have hkn:k=l.length:=by have:=HLN.out;omega
     have HQE:Hid (q=outN l (v+1)):=by
      unfold Hid
      rw[HQ.out,hkn]
      exact HNA.out
     have HOE:Hid (innO l (v+1) (2*no) (outO l v) k=outO l (v+1)):=by
      unfold Hid
      rw[hkn]
      exact HOO.out
     have hqb:q<=4096:=by
      rw[HQE.out]
      exact out_small HCS.out (by omega)
     clear hkn
     go_wp2_with fail
     go_roundw
     case rel=>exact⟨v+1,by go_num,by rw[<-HQE.out],by omega,by rw[<-HOE.out];exact G2.out,GB2.out⟩
     case measure=>simp[intOf];omega
  ·obtain rfl:v=12:=by omega
   go_wp2_with fail
   go_ret
   exact⟨rfl,G1.out,GB.out⟩
end Go.Proofs.YtkgjfdanjmnmbaaGreatDoor.Bi


/- What both CodesOf answer. -/
namespace Go.Proofs.YtkgjfdanjmnmbaaGreatDoor.Bi
open Go.RowKit
open In (Ints)
open St (IsS OwnIn IsO)
end Go.Proofs.YtkgjfdanjmnmbaaGreatDoor.Bi


namespace Go.Proofs.YtkgjfdanjmnmbaaGreatDoor.Bi
open Go.RowKit
open In (Ints)
open St (IsS)
open Nu (ret_strJ own_string bv)
theorem getD_get {l:List Int} {i:Nat} (hi:i<l.length):l.getD i 0=l[i]:=by rw[List.getD_eq_getElem?_getD,List.getElem?_eq_getElem hi];rfl
theorem nonempty (s:ByteArray) (h:1<=s.size):s.toList.isEmpty=false:=by
 rw[ByteArray.toList_eq]
 cases hd:s.data.toList with
 |nil=>exfalso;have:=congrArg List.length hd;rw[Array.length_toList]at this;exact absurd (show s.size=0 from this) (by omega)
 |cons _ _=>rfl
theorem okS_nat {l:List Int} {i:Nat} (h:i<l.length) (h0:0<l.getD i 0):okS l (i:Int):=⟨by omega,by omega,by simpa using h0⟩
theorem put_yes (l s:List Int) (a a':Option Addr) (cap cap':Nat) (w:World) (hl:Ints w w.heap.size a l) (hs:Ints w w.heap.size a' s) (hm:¬400<s.length) (hw:whole l=true) :
  Calls Tryz.prog 100 #[.slice a l.length cap,.slice a' s.length cap'] w fun e w'=>e=.returned (.string (putR l s))/\Below w.heap.size w w':=by
 have HW:=hideB (whole_impl l a cap w.heap.size w hl (by have:=whole_len hw;omega))
 rw[hw]at HW
 have HC:=hideB (codes_yes l a cap w.heap.size w hl (Nat.le_refl _) (whole_right hw))
 have HS:=hideB hs
 have HK:=hideB (whole_ok hw)
 have HWW:=hideB hw
 have hn:=whole_len hw
 have HCL:=hideB (codesV_length l)
 have HYES:=hideB (fun (h:∀ x∈s,okS l x)=>putR_yes hm hw h)
 have HBAD:=hideB (fun (j:Nat) (hj:j<s.length) (h:¬okS l s[j])=>putR_bad hj h)
 clear hl hs hw
 obtain⟨n,hln⟩:∃ n,n=l.length:=⟨_,rfl⟩
 obtain⟨m,hms⟩:∃ m,m=s.length:=⟨_,rfl⟩
 obtain⟨r,hr⟩:∃ r,r=putR l s:=⟨_,rfl⟩
 have HLN:=hideB hln
 have HMS:=hideB hms
 rw[<-hr]at HYES HBAD ⊢
 rw[<-hln]at hn HW HC HCL ⊢
 rw[<-hms]at hm ⊢
 clear hln hms hr
 have hd4:decide ((400:Int)<m)=false:=decide_eq_false (by omega)
 go_enter Tryz.func100,Tryz.ntmps100
 go_wp2_with fail
 refine HW.out.mono ?_
 rintro e w' ⟨rfl,hw⟩
 subst w'
 go_wp2_with fail
 refine HC.out.mono ?_
 rintro e w1 ⟨rfl,hi1,hb1⟩
 have X1:=hideB hi1
 have B1:=hideB hb1
 have z1:w.heap.size<w1.heap.size:=hi1.lt
 clear hi1 hb1
 go_wp2_with fail
 go_loopw [21] (fun i wr=>∃ k:Nat,i=.int .i64 k/\k<=m/\(∀ j (hj:j<s.length),j<k->okS l s[j])/\Lib.IsBuilder 89 5 w1.heap.size w1.heap.size (Lib.byteCells (putL l (s.take k))) wr/\Below w1.heap.size w1 wr/\w1.heap.size<=wr.heap.size) (fun i _=>m-(intOf i).toNat)
 case atStart=>exact⟨0,rfl,Nat.zero_le _,fun j hj h0=>absurd h0 (Nat.not_lt_zero j),Lib.fresh_isBuilder _ _ w1,(Below.refl _ _).alloc (Nat.le_refl _) _,by simp⟩
 case round =>
  obtain⟨k,rfl,hk,hall,hbu,hbel,hbz⟩:=hrel
  have HA:=hideB hall
  have HBU:=hideB hbu
  have GB:=hideB hbel
  clear hall hbu hbel
  by_cases hlt:k<m
  ·have hkl:k<s.length:=by rw[<-HMS.out];exact hlt
   obtain⟨b,off,rfl,hb,hc⟩:=(HS.out.below (B1.out.trans (GB.out.mono (Nat.le_of_lt z1)))).some (by omega)
   have ci:=hc k hkl
   have HM:=hideB (putL_more (l:=l) hkl)
   have HB1:=hideB (HBAD.out k hkl)
   obtain⟨x,hx⟩:∃ x,x=s[k]:=⟨_,rfl⟩
   have HX:=hideB hx
   rw[<-hx]at ci HM HB1
   clear hc hx
   by_cases h0:x<0
   ·have HE:=hideB (HB1.out (fun h=>by have:=h.1;omega))
    go_wp2_with fail
    go_ret
    exact⟨ret_strJ HE.out.symm,B1.out.trans (GB.out.mono (Nat.le_of_lt z1))⟩
   ·have hd0:decide (x<0)=false:=decide_eq_false h0
    obtain⟨i,rfl⟩:∃ i:Nat,x=i:=⟨x.toNat,by omega⟩
    by_cases h1:n<=i
    ·have HE:=hideB (HB1.out (fun h=>by have:=h.2.1;have:=HLN.out;omega))
     have hge:(n:Int)<=i:=by omega
     go_wp2_with fail
     go_ret
     exact⟨ret_strJ HE.out.symm,B1.out.trans (GB.out.mono (Nat.le_of_lt z1))⟩
    ·have hd1:decide ((n:Int)<=i)=false:=decide_eq_false (by omega)
     have hil:i<l.length:=by rw[<-HLN.out];omega
     have hin:i<n:=by omega
     have hiv:i<(codesV l).length:=by rw[HCL.out];omega
     have cc:=(X1.out.below GB.out z1).cell hiv
     rw[codes_get l HK.out i hiv]at cc
     have HCO:=hideB (codeOf_none l i)
     have HOK:=hideB (okS_nat hil)
     have hcl:=codeOf_le l HK.out i
     obtain⟨c,hcc⟩:∃ c,c=codeOf l i:=⟨_,rfl⟩
     have HCC:=hideB hcc
     rw[<-hcc]at cc HCO hcl
     clear hcc
     by_cases hp:0<l.getD i 0
     ·have hne:c.toList.isEmpty=false:=nonempty c (by rw[HCC.out,codeOf_size];omega)
      have HOK2:=hideB (HOK.out hp)
      have HLE:Hid ((Lib.byteCells (putL l (s.take k))).length+c.size<=140737488355328):=by
       unfold Hid
       have h1:=putL_le l HK.out (s.take k)
       rw[List.length_take]at h1
       rw[Lib.byteCells_length]
       omega
      have HNX:Hid (Lib.byteCells (putL l (s.take k))++Lib.strCells c=Lib.byteCells (putL l (s.take (k+1)))):=by
       unfold Hid
       rw[HM.out,Lib.byteCells_append,Lib.strCells_eq,HCC.out]
       rfl
      have HWR:=hideB (Sb.write_any w1.heap.size w1.heap.size _ c wr HBU.out HLE.out hbz)
      clear hp hcl
      go_wp2_with fail
      refine HWR.out.mono ?_
      rintro e w2 ⟨rfl,hbt,hb2⟩
      rw[HNX.out]at hbt
      have HBT:=hideB hbt
      have B2:=hideB (GB.out.trans hb2)
      have z2:=hb2.size
      clear hbt hb2
      go_wp2_with fail
      go_roundw
      case rel =>
       refine⟨k+1,by go_num,by omega,fun j hj hjk=>?_,Or.inr HBT.out,B2.out,by omega⟩
       by_cases e:j=k
       ·subst e
        rw[<-HX.out]
        exact HOK2.out
       ·exact HA.out j hj (by omega)
      case measure=>simp[intOf];omega
     ·have hce:=HCO.out hp
      have HE:=hideB (HB1.out (fun h=>hp (by simpa using h.2.2)))
      subst hce
      clear hp hcl
      go_wp2_with fail
      go_ret
      exact⟨ret_strJ HE.out.symm,B1.out.trans (GB.out.mono (Nat.le_of_lt z1))⟩
  ·have HE:Hid (r=⟨(putL l (s.take k)).toArray⟩):=by
    unfold Hid
    rw[List.take_of_length_le (by have:=HMS.out;omega)]
    exact HYES.out (fun x hx=>by
     obtain⟨j,hj,rfl⟩:=List.getElem_of_mem hx
     exact HA.out j hj (by have:=HMS.out;omega))
   have HST:=hideB (Sb.string_any w1.heap.size w1.heap.size _ wr HBU.out hbz)
   go_wp2_with fail
   refine HST.out.mono ?_
   rintro e w2 ⟨rfl,hb2⟩
   have B2:=hideB (GB.out.trans hb2)
   clear hb2
   go_wp2_with fail
   go_ret
   exact⟨ret_strJ HE.out.symm,B1.out.trans (B2.out.mono (Nat.le_of_lt z1))⟩
theorem put_impl (l s:List Int) (a a':Option Addr) (cap cap':Nat) (w:World) (hl:Ints w w.heap.size a l) (hs:Ints w w.heap.size a' s) (hn:l.length<=1048576) (hm:s.length<=1048576) :
  Calls Tryz.prog 100 #[.slice a l.length cap,.slice a' s.length cap'] w fun e w'=>e=.returned (.string (putR l s))/\Below w.heap.size w w':=by
 by_cases h4:400<s.length
 ·have HE:=hideB (putR_no (l:=l) (Or.inl h4))
  generalize putR l s=r at HE ⊢
  clear hl hs
  generalize s.length=m at h4 hm ⊢
  generalize l.length=n at hn ⊢
  go_enter Tryz.func100,Tryz.ntmps100
  go_wp2_with fail
  go_ret
  exact⟨ret_strJ HE.out.symm,Below.refl _ _⟩
 ·cases hw:whole l with
  |true=>exact put_yes l s a a' cap cap' w hl hs h4 hw
  |false =>
   have HE:=hideB (putR_no (s:=s) (Or.inr hw))
   have HW:=hideB (whole_impl l a cap w.heap.size w hl hn)
   rw[hw]at HW
   have hd4:decide ((400:Int)<s.length)=false:=decide_eq_false (by omega)
   generalize putR l s=r at HE ⊢
   clear hl hs hw
   generalize s.length=m at h4 hm hd4 ⊢
   generalize l.length=n at hn HW ⊢
   go_enter Tryz.func100,Tryz.ntmps100
   go_wp2_with fail
   refine HW.out.mono ?_
   rintro e w' ⟨rfl,hw⟩
   subst w'
   go_wp2_with fail
   go_ret
   exact⟨ret_strJ HE.out.symm,Below.refl _ _⟩
end Go.Proofs.YtkgjfdanjmnmbaaGreatDoor.Bi


namespace Go.Proofs.YtkgjfdanjmnmbaaGreatDoor.Bi
open Go.RowKit Go.Maps
open Go.WideMaps (keyOf_string_mk string_of_keyOf)
open In (Ints)
open St (IsS)
open Nu (ret_strJ)
abbrev DU:=DataW Unit
theorem _root_.Go.Proofs.YtkgjfdanjmnmbaaGreatDoor.St.IsS.of_heapS {w w':World} {g t:Nat} {l:List ByteArray} (h:IsS w g t l) (e:w'.heap[g]? = w.heap[g]?):IsS w' g t l:=by
 unfold IsS
 rw[e]
 exact h
theorem lawS:Keyed Tryz.prog 9:=string_keyed Tryz.underlying9
theorem zeroI (w:World):(zeroValue 2).run Tryz.prog w=.ok (.int .i64 0) w:=by kernel_rfl
def kl (c:ByteArray):Lit:=.string c.data.toList
theorem kl_inj {c d:ByteArray} (h:kl c=kl d):c=d:=by
 unfold kl at h
 have:c.data.toList=d.data.toList:=by simpa using h
 have h2:c.data=d.data:=Array.toList_inj.1 this
 cases c;cases d;simp at h2;rw[h2]
def CM (l:List Int) (D:DU) (k:Nat):Prop :=
 (∀ z,Maps.has D z=true↔∃ i,i<k/\i<l.length/\0<l.getD i 0/\z=kl (codeOf l i)) /\
 (∀ i,i<k->i<l.length->0<l.getD i 0->∀ z,D.atKey (kl (codeOf l i)) z=.lit (.int .i64 (i:Int)))
theorem CM.start (l:List Int):CM l (.map []) 0:=by
 refine⟨fun z=>⟨fun h=>?_,fun ⟨i,hi,_⟩=>absurd hi (Nat.not_lt_zero i)⟩,fun i hi=>absurd hi (Nat.not_lt_zero i)⟩
 simp[Maps.has]at h
theorem CM.skip {l:List Int} {D:DU} {k:Nat} (h:CM l D k) (h0:¬0<l.getD k 0):CM l D (k+1):=by
 refine⟨fun z=>(h.1 z).trans ⟨fun ⟨i,a,b⟩=>⟨i,by omega,b⟩,fun ⟨i,a,b,c,d⟩=>⟨i,?_,b,c,d⟩⟩,fun i hi=>?_⟩
 ·by_cases e:i=k
  ·subst e;exact absurd c h0
  ·omega
 ·intro hl hp
  by_cases e:i=k
  ·subst e;exact absurd hp h0
  ·exact h.2 i (by omega) hl hp
theorem code_ne {l:List Int} (hr:csum l<=4096) (hok:∀ x∈l,0<=x/\x<=12) {i j:Nat} (hi:i<l.length) (hj:j<l.length) (h0:0<l.getD i 0) (h0':0<l.getD j 0) (h:codeOf l i=codeOf l j):i=j:=by
 have hs:(codeOf l i).size=wd l i:=codeOf_size l i
 have hs':(codeOf l j).size=wd l j:=codeOf_size l j
 have m1:mt l (codeOf l i) i:=⟨hi,h0,by omega,by rw[<-hs];exact ByteArray.extract_zero_size⟩
 have m2:mt l (codeOf l i) j:=⟨hj,h0',by rw[h];omega,by rw[h,<-hs'];exact ByteArray.extract_zero_size⟩
 exact mt_one hr hok m1 m2
theorem CM.put {l:List Int} {D:DU} {k:Nat} (h:CM l D k) (hD:IsMap D) (hr:csum l<=4096) (hok:∀ x∈l,0<=x/\x<=12) (hk:k<l.length) (h0:0<l.getD k 0):CM l (D.put (kl (codeOf l k)) (.lit (.int .i64 (k:Int)))) (k+1):=by
 have hK:WideAt.IsKeyLit (kl (codeOf l k)):=trivial
 refine⟨fun z=>?_,fun i hi hl hp z=>?_⟩
 ·by_cases e:z=kl (codeOf l k)
  ·subst e
   rw[has_put_same hD hK]
   exact⟨fun _=>⟨k,by omega,hk,h0,rfl⟩,fun _=>rfl⟩
  ·rw[has_put_other e,h.1 z]
   refine⟨fun ⟨i,a,b⟩=>⟨i,by omega,b⟩,fun ⟨i,a,b,c,d⟩=>⟨i,?_,b,c,d⟩⟩
   by_cases e2:i=k
   ·subst e2;exact absurd d e
   ·omega
 ·by_cases e:i=k
  ·subst e
   exact atKey_put_same hD hK _ _
  ·have hne:kl (codeOf l i)≠kl (codeOf l k):=fun x=>e (code_ne hr hok hl hk hp h0 (kl_inj x))
   rw[atKey_put_other hne]
   exact h.2 i (by omega) hl hp z
theorem symbols_any (l:List Int) (a:Option Addr) (cap:Nat) (w:World) (hl:Ints w w.heap.size a l) (hr:right l=true) :
  Calls Tryz.prog 168 #[.slice a l.length cap] w fun e w'=>∃ D:DU,e=.returned (.map (some w.heap.size))/\w'.ownsMap Tryz.prog 9 (plainElem Tryz.prog 2) w.heap.size l.length D/\CM l D l.length/\Below w.heap.size w w':=by
 have hok:=(within_yes (right_yes hr).1).2
 have hcs:=(right_yes hr).2
 have hn:=(within_yes (right_yes hr).1).1
 have HC:=hideB (codes_yes l a cap w.heap.size (w.alloc (.map #[] 0)) (hl.below ((Below.refl _ _).alloc (Nat.le_refl _) _)) (by simp) hr)
 have HK:=hideB hok
 have HS:=hideB hcs
 have HCL:=hideB (codesV_length l)
 clear hl hr hok hcs
 obtain⟨n,hln⟩:∃ n,n=l.length:=⟨_,rfl⟩
 have HLN:=hideB hln
 rw[<-hln]at hn HC HCL ⊢
 clear hln
 have hmm:=@run_makeMap Tryz.prog
 go_enter Tryz.func168,Tryz.ntmps168
 go_wp2_with fail
 refine HC.out.mono ?_
 rintro e w1 ⟨rfl,hi1,hb1⟩
 have z0:(w.alloc (.map #[] 0)).heap.size=w.heap.size+1:=by simp
 rw[z0]at hi1 hb1
 have X1:=hideB hi1
 have M1:=hideB (show w1.ownsMap Tryz.prog 9 (plainElem (H:=Unit) Tryz.prog 2) w.heap.size 0 (.map []) from World.ownsMap.kept (World.ownsMap_made w _ _ _) (row:=none) ⟨hb1.os,hb1.tape,hb1.output,hb1.size,fun i hi _=>hb1.block i (by rw[z0]at hi;exact hi)⟩ (by simp))
 have B1:=hideB (Below.trans ((Below.refl w.heap.size w).alloc (Nat.le_refl _) (.map #[] 0)) (hb1.mono (Nat.le_succ _)))
 have z1:w.heap.size+1<w1.heap.size:=hi1.lt
 rw[z0]
 clear hi1 hb1 z0 hmm
 go_wp2_with fail
 go_loopw [10] (fun i wr=>∃ (k:Nat) (D:DU),i=.int .i64 k/\k<=n/\wr.ownsMap Tryz.prog 9 (plainElem Tryz.prog 2) w.heap.size k D/\CM l D k/\IsS wr (w.heap.size+1) 9 (codesV l)/\Below w.heap.size w wr) (fun i _=>n-(intOf i).toNat)
 case atStart=>exact⟨0,_,rfl,Nat.zero_le _,M1.out,CM.start l,X1.out,B1.out⟩
 case round =>
  obtain⟨k,D,rfl,hk,hown,hcm,hx,hbel⟩:=hrel
  have HO:=hideB hown
  have HM:=hideB hcm
  have HX:=hideB hx
  have GB:=hideB hbel
  clear hown hcm hx hbel
  by_cases hlt:k<n
  ·have hkl:k<l.length:=by rw[<-HLN.out];exact hlt
   have hkv:k<(codesV l).length:=by rw[HCL.out];exact hlt
   have ci:=HX.out.cell hkv
   rw[codes_get l HK.out k hkv]at ci
   have HNONE:=hideB (codeOf_none l k)
   have HSZ:=hideB (codeOf_size l k)
   have hcl:=codeOf_le l HK.out k
   have HPUT:=hideB (fun h0=>CM.put HM.out HO.out.isMap HS.out HK.out hkl h0)
   have HSKIP:=hideB (fun h0=>CM.skip HM.out (k:=k) h0)
   obtain⟨c,hc⟩:∃ c,c=codeOf l k:=⟨_,rfl⟩
   rw[<-hc]at ci HNONE HSZ hcl HPUT
   clear hc
   by_cases h0:0<l.getD k 0
   ·have hne:c.toList.isEmpty=false:=nonempty c (by rw[HSZ.out];omega)
    have hkey:keyOf Tryz.prog 9 (.string c)=some (kl c):=keyOf_string_mk Tryz.underlying9 (by unfold maxLen;omega)
    have HP2:=hideB (HPUT.out h0)
    have hown:=HO.out
    clear h0 hcl
    go_wp2_with (first|(at_mapUpdate;refine wpList_mapUpdate_own _ rfl _ _ _ 210 rfl 9 2 lawS Tryz.underlying210 _ w.heap.size k _ rfl hown (by unfold maxLen;omega) _ _ _ rfl rfl hkey _ [] (plainElem_int Tryz.underlying2 (WalkArith.wf_i64 (by omega))) ?_;intro w2 hown2 hgrow2;have HO2:=hideB hown2;have HX2:=hideB (HX.out.of_heapS (hgrow2.block (w.heap.size+1) HX.out.lt (by simp)));have GB2:=hideB (GB.out.grown hgrow2 GB.out.size (fun j hj=>by cases hj;exact Nat.le_refl _));clear hown2 hgrow2;go_frame))
    go_wp2_with fail
    go_roundw
    case rel=>exact⟨k+1,_,by go_num,by omega,HO2.out,HP2.out,HX2.out,GB2.out⟩
    case measure=>simp[intOf];omega
   ·have hce:=HNONE.out h0
    have HP2:=hideB (HSKIP.out h0)
    have HO2:=hideB (HO.out.mono (Nat.le_succ k))
    subst hce
    clear h0 hcl
    go_wp2_with fail
    go_roundw
    case rel=>exact⟨k+1,D,by go_num,by omega,HO2.out,HP2.out,HX.out,GB.out⟩
    case measure=>simp[intOf];omega
  ·obtain rfl:k=n:=by omega
   go_wp2_with fail
   go_ret
   exact⟨D,rfl,HO.out,HM.out,GB.out⟩
def preR:Go.Shelf.Ren:=⟨fun|99=>67|206=>91|n=>n,fun|9=>9|4=>4|3=>3|n=>n,fun|n=>n⟩
theorem preL:Go.Proofs.Lays.n99 Tryz.prog preR:={
 mixed:=by kernel_rfl
 f99:=Tryz.func67.trans (congrArg some (by kernel_rfl))
 f206:=Tryz.func91.trans (congrArg some (by kernel_rfl))
 t3:=Tryz.underlying3
 a3:=Tryz.isAgg3
 z3:=Tryz.sizeOf3
 v3:=Tryz.zeroValue3
 t4:=Tryz.underlying4
 a4:=Tryz.isAgg4
 z4:=Tryz.sizeOf4
 v4:=Tryz.zeroValue4
 t9:=Tryz.underlying9
 a9:=Tryz.isAgg9
 z9:=Tryz.sizeOf9
 v9:=Tryz.zeroValue9 }
theorem prefix_any (s p:ByteArray) (w:World) :
  Calls Tryz.prog 67 #[.string s,.string p] w fun e w'=>e=.returned (.bool (Lib.hasPrefix s.data.toList p.data.toList))/\w'=w:=Any.strings_HasPrefix preL s p w
def symT (l:List Int) (t:ByteArray):ByteArray:=match sym l t with
 |some i=>codeOf l i
 |none=>⟨#[]⟩
theorem first_any (l:List Int) (t:ByteArray) (b n:Nat) (D:DU) (w:World) (hown:w.ownsMap Tryz.prog 9 (plainElem Tryz.prog 2) b n D) (hcm:CM l D l.length) (hr:right l=true) (ht:t.size<=8000) :
  Calls Tryz.prog 169 #[.map (some b),.string t] w fun e w'=>e=.returned (.string (symT l t))/\w'=w:=by
 have hok:=(within_yes (right_yes hr).1).2
 have hcs:=(right_yes hr).2
 have w12:∀ k,k<l.length->wd l k<=12:=fun k hk=>by
  have:=hok _ (List.getElem_mem hk)
  unfold wd
  rw[getD_lt hk]
  omega
 have HSYM:=hideB (fun (i:Nat) (h:mt l t i)=>sym_of hcs hok h)
 have HNONE:=hideB (fun (h:∀ i,¬mt l t i)=>sym_none h)
 have HCM:=hideB hcm
 have HW:=hideB w12
 clear hok hcs w12 hcm hr
 obtain⟨r,hrr⟩:∃ r,r=symT l t:=⟨_,rfl⟩
 have HR:=hideB hrr
 rw[<-hrr]
 clear hrr
 go_enter Tryz.func169,Tryz.ntmps169
 go_wp2_with fail
 go_loopw [5] (fun i wr=>∃ v:Nat,i=.int .i64 v/\1<=v/\v<=13/\v<=t.size+1/\(∀ j,mt l t j->v<=wd l j)/\wr=w) (fun i _=>13-(intOf i).toNat)
 case atStart=>exact⟨1,rfl,Nat.le_refl _,by omega,by omega,fun j hj=>by have:=hj.2.1;unfold wd;omega,rfl⟩
 case round =>
  obtain⟨v,rfl,hv1,hv13,hvt,hall,hw⟩:=hrel
  subst hw
  have HA:=hideB hall
  clear hall
  by_cases hA:v<=12/\v<=t.size
  ·obtain⟨hv12,hvs⟩:=hA
   have hvi:(v:Int)<=12:=by omega
   have hvsi:(v:Int)<=t.size:=by omega
   have hmn:(v:Int)<=min 12 (t.size:Int):=by omega
   have hes:(t.extract 0 v).size=v:=by rw[ByteArray.size_extract];omega
   have HES:=hideB hes
   have hkey:keyOf Tryz.prog 9 (.string (t.extract 0 v))=some (kl (t.extract 0 v)):=keyOf_string_mk Tryz.underlying9 (by unfold maxLen;omega)
   have HHAS:=hideB (HCM.out.1 (kl (t.extract 0 v)))
   clear hes
   cases hh:Maps.has D (kl (t.extract 0 v)) with
   |true =>
    have HE:Hid (t.extract 0 v=r):=by
     unfold Hid
     obtain⟨i,h1,h2,h3,h4⟩:=HHAS.out.1 hh
     have h5:=kl_inj h4
     have h6:wd l i=v:=by rw[<-HES.out,h5];exact(codeOf_size l i).symm
     have hm:mt l t i:=⟨h2,h3,by omega,by rw[h6];exact h5⟩
     rw[HR.out,h5]
     unfold symT
     rw[HSYM.out i hm]
    go_wp2_with (first|(at_lookup;refine wpList_lookup_own_ok_int _ rfl _ _ 210 rfl 9 2 .i64 lawS Tryz.underlying210 Tryz.underlying2 (zeroI _) b n D rfl hown _ _ rfl hkey ?_;intro c hat hwc;rw[hh];clear hat hwc))
    go_ret
    exact⟨ret_strJ HE.out,rfl⟩
   |false =>
    have HN:Hid (∀ j,mt l t j->v+1<=wd l j):=fun j hj=>by
     have h1:=HA.out j hj
     by_cases e:wd l j=v
     ·have h2:Maps.has D (kl (t.extract 0 v))=true:=HHAS.out.2 ⟨j,hj.1,hj.1,hj.2.1,by rw[<-e];rw[hj.2.2.2]⟩
      rw[hh]at h2
      cases h2
     ·omega
    go_wp2_with (first|(at_lookup;refine wpList_lookup_own_ok_int _ rfl _ _ 210 rfl 9 2 .i64 lawS Tryz.underlying210 Tryz.underlying2 (zeroI _) b n D rfl hown _ _ rfl hkey ?_;intro c hat hwc;rw[hh];clear hat hwc))
    go_wp2_with fail
    go_roundw
    case rel=>exact⟨v+1,by go_num,by omega,by omega,by omega,HN.out,trivial⟩
    case measure=>simp[intOf];omega
  ·have hmn:decide ((v:Int)<=min 12 (t.size:Int))=false:=decide_eq_false (by omega)
   have HE:Hid (r=⟨#[]⟩):=by
    unfold Hid
    rw[HR.out]
    unfold symT
    rw[HNONE.out (fun i hm=>hA ⟨by have h1:=HA.out i hm;have h2:=HW.out i hm.1;omega,by have h1:=HA.out i hm;have h2:=hm.2.2.1;omega⟩)]
   clear hA
   go_wp2_with fail
   go_ret
   exact⟨ret_strJ HE.out.symm,rfl⟩
end Go.Proofs.YtkgjfdanjmnmbaaGreatDoor.Bi


namespace Go.Proofs.YtkgjfdanjmnmbaaGreatDoor.Bi
open Go.RowKit Go.Maps
open Go.WideMaps (keyOf_string_mk string_of_keyOf)
def pf (t:ByteArray):Lit->Bool
 |.string bs=>Lib.hasPrefix bs t.data.toList
 |_=>false
theorem pf_kl (t c:ByteArray):pf t (kl c)=Lib.hasPrefix c.data.toList t.data.toList:=rfl
def Swept (D D':DU) (t:ByteArray) (left:Lit->Bool):Prop:=∀ z,Maps.has D' z=(Maps.has D z && (left z || pf t z))
theorem Swept.start (D:DU) (t:ByteArray):Swept D D t (Maps.has D):=fun z=>by cases Maps.has D z<;>simp
theorem same_kl (c:ByteArray):(kl c).sameKey (kl c)=true:=by simp[kl,Lit.sameKey]
theorem Swept.stays {D D':DU} {t:ByteArray} {left:Lit->Bool} {c:ByteArray} (h:Swept D D' t left) (hp:Lib.hasPrefix c.data.toList t.data.toList=true):Swept D D' t (fun z=>left z && !z.sameKey (kl c)):=fun z=>by
 rw[h z]
 by_cases e:z=kl c
 ·subst e
  rw[pf_kl,hp]
  simp
 ·simp only[sameKey_ne e]
  simp
theorem Swept.goes {D D':DU} {t:ByteArray} {left:Lit->Bool} {c:ByteArray} (h:Swept D D' t left) (hp:Lib.hasPrefix c.data.toList t.data.toList=false):Swept D (D'.del (kl c)) t (fun z=>left z && !z.sameKey (kl c)):=fun z=>by
 by_cases e:z=kl c
 ·subst e
  rw[has_del_same,pf_kl,hp]
  simp only[same_kl]
  simp
 ·rw[has_del_other e,h z]
  simp only[sameKey_ne e]
  simp
theorem size_none {D:DU} (hD:IsMap D) (h:∀ z,Maps.has D z=false) (hk:∀ es,D=.map es->∀ p∈es,WideAt.IsKeyLit p.1):Maps.size D=0:=by
 obtain⟨es,rfl⟩:=hD
 cases es with
 |nil=>rfl
 |cons p es =>
  exfalso
  have h1:=hk _ rfl p List.mem_cons_self
  have h2:=h p.1
  rw[has_eq,List.any_cons]at h2
  have h3:p.1.sameKey p.1=true:=by
   obtain⟨k,d⟩:=p
   cases k<;>simp_all [Lit.sameKey,WideAt.IsKeyLit]
  rw[h3]at h2
  simp at h2
theorem size_some {D:DU} (hD:IsMap D) {z:Lit} (h:Maps.has D z=true):0<Maps.size D:=by
 obtain⟨es,rfl⟩:=hD
 cases es with
 |nil=>simp[Maps.has]at h
 |cons p es=>simp[size_eq]
theorem why_any (l:List Int) (t:ByteArray) (b n B:Nat) (D:DU) (w:World) (hown:w.ownsMap Tryz.prog 9 (plainElem Tryz.prog 2) b n D) (hcm:CM l D l.length) (hB:B<=b) (hBw:B<=w.heap.size) :
  Calls Tryz.prog 170 #[.map (some b),.string t] w fun e w'=>e=.returned (.int .i64 (why l t))/\Below B w w':=by
 have HCM:=hideB hcm
 clear hcm
 have hbw:=hown.lt
 go_enter Tryz.func170,Tryz.ntmps170
 go_wp2_with (first|(at_range;refine wpList_range_own _ rfl _ 210 rfl 9 2 lawS Tryz.underlying210 _ b n _ rfl hown ?_;intro w0 hrg0 hg0 hs0))
 have HB0:=hideB ((Below.refl B w).grown hg0 hBw (fun j hj=>by cases hj))
 go_frame
 go_loopw [5] (fun _ wr=>∃ (left:Lit->Bool) (cnt:Nat) (D':DU),wr.ranges Tryz.prog 9 (plainElem Tryz.prog 2) b w.heap.size n D' left cnt/\Swept D D' t left/\Below B w wr) (fun _ wr=>wr.rangeLeft b w.heap.size)
 case atStart=>exact⟨_,_,D,hrg0,Swept.start D t,HB0.out⟩
 case round =>
  obtain⟨left,cnt,D',hrg,hsw,hbel⟩:=hrel
  have HSW:=hideB hsw
  have GB:=hideB hbel
  clear hsw hbel
  go_wp2_with (first|(at_next;refine wpList_next_ranges _ rfl _ rfl 9 lawS (plainElem Tryz.prog 2) Value.string (Value.int .i64) (fun key kl hkey=>by obtain⟨s,rfl,_⟩:=string_of_keyOf Tryz.underlying9 hkey;exact⟨s,rfl⟩) (fun v y hv=>by obtain⟨c,rfl,_⟩:=plainElem_int_inv Tryz.underlying2 hv;exact⟨c,rfl⟩) b w.heap.size n D' left cnt rfl hrg ?_ ?_))
  ·intro _ hl0
   have hown':=hrg.owns
   have HPF:Hid (∀ z,Maps.has D' z=(Maps.has D z && pf t z)):=fun z=>by
    rw[HSW.out z,hl0 z,Bool.false_or]
   cases hw:wth l t with
   |true =>
    have hz:(((Maps.size D':Nat):Int)==0)=false:=by
     obtain⟨i,h1,h2,h3⟩:=wth_yes hw
     have h4:Maps.has D' (kl (codeOf l i))=true:=by
      rw[HPF.out,(HCM.out.1 _).2 ⟨i,h1,h1,h2,rfl⟩,pf_kl,h3]
      rfl
     have h5:=size_some hown'.isMap h4
     exact beq_eq_false_iff_ne.2 (by omega)
    have HE:Hid (why l t=4):=by
     unfold Hid why
     rw[if_pos hw]
    clear hw hl0 hrg
    go_wp2_with (first|(at_len;refine wpList_len_own _ rfl _ 210 rfl 9 2 Tryz.underlying210 _ b n D' rfl hown' ?_))
    go_ret
    exact⟨by rw[HE.out];rfl,GB.out⟩
   |false =>
    have hz:Maps.size D'=0:=by
     obtain⟨es,hes,_,hks⟩:=hown'.entries lawS
     refine size_none hown'.isMap (fun z=>?_) (fun es' he' p hp=>by rw[hes]at he';cases he';exact hks p hp)
     rw[HPF.out]
     cases hh:Maps.has D z with
     |false=>rfl
     |true =>
      obtain⟨i,h1,h2,h3,rfl⟩:=(HCM.out.1 z).1 hh
      rw[pf_kl,Bool.true_and]
      cases hp:Lib.hasPrefix (codeOf l i).data.toList t.data.toList with
      |false=>rfl
      |true=>rw[wth_of h2 h3 hp]at hw;cases hw
    have HE:Hid (why l t=3):=by
     unfold Hid why
     rw[if_neg (by rw[hw];decide)]
    clear hw hl0 hrg
    go_wp2_with (first|(at_len;refine wpList_len_own _ rfl _ 210 rfl 9 2 Tryz.underlying210 _ b n D' rfl hown' ?_;rw[hz]))
    go_ret
    exact⟨by rw[HE.out];rfl,GB.out⟩
  ·intro x c klx y1 y2 w1 cnt1 hkey hlx hRv hat hrg1 hlt hg1 hs1 hen
   obtain⟨s,es,hk2,hsz⟩:=string_of_keyOf Tryz.underlying9 hkey
   obtain rfl:x=s:=by simpa using es
   obtain rfl:klx=kl x:=hk2
   have GB1:=hideB (GB.out.grown hg1 (Nat.le_trans hBw GB.out.size) (fun j hj=>by cases hj;exact hBw))
   have HPX:=hideB (prefix_any x t w1)
   cases hp:Lib.hasPrefix x.data.toList t.data.toList with
   |true =>
    have HS1:=hideB (HSW.out.stays hp)
    rw[hp]at HPX
    clear hp es hRv hat
    go_wp2_with fail
    refine HPX.out.mono ?_
    rintro e w' ⟨rfl,hw⟩
    subst w'
    go_wp2_with fail
    go_roundw
    case rel=>exact⟨_,cnt1,D',hrg1,HS1.out,GB1.out⟩
    case measure=>rw[hrg1.left_eq,hrg.left_eq];exact hlt
   |false =>
    have HS1:=hideB (HSW.out.goes hp)
    rw[hp]at HPX
    clear hp es hRv hat
    go_wp2_with fail
    refine HPX.out.mono ?_
    rintro e w' ⟨rfl,hw⟩
    subst w'
    go_wp2_with (first|(at_delete;refine wpList_delete_ranges _ rfl _ _ 210 9 rfl 2 lawS Tryz.underlying210 _ b w.heap.size n _ _ _ rfl hrg1 _ _ rfl hkey ?_;intro w2 cnt2 hrg2 hle hturn;go_frame))
    rw[strike_twice]at hrg2
    have GB2:=hideB (GB1.out.grown hturn.grown (Nat.le_trans hBw GB1.out.size) (fun j hj=>by cases hj;exact hB))
    go_roundw
    case rel=>exact⟨_,cnt2,_,hrg2,HS1.out,GB2.out⟩
    case measure=>rw[hrg2.left_eq,hrg.left_eq];omega
end Go.Proofs.YtkgjfdanjmnmbaaGreatDoor.Bi

