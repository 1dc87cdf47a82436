/- Texts put together: LsReadW, KpLaid, NamePlain, NameWalks, PePlain. -/
import Derived.Test.YtikiihjabbmkcaaGreatDoorBz28
import Derived.Test.YtikiihjabbmkcaaGreatDoorBz10
import Derived.Test.YtikiihjabbmkcaaGreatDoorBz22
import Derived.ChangeSame
import Derived.OpenVars
import Derived.LaidMore
import Derived.Lib.SmallJoins
import Derived.Test.YtikiihjabbmkcaaGreatDoorChecked
import Derived.WalkKit
import Derived.WalkSpells
import Derived.Test.YtikiihjabbmkcaaGreatDoorBz20
import Derived.Laws.Cover1
set_option maxRecDepth 100000
set_option maxHeartbeats 8000000
/- The walks of ListRead. -/
namespace Go.Proofs.YtikiihjabbmkcaaGreatDoor.Ls
open Go.RowKit
open Gn (rd getV handle rt textV handle_below handle_alloc)
def HH (w:World):Prop:=w.cell? ⟨1,0,none⟩=some handle
theorem hh_keep {w w':World} (h:HH w) (hb:Below w.heap.size w w'):HH w':=handle_below hb h
end Go.Proofs.YtikiihjabbmkcaaGreatDoor.Ls


/- What a row's list of three variables gives a walk. -/
namespace Go.Proofs.YtikiihjabbmkcaaGreatDoor.Kp
open Go.RowKit Go.ChangeShapes Go.WideShapes Go.ChangeAt Go.Deep
open Ls (HH)
open Sh (Vars)
theorem etK:Tryz.prog.globalNamed "errors.errorType"=some 1:=by kernel_rfl
theorem rtK:(Tryz.prog.cutTypes.find? (·.1 == "internal/reflectlite.rtype")).map (·.2)=some 279:=by kernel_rfl
theorem oneRowK:((List.range 335).filter fun t=>Tryz.prog.rowNamed t [101,114,114,111,114])=[198]:=by kernel_rfl
theorem typesSizeK:Tryz.prog.types.size=335:=by kernel_rfl
theorem both_of_laid {W:World} (h:laidMetH Tryz.prog [("errors.errorType",Rows.laid_errors_errorType),("loop.example/g00550/impl.firstState",Rows.laid_loop_example_g00550_impl_firstState),("loop.example/g00550/impl.roundNumbers",Rows.laid_loop_example_g00550_impl_roundNumbers)] W):HH W/\Vars W:=by
 have h':laidMet Tryz.prog [("loop.example/g00550/impl.firstState",Rows.laid_loop_example_g00550_impl_firstState),("loop.example/g00550/impl.roundNumbers",Rows.laid_loop_example_g00550_impl_roundNumbers)] W/\handlesMet Tryz.prog [("errors.errorType",Rows.laid_errors_errorType)] W:=h
 refine⟨?_,Sh.vars_of_laid (by rw[MakeChecks.laidMetH_plain _ _ _ (by kernel_rfl)];exact h'.1)⟩
 obtain⟨name,u,ty,e1,e2,e3,e4,e5⟩:=h'.2 _ (List.mem_singleton.2 rfl)
 have en:name=[101,114,114,111,114]:=(Option.some.inj e1).symm
 subst en
 obtain rfl:=Option.some.inj (rtK.symm.trans e2)
 have hm:ty∈(List.range 335).filter fun t=>Tryz.prog.rowNamed t [101,114,114,111,114]:=List.mem_filter.2 ⟨List.mem_range.2 (by rw[<-typesSizeK];exact e3),e4⟩
 rw[oneRowK]at hm
 obtain rfl:=List.mem_singleton.1 hm
 have hh:typeHandle Tryz.prog 198=.pointer (some ⟨4,198,none⟩):=by kernel_rfl
 rw[hh]at e5
 show W.cell? ⟨1,0,none⟩=some Gn.handle
 unfold Gn.handle
 simpa using World.var?_cell etK e5 0
end Go.Proofs.YtikiihjabbmkcaaGreatDoor.Kp


/- Plain mathematics of names: which texts are names, byte by byte. -/
namespace Go.Proofs.YtikiihjabbmkcaaGreatDoor.Nm
def letB (c:Int):Bool:=decide (97<=c) && decide (c<=122)
def digB (c:Int):Bool:=decide (48<=c) && decide (c<=57)
def byteAt (s:ByteArray) (i:Nat):Int:=((s.data.toList.getD i 0).toNat:Int)
def okAt (s:ByteArray) (i:Nat):Bool:=letB (byteAt s i) || (decide (0<i) && (digB (byteAt s i) || decide (byteAt s i=95)))
def nameB (s:ByteArray):Bool:=decide (1<=s.size) && (decide (s.size<=20) && (List.range s.size).all (okAt s))
theorem byteAt_eq (s:ByteArray) (i:Nat) (h:i<s.size):byteAt s i=(s[i].toNat:Int):=by
 have h':i<s.data.toList.length:=by simpa using h
 unfold byteAt
 rw[List.getD_eq_getElem?_getD,List.getElem?_eq_getElem h']
 rfl
theorem name_true (s:ByteArray) (h1:1<=s.size) (h2:s.size<=20) (h:∀ j,j<s.size->okAt s j=true):nameB s=true:=by
 simp only[nameB,h1,h2,decide_true,Bool.true_and,List.all_eq_true,List.mem_range]
 exact h
theorem name_short (s:ByteArray) (h1:s.size<1):nameB s=false:=by
 have:¬1<=s.size:=by omega
 simp[nameB,this]
theorem name_long (s:ByteArray) (h1:20<s.size):nameB s=false:=by
 have:¬s.size<=20:=by omega
 simp[nameB,this]
theorem name_bad (s:ByteArray) (k:Nat) (hk:k<s.size) (h:okAt s k=false):nameB s=false:=by
 cases e:nameB s with
 |false=>rfl
 |true =>
  simp only[nameB,Bool.and_eq_true,List.all_eq_true,List.mem_range]at e
  have:=e.2.2 k hk
  rw[h]at this
  exact absurd this (by decide)
theorem ok_of (s:ByteArray) (k:Nat) (hlt:k<s.size)
  (h:((97:Int)<=s[k].toNat/\(s[k].toNat:Int)<=122)∨(0<k/\(((48:Int)<=s[k].toNat/\(s[k].toNat:Int)<=57)∨(s[k].toNat:Int)=95))):okAt s k=true:=by
 unfold okAt letB digB
 rw[byteAt_eq s k hlt]
 simp only[Bool.or_eq_true,Bool.and_eq_true,decide_eq_true_eq]
 exact h
theorem no_of (s:ByteArray) (k:Nat) (hlt:k<s.size)
  (h:¬(((97:Int)<=s[k].toNat/\(s[k].toNat:Int)<=122)∨(0<k/\(((48:Int)<=s[k].toNat/\(s[k].toNat:Int)<=57)∨(s[k].toNat:Int)=95)))):nameB s=false:=by
 refine name_bad s k hlt ?_
 cases e:okAt s k with
 |false=>rfl
 |true =>
  exfalso
  apply h
  unfold okAt letB digB at e
  rw[byteAt_eq s k hlt]at e
  simp only[Bool.or_eq_true,Bool.and_eq_true,decide_eq_true_eq]at e
  exact e
theorem ok_more (s:ByteArray) (k:Nat) (hall:∀ j,j<k->okAt s j=true) (h:okAt s k=true):∀ j,j<k+1->okAt s j=true:=by
 intro j hj
 by_cases e:j=k
 ·rw[e];exact h
 ·exact hall j (by omega)
end Go.Proofs.YtikiihjabbmkcaaGreatDoor.Nm


namespace Go.Proofs.YtikiihjabbmkcaaGreatDoor.Nm
open Go.RowKit
theorem ret_bool {a b:Bool} (h:a=b):Ending.returned (.bool a)=.returned (.bool b):=by rw[h]
theorem spec_any (s:ByteArray) (w:World) (hs:s.size<=maxLen) :
  Calls Tryz.prog 56 #[.string s] w fun e w'=>e=.returned (.bool (nameB s))/\w'=w:=by
 unfold maxLen at hs
 by_cases h1:s.size<1
 ·go_enter Tryz.func56,Tryz.ntmps56
  go_wp2
  go_ret
  exact⟨ret_bool (name_short s h1).symm,rfl⟩
 ·by_cases h2:20<s.size
  ·go_enter Tryz.func56,Tryz.ntmps56
   go_wp2
   go_ret
   exact⟨ret_bool (name_long s h2).symm,rfl⟩
  ·go_enter Tryz.func56,Tryz.ntmps56
   go_wp2
   go_loop [3] (fun i=>∃ k:Nat,k<=s.size/\i=.int .i64 k/\∀ j,j<k->okAt s j=true) (fun i=>s.size-(intOf i).toNat)
   case atStart=>exact⟨0,Nat.zero_le _,rfl,fun j hj=>absurd hj (Nat.not_lt_zero j)⟩
   case round =>
    obtain⟨k,hk,rfl,hall⟩:=hrel
    have HA:Hid (∀ j,j<k->okAt s j=true):=hall
    clear hall
    by_cases hlt:k<s.size
    ·rcases (show ((97:Int)<=s[k].toNat/\(s[k].toNat:Int)<=122)∨((122:Int)<(s[k].toNat:Int))∨((57:Int)<s[k].toNat/\(s[k].toNat:Int)<97)∨((48:Int)<=s[k].toNat/\(s[k].toNat:Int)<=57)∨(s[k].toNat:Int)<48 from by omega) with hl|hl|hl|hl|hl
     ·go_wp2
      go_round
      case rel=>exact⟨k+1,by omega,by go_num,ok_more s k HA.out (ok_of s k hlt (by omega))⟩
      case measure=>simp[intOf];omega
     ·have hn:((s[k].toNat:Int) != 95)=true:=by rw[bne_iff_ne];omega
      have hd1:decide ((s[k].toNat:Int)<=122)=false:=decide_eq_false (by omega)
      have hd2:decide ((s[k].toNat:Int)<=57)=false:=decide_eq_false (by omega)
      rcases Nat.eq_zero_or_pos k with rfl|h0
      ·go_wp2
       go_ret
       exact⟨ret_bool (no_of s 0 hlt (by omega)).symm,rfl⟩
      ·have hz:((k:Int)==0)=false:=beq_eq_false_iff_ne.2 (by omega)
       go_wp2
       go_ret
       exact⟨ret_bool (no_of s k hlt (by omega)).symm,rfl⟩
     ·have hd2:decide ((s[k].toNat:Int)<=57)=false:=decide_eq_false (by omega)
      rcases Nat.eq_zero_or_pos k with rfl|h0
      ·go_wp2
       go_ret
       exact⟨ret_bool (no_of s 0 hlt (by omega)).symm,rfl⟩
      ·have hz:((k:Int)==0)=false:=beq_eq_false_iff_ne.2 (by omega)
       by_cases hu:(s[k].toNat:Int)=95
       ·have hn:((s[k].toNat:Int) != 95)=false:=by rw[hu];rfl
        have HU:Hid ((s[k].toNat:Int)=95):=hu
        clear hu
        go_wp2
        go_round
        case rel=>exact⟨k+1,by omega,by go_num,ok_more s k HA.out (ok_of s k hlt (.inr ⟨h0,.inr HU.out⟩))⟩
        case measure=>simp[intOf];omega
       ·have hn:((s[k].toNat:Int) != 95)=true:=by rw[bne_iff_ne];omega
        go_wp2
        go_ret
        exact⟨ret_bool (no_of s k hlt (by omega)).symm,rfl⟩
     ·rcases Nat.eq_zero_or_pos k with rfl|h0
      ·go_wp2
       go_ret
       exact⟨ret_bool (no_of s 0 hlt (by omega)).symm,rfl⟩
      ·have hz:((k:Int)==0)=false:=beq_eq_false_iff_ne.2 (by omega)
       go_wp2
       go_round
       case rel=>exact⟨k+1,by omega,by go_num,ok_more s k HA.out (ok_of s k hlt (by omega))⟩
       case measure=>simp[intOf];omega
     ·have hn:((s[k].toNat:Int) != 95)=true:=by rw[bne_iff_ne];omega
      rcases Nat.eq_zero_or_pos k with rfl|h0
      ·go_wp2
       go_ret
       exact⟨ret_bool (no_of s 0 hlt (by omega)).symm,rfl⟩
      ·have hz:((k:Int)==0)=false:=beq_eq_false_iff_ne.2 (by omega)
       go_wp2
       go_ret
       exact⟨ret_bool (no_of s k hlt (by omega)).symm,rfl⟩
    ·go_wp2
     go_ret
     exact⟨ret_bool (name_true s (by omega) (by omega) (fun j hj=>HA.out j (by omega))).symm,rfl⟩
theorem impl_any (s:ByteArray) (w:World) (hs:s.size<=maxLen) :
  Calls Tryz.prog 60 #[.string s] w fun e w'=>e=.returned (.bool (nameB s))/\w'=w:=by
 unfold maxLen at hs
 by_cases h1:s.size<1
 ·go_enter Tryz.func60,Tryz.ntmps60
  go_wp2
  go_ret
  exact⟨ret_bool (name_short s h1).symm,rfl⟩
 ·by_cases h2:20<s.size
  ·go_enter Tryz.func60,Tryz.ntmps60
   go_wp2
   go_ret
   exact⟨ret_bool (name_long s h2).symm,rfl⟩
  ·have hp:0<s.size:=by omega
   by_cases hf:(97:Int)<=s[0].toNat/\(s[0].toNat:Int)<=122
   ·have HF:Hid ((97:Int)<=s[0].toNat/\(s[0].toNat:Int)<=122):=hf
    obtain⟨hf1,hf2⟩:=hf
    go_enter Tryz.func60,Tryz.ntmps60
    go_wp2
    go_loop [3,20] (fun _ i=>∃ k:Nat,k<=s.size/\i=.int .i64 k/\∀ j,j<k->okAt s j=true) (fun _ i=>s.size-(intOf i).toNat)
    case atStart=>exact⟨0,Nat.zero_le _,rfl,fun j hj=>absurd hj (Nat.not_lt_zero j)⟩
    case round =>
     obtain⟨k,hk,rfl,hall⟩:=hrel
     have HA:Hid (∀ j,j<k->okAt s j=true):=hall
     clear hall
     by_cases hlt:k<s.size
     ·rcases (show ((97:Int)<=s[k].toNat/\(s[k].toNat:Int)<=122)∨((122:Int)<(s[k].toNat:Int))∨((57:Int)<s[k].toNat/\(s[k].toNat:Int)<97)∨((48:Int)<=s[k].toNat/\(s[k].toNat:Int)<=57)∨(s[k].toNat:Int)<48 from by omega) with hl|hl|hl|hl|hl
      ·go_wp2
       go_round
       case rel=>exact⟨k+1,by omega,by go_num,ok_more s k HA.out (ok_of s k hlt (by omega))⟩
       case measure=>simp[intOf];omega
      ·have hn:((s[k].toNat:Int) != 95)=true:=by rw[bne_iff_ne];omega
       have hd1:decide ((s[k].toNat:Int)<=122)=false:=decide_eq_false (by omega)
       have hd2:decide ((s[k].toNat:Int)<=57)=false:=decide_eq_false (by omega)
       go_wp2
       go_ret
       exact⟨ret_bool (no_of s k hlt (by omega)).symm,rfl⟩
      ·have hd2:decide ((s[k].toNat:Int)<=57)=false:=decide_eq_false (by omega)
       by_cases hu:(s[k].toNat:Int)=95
       ·have h0:0<k:=by
         rcases Nat.eq_zero_or_pos k with rfl|h0
         ·omega
         ·exact h0
        have hn:((s[k].toNat:Int) != 95)=false:=by rw[hu];rfl
        have HU:Hid ((s[k].toNat:Int)=95):=hu
        clear hu
        go_wp2
        go_round
        case rel=>exact⟨k+1,by omega,by go_num,ok_more s k HA.out (ok_of s k hlt (.inr ⟨h0,.inr HU.out⟩))⟩
        case measure=>simp[intOf];omega
       ·have hn:((s[k].toNat:Int) != 95)=true:=by rw[bne_iff_ne];omega
        go_wp2
        go_ret
        exact⟨ret_bool (no_of s k hlt (by omega)).symm,rfl⟩
      ·have h0:0<k:=by
        rcases Nat.eq_zero_or_pos k with rfl|h0
        ·omega
        ·exact h0
       go_wp2
       go_round
       case rel=>exact⟨k+1,by omega,by go_num,ok_more s k HA.out (ok_of s k hlt (by omega))⟩
       case measure=>simp[intOf];omega
      ·have hn:((s[k].toNat:Int) != 95)=true:=by rw[bne_iff_ne];omega
       go_wp2
       go_ret
       exact⟨ret_bool (no_of s k hlt (by omega)).symm,rfl⟩
     ·go_wp2
      go_ret
      exact⟨ret_bool (name_true s (by omega) (by omega) (fun j hj=>HA.out j (by omega))).symm,rfl⟩
   ·rcases (show (s[0].toNat:Int)<97∨((97:Int)<=s[0].toNat/\(122:Int)<(s[0].toNat:Int)) from by omega) with hf'|hf'
    ·clear hf
     go_enter Tryz.func60,Tryz.ntmps60
     go_wp2
     go_ret
     exact⟨ret_bool (no_of s 0 hp (by omega)).symm,rfl⟩
    ·clear hf
     have hd1:decide ((s[0].toNat:Int)<=122)=false:=decide_eq_false (by omega)
     go_enter Tryz.func60,Tryz.ntmps60
     go_wp2
     go_ret
     exact⟨ret_bool (no_of s 0 hp (by omega)).symm,rfl⟩
end Go.Proofs.YtikiihjabbmkcaaGreatDoor.Nm


/- A peer in plain words: others, and when they are right. -/
namespace Go.Proofs.YtikiihjabbmkcaaGreatDoor.Pe
open Go.RowKit
open Go.Proofs.YtikiihjabbmkcaaGreatDoor.Nm (nameB)
structure Oth where
 name:ByteArray
 has:List Int
 asked:Int
 age:Int
 strikes:Int
def RisesTo (l:List Int) (c:Int) (n:Nat):Prop:=∀ j (hj:j<l.length),j<n->0<=l[j]/\l[j]<c/\(0<j->l.getD (j-1) 0<l[j])
noncomputable def risesB (l:List Int) (c:Int):Bool:=@decide (RisesTo l c l.length) (Classical.propDecidable _)
theorem risesB_yes {l:List Int} {c:Int} (h:RisesTo l c l.length):risesB l c=true:=by
 unfold risesB
 exact @decide_eq_true _ (Classical.propDecidable _) h
theorem risesB_no {l:List Int} {c:Int} (h:¬RisesTo l c l.length):risesB l c=false:=by
 unfold risesB
 exact @decide_eq_false _ (Classical.propDecidable _) h
theorem rises_zero (l:List Int) (c:Int):RisesTo l c 0:=fun _ _ h=>absurd h (Nat.not_lt_zero _)
def aheadZ (l:List Int) (j:Nat):Int:=if j=0 then -1 else l.getD (j-1) 0
theorem aheadZ_next (l:List Int) (j:Nat) (h:j<l.length):aheadZ l (j+1)=l[j]:=by
 unfold aheadZ
 rw[if_neg (by omega),Nat.add_sub_cancel,List.getD_eq_getElem?_getD,List.getElem?_eq_getElem h]
 rfl
theorem rises_step {l:List Int} {c:Int} {j:Nat} (hj:j<l.length) (h:RisesTo l c j) (h1:aheadZ l j<l[j]) (h2:l[j]<c):RisesTo l c (j+1):=by
 intro i hi hij
 by_cases e:i=j
 ·subst e
  unfold aheadZ at h1
  by_cases h0:i=0
  ·rw[if_pos h0]at h1
   exact⟨by omega,h2,fun h=>by omega⟩
  ·rw[if_neg h0]at h1
   have:=(h (i-1) (by omega) (by omega)).1
   rw[List.getD_eq_getElem?_getD,List.getElem?_eq_getElem (by omega)]at h1
   simp at h1
   refine⟨by omega,h2,fun _=>?_⟩
   rw[List.getD_eq_getElem?_getD,List.getElem?_eq_getElem (by omega)]
   simpa using h1
 ·exact h i hi (by omega)
theorem rises_bad {l:List Int} {c:Int} {j:Nat} (hj:j<l.length) (h:¬(aheadZ l j<l[j]/\l[j]<c)):¬RisesTo l c l.length:=by
 intro hr
 have hq:=hr j hj hj
 apply h
 refine⟨?_,hq.2.1⟩
 unfold aheadZ
 by_cases h0:j=0
 ·rw[if_pos h0]
  omega
 ·rw[if_neg h0]
  exact hq.2.2 (by omega)
theorem rises_step2 {l:List Int} {c:Int} {j:Nat} (hj:j<l.length) (h:RisesTo l c j) (h0:0<=l[j]) (h2:l[j]<c) (h1:0<j->l.getD (j-1) 0<l[j]):RisesTo l c (j+1):=by
 intro i hi hij
 by_cases e:i=j
 ·subst e
  exact⟨h0,h2,h1⟩
 ·exact h i hi (by omega)
theorem rises_bad2 {l:List Int} {c:Int} {j:Nat} (hj:j<l.length) (h:¬(0<=l[j]/\l[j]<c/\(0<j->l.getD (j-1) 0<l[j]))):¬RisesTo l c l.length:=fun hr=>h (hr j hj hj)
def askB (o:Oth) (c:Int):Bool:=decide (0<=o.asked/\o.asked<=c/\0<=o.age/\o.age<=3/\(0<o.asked∨o.age=0))
def strB (o:Oth):Bool:=decide (0<=o.strikes/\o.strikes<=3)
def banB (o:Oth):Bool:=o.strikes==3
def shutB (o:Oth):Bool:=!banB o || (decide (o.has.length=0) && decide (o.asked=0))
noncomputable def othB (o:Oth) (c:Int):Bool:=nameB o.name && risesB o.has c && askB o c && strB o && shutB o
def ltN (a b:ByteArray):Bool:=Op.bytesLess a.toList b.toList
def OthsTo (l:List Oth) (c:Int) (n:Nat):Prop:=∀ j (hj:j<l.length),j<n->othB l[j] c=true/\(∀ i (hi:i<l.length),i+1=j->ltN l[i].name l[j].name=true)
noncomputable def othsB (l:List Oth) (c:Int):Bool:=@decide (l.length<=4/\OthsTo l c l.length) (Classical.propDecidable _)
theorem othsB_yes {l:List Oth} {c:Int} (h1:l.length<=4) (h:OthsTo l c l.length):othsB l c=true:=by
 unfold othsB
 exact @decide_eq_true _ (Classical.propDecidable _) ⟨h1,h⟩
theorem othsB_no {l:List Oth} {c:Int} (h:¬OthsTo l c l.length):othsB l c=false:=by
 unfold othsB
 exact @decide_eq_false _ (Classical.propDecidable _) (fun h'=>h h'.2)
theorem othsB_long {l:List Oth} {c:Int} (h:4<l.length):othsB l c=false:=by
 unfold othsB
 exact @decide_eq_false _ (Classical.propDecidable _) (fun h'=>by omega)
theorem oths_of {l:List Oth} {c:Int} (h:othsB l c=true):l.length<=4/\OthsTo l c l.length:=by
 unfold othsB at h
 exact @of_decide_eq_true _ (Classical.propDecidable _) h
theorem oths_zero (l:List Oth) (c:Int):OthsTo l c 0:=fun _ _ h=>absurd h (Nat.not_lt_zero _)
theorem oths_step {l:List Oth} {c:Int} {j:Nat} (hj:j<l.length) (h:OthsTo l c j) (h1:othB l[j] c=true) (h2:∀ i (hi:i<l.length),i+1=j->ltN l[i].name l[j].name=true):OthsTo l c (j+1):=by
 intro i hi hij
 by_cases e:i=j
 ·subst e
  exact⟨h1,h2⟩
 ·exact h i hi (by omega)
end Go.Proofs.YtikiihjabbmkcaaGreatDoor.Pe

