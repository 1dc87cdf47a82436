/- Texts put together: NamePlain, NameWalks. -/
import Derived.Test.YtpddanmnlkcdpaaGreatDoorChecked
import Derived.WalkKit
import Derived.WalkSpells
set_option maxRecDepth 100000
set_option maxHeartbeats 8000000
/- Plain mathematics of names: which texts are names, byte by byte. -/
namespace Go.Proofs.YtpddanmnlkcdpaaGreatDoor.Nm
def letB (c:Int):Bool:=decide (97<=c) && decide (c<=122)
def digB (c:Int):Bool:=decide (48<=c) && decide (c<=57)
def byteAt (s:ByteArray) (i:Nat):Int:=((s.data.toList.getD i 0).toNat:Int)
def okAt (s:ByteArray) (i:Nat):Bool:=letB (byteAt s i) || (decide (0<i) && (digB (byteAt s i) || decide (byteAt s i=95)))
def nameB (s:ByteArray):Bool:=decide (1<=s.size) && (decide (s.size<=20) && (List.range s.size).all (okAt s))
theorem byteAt_eq (s:ByteArray) (i:Nat) (h:i<s.size):byteAt s i=(s[i].toNat:Int):=by
 have h':i<s.data.toList.length:=by simpa using h
 unfold byteAt
 rw[List.getD_eq_getElem?_getD,List.getElem?_eq_getElem h']
 rfl
theorem name_true (s:ByteArray) (h1:1<=s.size) (h2:s.size<=20) (h:∀ j,j<s.size->okAt s j=true):nameB s=true:=by
 simp only[nameB,h1,h2,decide_true,Bool.true_and,List.all_eq_true,List.mem_range]
 exact h
theorem name_short (s:ByteArray) (h1:s.size<1):nameB s=false:=by
 have:¬1<=s.size:=by omega
 simp[nameB,this]
theorem name_long (s:ByteArray) (h1:20<s.size):nameB s=false:=by
 have:¬s.size<=20:=by omega
 simp[nameB,this]
theorem name_bad (s:ByteArray) (k:Nat) (hk:k<s.size) (h:okAt s k=false):nameB s=false:=by
 cases e:nameB s with
 |false=>rfl
 |true =>
  simp only[nameB,Bool.and_eq_true,List.all_eq_true,List.mem_range]at e
  have:=e.2.2 k hk
  rw[h]at this
  exact absurd this (by decide)
theorem ok_of (s:ByteArray) (k:Nat) (hlt:k<s.size)
  (h:((97:Int)<=s[k].toNat/\(s[k].toNat:Int)<=122)∨(0<k/\(((48:Int)<=s[k].toNat/\(s[k].toNat:Int)<=57)∨(s[k].toNat:Int)=95))):okAt s k=true:=by
 unfold okAt letB digB
 rw[byteAt_eq s k hlt]
 simp only[Bool.or_eq_true,Bool.and_eq_true,decide_eq_true_eq]
 exact h
theorem no_of (s:ByteArray) (k:Nat) (hlt:k<s.size)
  (h:¬(((97:Int)<=s[k].toNat/\(s[k].toNat:Int)<=122)∨(0<k/\(((48:Int)<=s[k].toNat/\(s[k].toNat:Int)<=57)∨(s[k].toNat:Int)=95)))):nameB s=false:=by
 refine name_bad s k hlt ?_
 cases e:okAt s k with
 |false=>rfl
 |true =>
  exfalso
  apply h
  unfold okAt letB digB at e
  rw[byteAt_eq s k hlt]at e
  simp only[Bool.or_eq_true,Bool.and_eq_true,decide_eq_true_eq]at e
  exact e
theorem ok_more (s:ByteArray) (k:Nat) (hall:∀ j,j<k->okAt s j=true) (h:okAt s k=true):∀ j,j<k+1->okAt s j=true:=by
 intro j hj
 by_cases e:j=k
 ·rw[e];exact h
 ·exact hall j (by omega)
end Go.Proofs.YtpddanmnlkcdpaaGreatDoor.Nm


namespace Go.Proofs.YtpddanmnlkcdpaaGreatDoor.Nm
open Go.RowKit
theorem ret_bool {a b:Bool} (h:a=b):Ending.returned (.bool a)=.returned (.bool b):=by rw[h]
theorem spec_any (s:ByteArray) (w:World) (hs:s.size<=maxLen) :
  Calls Tryz.prog 27 #[.string s] w fun e w'=>e=.returned (.bool (nameB s))/\w'=w:=by
 unfold maxLen at hs
 by_cases h1:s.size<1
 ·go_enter Tryz.func27,Tryz.ntmps27
  go_wp2
  go_ret
  exact⟨ret_bool (name_short s h1).symm,rfl⟩
 ·by_cases h2:20<s.size
  ·go_enter Tryz.func27,Tryz.ntmps27
   go_wp2
   go_ret
   exact⟨ret_bool (name_long s h2).symm,rfl⟩
  ·go_enter Tryz.func27,Tryz.ntmps27
   go_wp2
   go_loop [3] (fun i=>∃ k:Nat,k<=s.size/\i=.int .i64 k/\∀ j,j<k->okAt s j=true) (fun i=>s.size-(intOf i).toNat)
   case atStart=>exact⟨0,Nat.zero_le _,rfl,fun j hj=>absurd hj (Nat.not_lt_zero j)⟩
   case round =>
    obtain⟨k,hk,rfl,hall⟩:=hrel
    have HA:Hid (∀ j,j<k->okAt s j=true):=hall
    clear hall
    by_cases hlt:k<s.size
    ·rcases (show ((97:Int)<=s[k].toNat/\(s[k].toNat:Int)<=122)∨((122:Int)<(s[k].toNat:Int))∨((57:Int)<s[k].toNat/\(s[k].toNat:Int)<97)∨((48:Int)<=s[k].toNat/\(s[k].toNat:Int)<=57)∨(s[k].toNat:Int)<48 from by omega) with hl|hl|hl|hl|hl
     ·go_wp2
      go_round
      case rel=>exact⟨k+1,by omega,by go_num,ok_more s k HA.out (ok_of s k hlt (by omega))⟩
      case measure=>simp[intOf];omega
     ·have hn:((s[k].toNat:Int) != 95)=true:=by rw[bne_iff_ne];omega
      have hd1:decide ((s[k].toNat:Int)<=122)=false:=decide_eq_false (by omega)
      have hd2:decide ((s[k].toNat:Int)<=57)=false:=decide_eq_false (by omega)
      rcases Nat.eq_zero_or_pos k with rfl|h0
      ·go_wp2
       go_ret
       exact⟨ret_bool (no_of s 0 hlt (by omega)).symm,rfl⟩
      ·have hz:((k:Int)==0)=false:=beq_eq_false_iff_ne.2 (by omega)
       go_wp2
       go_ret
       exact⟨ret_bool (no_of s k hlt (by omega)).symm,rfl⟩
     ·have hd2:decide ((s[k].toNat:Int)<=57)=false:=decide_eq_false (by omega)
      rcases Nat.eq_zero_or_pos k with rfl|h0
      ·go_wp2
       go_ret
       exact⟨ret_bool (no_of s 0 hlt (by omega)).symm,rfl⟩
      ·have hz:((k:Int)==0)=false:=beq_eq_false_iff_ne.2 (by omega)
       by_cases hu:(s[k].toNat:Int)=95
       ·have hn:((s[k].toNat:Int) != 95)=false:=by rw[hu];rfl
        have HU:Hid ((s[k].toNat:Int)=95):=hu
        clear hu
        go_wp2
        go_round
        case rel=>exact⟨k+1,by omega,by go_num,ok_more s k HA.out (ok_of s k hlt (.inr ⟨h0,.inr HU.out⟩))⟩
        case measure=>simp[intOf];omega
       ·have hn:((s[k].toNat:Int) != 95)=true:=by rw[bne_iff_ne];omega
        go_wp2
        go_ret
        exact⟨ret_bool (no_of s k hlt (by omega)).symm,rfl⟩
     ·rcases Nat.eq_zero_or_pos k with rfl|h0
      ·go_wp2
       go_ret
       exact⟨ret_bool (no_of s 0 hlt (by omega)).symm,rfl⟩
      ·have hz:((k:Int)==0)=false:=beq_eq_false_iff_ne.2 (by omega)
       go_wp2
       go_round
       case rel=>exact⟨k+1,by omega,by go_num,ok_more s k HA.out (ok_of s k hlt (by omega))⟩
       case measure=>simp[intOf];omega
     ·have hn:((s[k].toNat:Int) != 95)=true:=by rw[bne_iff_ne];omega
      rcases Nat.eq_zero_or_pos k with rfl|h0
      ·go_wp2
       go_ret
       exact⟨ret_bool (no_of s 0 hlt (by omega)).symm,rfl⟩
      ·have hz:((k:Int)==0)=false:=beq_eq_false_iff_ne.2 (by omega)
       go_wp2
       go_ret
       exact⟨ret_bool (no_of s k hlt (by omega)).symm,rfl⟩
    ·go_wp2
     go_ret
     exact⟨ret_bool (name_true s (by omega) (by omega) (fun j hj=>HA.out j (by omega))).symm,rfl⟩
theorem impl_any (s:ByteArray) (w:World) (hs:s.size<=maxLen) :
  Calls Tryz.prog 34 #[.string s] w fun e w'=>e=.returned (.bool (nameB s))/\w'=w:=by
 unfold maxLen at hs
 by_cases h1:s.size<1
 ·go_enter Tryz.func34,Tryz.ntmps34
  go_wp2
  go_ret
  exact⟨ret_bool (name_short s h1).symm,rfl⟩
 ·by_cases h2:20<s.size
  ·go_enter Tryz.func34,Tryz.ntmps34
   go_wp2
   go_ret
   exact⟨ret_bool (name_long s h2).symm,rfl⟩
  ·have hp:0<s.size:=by omega
   by_cases hf:(97:Int)<=s[0].toNat/\(s[0].toNat:Int)<=122
   ·have HF:Hid ((97:Int)<=s[0].toNat/\(s[0].toNat:Int)<=122):=hf
    obtain⟨hf1,hf2⟩:=hf
    go_enter Tryz.func34,Tryz.ntmps34
    go_wp2
    go_loop [3,20] (fun _ i=>∃ k:Nat,k<=s.size/\i=.int .i64 k/\∀ j,j<k->okAt s j=true) (fun _ i=>s.size-(intOf i).toNat)
    case atStart=>exact⟨0,Nat.zero_le _,rfl,fun j hj=>absurd hj (Nat.not_lt_zero j)⟩
    case round =>
     obtain⟨k,hk,rfl,hall⟩:=hrel
     have HA:Hid (∀ j,j<k->okAt s j=true):=hall
     clear hall
     by_cases hlt:k<s.size
     ·rcases (show ((97:Int)<=s[k].toNat/\(s[k].toNat:Int)<=122)∨((122:Int)<(s[k].toNat:Int))∨((57:Int)<s[k].toNat/\(s[k].toNat:Int)<97)∨((48:Int)<=s[k].toNat/\(s[k].toNat:Int)<=57)∨(s[k].toNat:Int)<48 from by omega) with hl|hl|hl|hl|hl
      ·go_wp2
       go_round
       case rel=>exact⟨k+1,by omega,by go_num,ok_more s k HA.out (ok_of s k hlt (by omega))⟩
       case measure=>simp[intOf];omega
      ·have hn:((s[k].toNat:Int) != 95)=true:=by rw[bne_iff_ne];omega
       have hd1:decide ((s[k].toNat:Int)<=122)=false:=decide_eq_false (by omega)
       have hd2:decide ((s[k].toNat:Int)<=57)=false:=decide_eq_false (by omega)
       go_wp2
       go_ret
       exact⟨ret_bool (no_of s k hlt (by omega)).symm,rfl⟩
      ·have hd2:decide ((s[k].toNat:Int)<=57)=false:=decide_eq_false (by omega)
       by_cases hu:(s[k].toNat:Int)=95
       ·have h0:0<k:=by
         rcases Nat.eq_zero_or_pos k with rfl|h0
         ·omega
         ·exact h0
        have hn:((s[k].toNat:Int) != 95)=false:=by rw[hu];rfl
        have HU:Hid ((s[k].toNat:Int)=95):=hu
        clear hu
        go_wp2
        go_round
        case rel=>exact⟨k+1,by omega,by go_num,ok_more s k HA.out (ok_of s k hlt (.inr ⟨h0,.inr HU.out⟩))⟩
        case measure=>simp[intOf];omega
       ·have hn:((s[k].toNat:Int) != 95)=true:=by rw[bne_iff_ne];omega
        go_wp2
        go_ret
        exact⟨ret_bool (no_of s k hlt (by omega)).symm,rfl⟩
      ·have h0:0<k:=by
        rcases Nat.eq_zero_or_pos k with rfl|h0
        ·omega
        ·exact h0
       go_wp2
       go_round
       case rel=>exact⟨k+1,by omega,by go_num,ok_more s k HA.out (ok_of s k hlt (by omega))⟩
       case measure=>simp[intOf];omega
      ·have hn:((s[k].toNat:Int) != 95)=true:=by rw[bne_iff_ne];omega
       go_wp2
       go_ret
       exact⟨ret_bool (no_of s k hlt (by omega)).symm,rfl⟩
     ·go_wp2
      go_ret
      exact⟨ret_bool (name_true s (by omega) (by omega) (fun j hj=>HA.out j (by omega))).symm,rfl⟩
   ·rcases (show (s[0].toNat:Int)<97∨((97:Int)<=s[0].toNat/\(122:Int)<(s[0].toNat:Int)) from by omega) with hf'|hf'
    ·clear hf
     go_enter Tryz.func34,Tryz.ntmps34
     go_wp2
     go_ret
     exact⟨ret_bool (no_of s 0 hp (by omega)).symm,rfl⟩
    ·clear hf
     have hd1:decide ((s[0].toNat:Int)<=122)=false:=decide_eq_false (by omega)
     go_enter Tryz.func34,Tryz.ntmps34
     go_wp2
     go_ret
     exact⟨ret_bool (no_of s 0 hp (by omega)).symm,rfl⟩
end Go.Proofs.YtpddanmnlkcdpaaGreatDoor.Nm

