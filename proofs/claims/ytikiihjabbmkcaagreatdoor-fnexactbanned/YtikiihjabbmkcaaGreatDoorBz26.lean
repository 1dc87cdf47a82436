/- Texts put together: JoinWalks, TextWalks, LsBytes, LsBytes2, GetPlain. -/
import Derived.Test.YtikiihjabbmkcaaGreatDoorBz7
import Derived.Test.YtikiihjabbmkcaaGreatDoorBz24
import Derived.Test.YtikiihjabbmkcaaGreatDoorBz20
import Derived.Test.YtikiihjabbmkcaaGreatDoorBz25
import Derived.Lib.QuietBelow
import Derived.Deep.RegionHeld3
import Derived.Deep.CutRange
import Derived.BigRegion
import Derived.Laws.BitsAllLaws
set_option maxRecDepth 100000
set_option maxHeartbeats 8000000
namespace Go.Proofs.YtikiihjabbmkcaaGreatDoor.Nu
open Go.RowKit
theorem join_some (a b:ByteArray) (w:World) (h:a.size+b.size<=1099511627776) (hb:¬b=ByteArray.empty) :
  Calls Tryz.prog 189 #[.string a,.string b] w fun e w'=>e=.returned (.string (a++b))/\Below w.heap.size w w':=by
 obtain⟨i0,hi,hz0,hz1,hz2⟩:=info_parts Tryz.infoJ5
 go_enter Tryz.func189,Tryz.ntmps189
 go_wp2_with (at_make;refine wpList_make_full _ rfl (.tmp 10) (.tmp 10) 168 rfl w.heap.size 5 i0 (.int .u8 0) 1 Tryz.underlying168 hi hz0 hz1 .i64 .i64 _ _ (a.size+b.size) rfl rfl (by simp) (by simp) (by rw[hz2];omega) (by unfold maxLen;omega) (Nat.le_refl _) ?_;intro w1 hown1 hgrow1;obtain⟨cur,hblk,hlen⟩:=made_block hown1;have hbel1:=(Below.refl w.heap.size w).grown hgrow1 (Nat.le_refl _) (by simp);obtain⟨w2,w3,c1,c2,c3,hb3⟩:=join_facts (P:=Tryz.prog) (ty:=3) (sT:=9) (a:=a) (b:=b) (dp:=some ⟨w.heap.size,a.size,none⟩) (dLen:=b.size) (dCap:=b.size) Tryz.underlying168 Tryz.underlying5 Tryz.underlying9 Tryz.sizeJ5 hblk hlen rfl hbel1 (fun _=>rfl) (Nat.le_refl _);clear hown1 hgrow1 hblk hlen hbel1)
 go_ret
 exact⟨rfl,by assumption⟩
theorem join_none (a:ByteArray) (w:World) (h:a.size<=1099511627776) :
  Calls Tryz.prog 189 #[.string a,.string ByteArray.empty] w fun e w'=>e=.returned (.string (a++ByteArray.empty))/\Below w.heap.size w w':=by
 obtain⟨i0,hi,hz0,hz1,hz2⟩:=info_parts Tryz.infoJ5
 go_enter Tryz.func189,Tryz.ntmps189
 go_wp2_with (at_make;refine wpList_make_full _ rfl (.tmp 10) (.tmp 10) 168 rfl w.heap.size 5 i0 (.int .u8 0) 1 Tryz.underlying168 hi hz0 hz1 .i64 .i64 _ _ a.size rfl rfl (by simp) (by simp) (by rw[hz2];omega) (by unfold maxLen;omega) (Nat.le_refl _) ?_;intro w1 hown1 hgrow1;obtain⟨cur,hblk,hlen⟩:=made_block hown1;have hbel1:=(Below.refl w.heap.size w).grown hgrow1 (Nat.le_refl _) (by simp);obtain⟨w2,w3,c1,c2,c3,hb3⟩:=join_facts (P:=Tryz.prog) (ty:=3) (sT:=9) (a:=a) (b:=ByteArray.empty) (dp:=some ⟨w.heap.size,0,none⟩) (dLen:=0) (dCap:=0) Tryz.underlying168 Tryz.underlying5 Tryz.underlying9 Tryz.sizeJ5 hblk hlen (by simp) hbel1 (by simp) (by simp);clear hown1 hgrow1 hblk hlen hbel1)
 go_ret
 exact⟨ret_strJ (by simp),by assumption⟩
theorem join_any (a b:ByteArray) (w:World) (h:a.size+b.size<=1099511627776) :
  Calls Tryz.prog 189 #[.string a,.string b] w fun e w'=>e=.returned (.string (a++b))/\Below w.heap.size w w':=by
 by_cases hb:b=ByteArray.empty
 ·subst hb
  exact join_none a w (by omega)
 ·exact join_some a b w h hb
end Go.Proofs.YtikiihjabbmkcaaGreatDoor.Nu


namespace Go.Proofs.YtikiihjabbmkcaaGreatDoor.Nu
open Go.RowKit
def putT (t:ByteArray):ByteArray:=if t.size<=8000 then putS (t.size:Int)++t else ⟨#[]⟩
theorem putS_size (n:Int):(putS n).size<=10:=by
 have:=(numB_length (zz n)).1
 simpa [putS,ByteArray.size] using this
theorem text_spec (t:ByteArray) (w:World) (ht:t.size<=maxLen) :
  Calls Tryz.prog 201 #[.string t] w fun e w'=>e=.returned (.string (putT t))/\Below w.heap.size w w':=by
 unfold maxLen at ht
 by_cases h:8000<t.size
 ·have HP:=hide (show putT t=⟨#[]⟩ by unfold putT;rw[if_neg (by omega)])
  go_enter Tryz.func201,Tryz.ntmps201
  go_wp2
  go_ret
  exact⟨ret_str HP.out.symm,Below.refl _ _⟩
 ·have HP:=hide (show putT t=putS (t.size:Int)++t by unfold putT;rw[if_pos (by omega)])
  have hps:=putS_size (t.size:Int)
  go_enter Tryz.func201,Tryz.ntmps201
  go_wp2_with fail
  refine(put_spec _ _ (by omega) (by omega)).mono ?_
  rintro e w1 ⟨rfl,hb1⟩
  go_wp2
  go_ret
  exact⟨ret_str HP.out.symm,hb1⟩
theorem text_impl (t:ByteArray) (w:World) (ht:t.size<=maxLen) :
  Calls Tryz.prog 245 #[.string t] w fun e w'=>e=.returned (.string (putT t))/\Below w.heap.size w w':=by
 unfold maxLen at ht
 by_cases h:8000<t.size
 ·have HP:=hide (show putT t=⟨#[]⟩ by unfold putT;rw[if_neg (by omega)])
  go_enter Tryz.func245,Tryz.ntmps245
  go_wp2
  go_ret
  exact⟨ret_str HP.out.symm,Below.refl _ _⟩
 ·have HP:=hide (show putT t=putS (t.size:Int)++t by unfold putT;rw[if_pos (by omega)])
  have hps:=putS_size (t.size:Int)
  go_enter Tryz.func245,Tryz.ntmps245
  go_wp2_with fail
  refine(put_impl _ _ (by omega) (by omega)).mono ?_
  rintro e w1 ⟨rfl,hb1⟩
  go_wp2_with fail
  refine(join_any _ _ _ (by omega)).mono ?_
  rintro e w2 ⟨rfl,hb2⟩
  go_wp2
  go_ret
  exact⟨ret_str HP.out.symm,hb1.trans (hb2.mono hb1.size)⟩
end Go.Proofs.YtikiihjabbmkcaaGreatDoor.Nu


/- The bytes of a List: what both sides answer. -/
namespace Go.Proofs.YtikiihjabbmkcaaGreatDoor.Ls
open Go.RowKit
open Pk (cat numsL join_any)
open St (Strs)
open In (Ints)
open Nu (putS putT put_spec text_spec text_impl putS_size)
def bytesA (z b:Int) (r:ByteArray):ByteArray:=putS z++putS b++putT r
def bytesL (z b:Int) (r:ByteArray):ByteArray:=if rightB z b r=true then bytesA z b r else ⟨#[]⟩
theorem mixed:Tryz.prog.follows .mixedOrders=true:=by kernel_rfl
end Go.Proofs.YtikiihjabbmkcaaGreatDoor.Ls


/- ListBytes: what both sides answer. -/
namespace Go.Proofs.YtikiihjabbmkcaaGreatDoor.Ls
open Go.RowKit
open Pk (cat numsL join_any)
open St (Strs)
open In (Ints)
open Nu (putS putT put_spec text_spec text_impl putS_size)
end Go.Proofs.YtikiihjabbmkcaaGreatDoor.Ls


/- Plain mathematics of reading a number: what stands at a place of a text, byte by byte. -/
namespace Go.Proofs.YtikiihjabbmkcaaGreatDoor.Gn
def byteN (s:ByteArray) (p:Nat):Nat:=(s.data.toList.getD p 0).toNat
theorem byteN_eq (s:ByteArray) (p:Nat) (h:p<s.size):s[p].toNat=byteN s p:=by
 have h':p<s.data.toList.length:=by simpa using h
 unfold byteN
 rw[List.getD_eq_getElem?_getD,List.getElem?_eq_getElem h']
 rfl
def run (s:ByteArray):Nat->Nat->Nat->Nat->Nat × Nat × Int
 |0,_,_,_=>(0,0,3)
 |f+1,k,p,u =>
  if s.size<=p then (0,0,4)
  else if k=9/\1<byteN s p then (0,0,3)
  else if byteN s p<128 then (if byteN s p=0/\0<k then (0,0,3) else (u+byteN s p%128*2 ^ (7*k),p+1,0))
  else run s f (k+1) (p+1) (u+byteN s p%128*2 ^ (7*k))
def numR (s:ByteArray) (a:Nat):Nat × Nat × Int:=run s 10 0 a 0
theorem run_end (s:ByteArray) (f k p u:Nat) (h:s.size<=p):run s (f+1) k p u=(0,0,4):=by
 rw[run,if_pos h]
theorem run_nine (s:ByteArray) (f k p u:Nat) (h:p<s.size) (hk:k=9) (hc:1<s[p].toNat):run s (f+1) k p u=(0,0,3):=by
 rw[byteN_eq s p h]at hc
 rw[run,if_neg (by omega),if_pos ⟨hk,hc⟩]
theorem run_zero (s:ByteArray) (f k p u:Nat) (h:p<s.size) (hc:s[p].toNat=0) (hk:0<k):run s (f+1) k p u=(0,0,3):=by
 rw[byteN_eq s p h]at hc
 rw[run,if_neg (by omega),if_neg (by omega),if_pos (by omega),if_pos ⟨hc,hk⟩]
theorem run_last (s:ByteArray) (f k p u:Nat) (h:p<s.size) (h9:¬(k=9/\1<s[p].toNat)) (hc:s[p].toNat<128) (hz:¬(s[p].toNat=0/\0<k)) :
  run s (f+1) k p u=(u+s[p].toNat%128*2 ^ (7*k),p+1,0):=by
 rw[byteN_eq s p h]at hc hz h9 ⊢
 rw[run,if_neg (by omega),if_neg h9,if_pos hc,if_neg hz]
theorem run_more (s:ByteArray) (f k p u:Nat) (h:p<s.size) (hk:k≠9) (hc:128<=s[p].toNat) :
  run s (f+1) k p u=run s f (k+1) (p+1) (u+s[p].toNat%128*2 ^ (7*k)):=by
 rw[byteN_eq s p h]at hc ⊢
 rw[run,if_neg (by omega),if_neg (by omega),if_neg (by omega)]
theorem pow_le (k:Nat) (hk:k<=9):2 ^ (7*k)<=9223372036854775808:=by
 have:2 ^ (7*k)<=2 ^ 63:=Nat.pow_le_pow_right (by decide) (by omega)
 exact this
theorem pow_next (k:Nat):2 ^ (7*(k+1))=128*2 ^ (7*k):=by
 rw[show 7*(k+1)=7+7*k by omega,Nat.pow_add]
theorem part_lt (c k:Nat):c%128*2 ^ (7*k)<=127*2 ^ (7*k):=Nat.mul_le_mul_right _ (by omega)
theorem next_lt (u c k:Nat) (hu:u<2 ^ (7*k)):u+c%128*2 ^ (7*k)<2 ^ (7*(k+1)):=by
 rw[pow_next]
 have:=part_lt c k
 omega
theorem next_small (u c k:Nat) (hu:u<2 ^ (7*k)) (hk:k<=9) (h9:¬(k=9/\1<c)):c%128*2 ^ (7*k)<=9223372036854775808/\u+c%128*2 ^ (7*k)<=18446744073709551615:=by
 have hp:=pow_le k hk
 by_cases e:k=9
 ·have hc:c%128<=1:=by omega
  have:=Nat.mul_le_mul_right (2 ^ (7*k)) hc
  omega
 ·have hn:=next_lt u c k hu
  have:=pow_le (k+1) (by omega)
  omega
theorem or_add (u c k:Nat) (hu:u<2 ^ (7*k)):u ||| (c%128*2 ^ (7*k))=u+c%128*2 ^ (7*k):=by
 rw[Nat.or_comm,nat_join (7*k) (c%128*2 ^ (7*k)) u (Nat.mul_mod_left _ _) hu,Nat.add_comm]
def unz (u:Nat):Int:=if u%2=1 then -((u/2:Nat):Int)-1 else ((u/2:Nat):Int)
theorem wrap_part (c k:Nat) (h:c%128*2 ^ (7*k)<=9223372036854775808):IntKind.u64.wrap ((c:Int)%128*2 ^ (7*k))=((c%128*2 ^ (7*k):Nat):Int):=by
 have e:((c:Int)%128*2 ^ (7*k))=((c%128*2 ^ (7*k):Nat):Int):=by
  rw[Int.natCast_mul,Int.natCast_emod,Int.natCast_pow];rfl
 rw[e,IntKind.wrap_u64]
 omega
theorem wrap_next (v c k:Nat) (h1:c%128*2 ^ (7*k)<=9223372036854775808) (h2:v+c%128*2 ^ (7*k)<=18446744073709551615) :
  IntKind.u64.wrap ((v:Int)+IntKind.u64.wrap ((c:Int)%128*2 ^ (7*k)))=((v+c%128*2 ^ (7*k):Nat):Int):=by
 rw[wrap_part c k h1,IntKind.wrap_u64]
 omega
theorem unz_odd (x:Nat) (h:x%2=1):unz x = -((x/2:Nat):Int)-1:=by unfold unz;rw[if_pos h]
theorem unz_even (x:Nat) (h:¬x%2=1):unz x=((x/2:Nat):Int):=by unfold unz;rw[if_neg h]
theorem and_low (c:Nat) (h:c<256):bits BinOp.and IntKind.u8 (c:Int) 127=((c%128:Nat):Int):=by
 have:=u8_and_nat c 127 h (by decide)
 rw[nat_mask7]at this
 exact this
theorem shl_part (y k:Nat) (h:y*2 ^ (7*k)<=9223372036854775808):IntKind.u64.wrap ((y:Int)*2 ^ (7*k))=((y*2 ^ (7*k):Nat):Int):=by
 have e:((y:Int)*2 ^ (7*k))=((y*2 ^ (7*k):Nat):Int):=by
  rw[Int.natCast_mul,Int.natCast_pow];rfl
 rw[e,IntKind.wrap_u64]
 omega
theorem or_part (v c k:Nat) (hv:v<2 ^ (7*k)) (h1:c%128*2 ^ (7*k)<=9223372036854775808) (h2:v<=9223372036854775807) :
  bits BinOp.or IntKind.u64 (v:Int) ((c%128*2 ^ (7*k):Nat):Int)=((v+c%128*2 ^ (7*k):Nat):Int):=by
 rw[u64_or_nat v _ (by omega) (by omega),or_add v c k hv]
theorem unz_odd' (x:Nat) (h:x%2=1):-((x:Int)/2)-1=unz x:=by rw[unz_odd x h];omega
theorem unz_even' (x:Nat) (h:¬x%2=1):(x:Int)/2=unz x:=by rw[unz_even x h];omega
end Go.Proofs.YtikiihjabbmkcaaGreatDoor.Gn

