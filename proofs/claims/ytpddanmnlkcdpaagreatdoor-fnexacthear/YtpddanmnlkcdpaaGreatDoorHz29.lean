/- Texts put together: CrcWalks, SealWalks. -/
import Derived.Test.YtpddanmnlkcdpaaGreatDoorChecked
import Derived.Test.YtpddanmnlkcdpaaGreatDoorHz0
import Derived.WalkKit
import Derived.WalkSpells
import Derived.WalkLawsBesides
import Derived.Test.YtpddanmnlkcdpaaGreatDoorHz21
set_option maxRecDepth 100000
set_option maxHeartbeats 8000000
namespace Go.Proofs.YtpddanmnlkcdpaaGreatDoor.Cr
open Go.RowKit
theorem ret_int {k:IntKind} {a b:Int} (h:a=b):Ending.returned (.int k a)=.returned (.int k b):=by rw[h]
theorem byte_any (r c:Nat) (w:World) (hr:r<4294967296) (hc:c<256) :
  Calls Tryz.prog 239 #[.int .u32 r,.int .u8 c] w fun e w'=>e=.returned (.int .u32 (crc8 r c:Nat))/\w'=w:=by
 go_enter Tryz.func239,Tryz.ntmps239
 go_wp2
 go_loop [0,5,6,7] (fun a _ _ i=>∃ k x:Nat,k<=8/\i=.int .i64 k/\x<4294967296/\a=.int .u32 x/\x ^^^ c/2 ^ k=stepN k (r ^^^ c)) (fun _ _ _ i=>8-(intOf i).toNat)
 case atStart=>exact⟨0,r,by omega,rfl,hr,rfl,by simp[stepN]⟩
 case round =>
  obtain⟨k,x,hk,rfl,hx,rfl,hinv⟩:=hrel
  have HI:Hid (x ^^^ c/2 ^ k=stepN k (r ^^^ c)):=hinv
  clear hinv
  by_cases hlt:k<8
  ·have ht:=turned_eq x c k hx hc
   by_cases hb:(x ^^^ c/2 ^ k)%2=1
   ·have hB:(bits BinOp.and IntKind.u32 (bits BinOp.xor IntKind.u32 (x:Int) ((c:Int)/2 ^ k%4294967296)) 1==1)=true:=by rw[ht,hb];rfl
    have HS:Hid (implS x c k=(x/2) ^^^ 3988292384):=by unfold Hid implS;rw[if_pos hb]
    clear ht hb
    go_wp2
    go_round
    case rel=>exact⟨k+1,implS x c k,by omega,by go_num,implS_lt c k hx,by rw[HS.out,half_xor x hx],by rw[inv_step,HI.out];rfl⟩
    case measure=>simp[intOf];omega
   ·have hB:(bits BinOp.and IntKind.u32 (bits BinOp.xor IntKind.u32 (x:Int) ((c:Int)/2 ^ k%4294967296)) 1==1)=false:=by rw[ht];simp;omega
    have HS:Hid (implS x c k=x/2):=by unfold Hid implS;rw[if_neg hb]
    clear ht hb
    go_wp2
    go_round
    case rel=>exact⟨k+1,implS x c k,by omega,by go_num,implS_lt c k hx,by rw[HS.out];go_num,by rw[inv_step,HI.out];rfl⟩
    case measure=>simp[intOf];omega
  ·have HX:Hid (x=crc8 r c):=by
    have h:=HI.out
    have e8:k=8:=by omega
    rw[e8,Nat.div_eq_of_lt (by omega),Nat.xor_zero]at h
    exact h
   go_wp2
   go_ret
   exact⟨ret_int (by rw[HX.out]),rfl⟩
theorem more_any (n:Nat) (s:ByteArray) (w:World) (hs:s.size<=8000) (hn:n<4294967296) :
  Calls Tryz.prog 231 #[.int .i64 n,.string s] w fun e w'=>e=.returned (.int .i64 (fin (crcL (fin n) s.data.toList):Nat))/\w'=w:=by
 have hn1:¬(4294967295:Int)<n:=by omega
 have HN:Hid (bits BinOp.xor IntKind.u32 IntKind.u32.max (n:Int)=((fin n:Nat):Int)):=not_eq' n hn
 have HF:Hid (fin n<4294967296):=fin_lt hn
 go_enter Tryz.func231,Tryz.ntmps231
 go_wp2
 go_loop [5,6,23] (fun a _ i=>∃ k x:Nat,k<=s.size/\i=.int .i64 k/\x<4294967296/\a=.int .u32 x/\x=crcL (fin n) (s.data.toList.take k)) (fun _ _ i=>s.size-(intOf i).toNat)
 case atStart=>exact⟨0,fin n,Nat.zero_le _,rfl,HF.out,by rw[HN.out],rfl⟩
 case round =>
  obtain⟨k,x,hk,rfl,hx,rfl,hinv⟩:=hrel
  have HI:Hid (x=crcL (fin n) (s.data.toList.take k)):=hinv
  clear hinv
  by_cases hlt:k<s.size
  ·have hb:s[k].toNat<256:=s[k].toNat_lt
   have HT:Hid (crc8 x s[k].toNat=crcL (fin n) (s.data.toList.take (k+1))):=by
    unfold Hid
    rw[crcL_take _ _ _ hlt,<-HI.out]
   have HL:Hid (crc8 x s[k].toNat<4294967296):=crc8_lt hx hb
   go_wp2_with (go_at_call 239;refine(byte_any _ _ _ hx hb).mono ?_;rintro e w' ⟨rfl,rfl⟩)
   go_round
   case rel=>exact⟨k+1,crc8 x s[k].toNat,by omega,by go_num,HL.out,rfl,HT.out⟩
   case measure=>simp[intOf];omega
  ·have HX:Hid (x=crcL (fin n) s.data.toList):=by
    have h:=HI.out
    rw[List.take_of_length_le (by simp;omega)]at h
    exact h
   have HE:Hid (bits BinOp.xor IntKind.u32 IntKind.u32.max (x:Int)=((fin x:Nat):Int)):=not_eq' x hx
   have HG:Hid (fin x<4294967296):=fin_lt hx
   go_wp2
   go_ret
   have e1:=HE.out
   have e2:=HX.out
   have e3:=HG.out
   rw[e2]at e3
   exact⟨ret_int (by rw[e1,e2];simp[wrap64];omega),rfl⟩
theorem crc_spec (n:Nat) (s:ByteArray) (w:World) (hs:s.size<=8000) (hn:n<4294967296) :
  Calls Tryz.prog 164 #[.int .i64 n,.string s] w fun e w'=>e=.returned (.int .i64 (fin (crcL (fin n) s.data.toList):Nat))/\w'=w:=by
 have HN:Hid (bits BinOp.xor IntKind.u32 (n:Int) 4294967295=((fin n:Nat):Int)):=not_eq n hn
 have HF:Hid (fin n<4294967296):=fin_lt hn
 go_enter Tryz.func164,Tryz.ntmps164
 go_wp2
 go_loop [5,6,7] (fun a i _=>∃ k x:Nat,k<=s.size/\i=.int .i64 k/\x<4294967296/\a=.int .u32 x/\x=crcL (fin n) (s.data.toList.take k)) (fun _ i _=>s.size-(intOf i).toNat)
 case atStart=>exact⟨0,fin n,Nat.zero_le _,rfl,HF.out,by rw[HN.out],rfl⟩
 case round =>
  obtain⟨k,x,hk,rfl,hx,rfl,hinv⟩:=hrel
  have HI:Hid (x=crcL (fin n) (s.data.toList.take k)):=hinv
  clear hinv
  by_cases hlt:k<s.size
  ·have hb:s[k].toNat<256:=s[k].toNat_lt
   have HT:Hid (crc8 x s[k].toNat=crcL (fin n) (s.data.toList.take (k+1))):=by
    unfold Hid
    rw[crcL_take _ _ _ hlt,<-HI.out]
   have HL:Hid (crc8 x s[k].toNat<4294967296):=crc8_lt hx hb
   have HXL:Hid (x ^^^ s[k].toNat<4294967296):=xor_lt hx (by omega)
   have HXE:Hid (bits BinOp.xor IntKind.u32 (x:Int) (s[k].toNat:Int)=((x ^^^ s[k].toNat:Nat):Int)):=u32_xor_nat _ _ hx (by omega)
   go_wp2
   go_loop [5,7] (fun a i=>∃ j y:Nat,j<=8/\i=.int .i64 j/\y<4294967296/\a=.int .u32 y/\y=stepN j (x ^^^ s[k].toNat)) (fun _ i=>8-(intOf i).toNat)
   case atStart=>exact⟨0,x ^^^ s[k].toNat,Nat.zero_le _,rfl,HXL.out,by rw[HXE.out],rfl⟩
   case round =>
    obtain⟨j,y,hj,rfl,hy,rfl,hinv⟩:=hrel
    have HJ:Hid (y=stepN j (x ^^^ s[k].toNat)):=hinv
    clear hinv
    by_cases hjl:j<8
    ·have ht:=low_eq y hy
     by_cases hb:y%2=1
     ·have hB:(bits BinOp.and IntKind.u32 (y:Int) 1==1)=true:=by rw[ht,hb];rfl
      have HS:Hid (step y=(y/2) ^^^ 3988292384):=by unfold Hid step;rw[if_pos hb]
      clear ht hb
      go_wp2
      go_round
      case rel=>exact⟨j+1,step y,by omega,by go_num,step_lt hy,by rw[HS.out,half_xor y hy],by rw[HJ.out];rfl⟩
      case measure=>simp[intOf];omega
     ·have hB:(bits BinOp.and IntKind.u32 (y:Int) 1==1)=false:=by rw[ht];simp;omega
      have HS:Hid (step y=y/2):=by unfold Hid step;rw[if_neg hb]
      clear ht hb
      go_wp2
      go_round
      case rel=>exact⟨j+1,step y,by omega,by go_num,step_lt hy,by rw[HS.out];go_num,by rw[HJ.out];rfl⟩
      case measure=>simp[intOf];omega
    ·have HY:Hid (y=crcL (fin n) (s.data.toList.take (k+1))):=by
      have h:=HJ.out
      have e8:j=8:=by omega
      rw[e8]at h
      exact h.trans HT.out
     go_wp2
     go_round
     case rel=>exact⟨k+1,y,by omega,by go_num,hy,rfl,HY.out⟩
     case measure=>simp[intOf];omega
  ·have HX:Hid (x=crcL (fin n) s.data.toList):=by
    have h:=HI.out
    rw[List.take_of_length_le (by simp;omega)]at h
    exact h
   have HE:Hid (bits BinOp.xor IntKind.u32 (x:Int) 4294967295=((fin x:Nat):Int)):=not_eq x hx
   have HG:Hid (fin x<4294967296):=fin_lt hx
   go_wp2
   go_ret
   have e1:=HE.out
   have e2:=HX.out
   have e3:=HG.out
   rw[e2]at e3
   exact⟨ret_int (by rw[e1,e2];simp[wrap64];omega),rfl⟩
def moreV (c:Int) (s:ByteArray):Int:=if s.size<=8000/\0<=c/\c<=4294967295 then (fin (crcL (fin c.toNat) s.data.toList):Nat) else 0
theorem moreV_yes (n:Nat) (s:ByteArray) (hs:s.size<=8000) (hn:n<4294967296):moreV n s=(fin (crcL (fin n) s.data.toList):Nat):=by
 unfold moreV
 rw[if_pos ⟨hs,by omega,by omega⟩,Int.toNat_natCast]
theorem moreV_no (c:Int) (s:ByteArray) (h:¬(s.size<=8000/\0<=c/\c<=4294967295)):moreV c s=0:=by
 unfold moreV
 rw[if_neg h]
theorem more_impl (c:Int) (s:ByteArray) (w:World) (hs:s.size<=maxLen) :
  Calls Tryz.prog 231 #[.int .i64 c,.string s] w fun e w'=>e=.returned (.int .i64 (moreV c s))/\w'=w:=by
 unfold maxLen at hs
 by_cases h1:8000<s.size
 ·go_enter Tryz.func231,Tryz.ntmps231
  go_wp2
  go_ret
  exact⟨ret_int (moreV_no c s (by omega)).symm,rfl⟩
 ·by_cases h2:c<0
  ·go_enter Tryz.func231,Tryz.ntmps231
   go_wp2
   go_ret
   exact⟨ret_int (moreV_no c s (by omega)).symm,rfl⟩
  ·by_cases h3:4294967295<c
   ·go_enter Tryz.func231,Tryz.ntmps231
    go_wp2
    go_ret
    exact⟨ret_int (moreV_no c s (by omega)).symm,rfl⟩
   ·obtain⟨n,rfl⟩:=Int.eq_ofNat_of_zero_le (show 0<=c from by omega)
    rw[moreV_yes n s (by omega) (by omega)]
    exact more_any n s w (by omega) (by omega)
theorem crc_impl0 (s:ByteArray) (w:World) (hs:s.size<=maxLen) :
  Calls Tryz.prog 216 #[.string s] w fun e w'=>e=.returned (.int .i64 (moreV 0 s))/\w'=w:=by
 go_enter Tryz.func216,Tryz.ntmps216
 go_wp2_with fail
 refine(more_impl 0 s _ hs).mono ?_
 rintro e w' ⟨rfl,rfl⟩
 go_wp2
 go_ret
 exact⟨rfl,rfl⟩
end Go.Proofs.YtpddanmnlkcdpaaGreatDoor.Cr


namespace Go.Proofs.YtpddanmnlkcdpaaGreatDoor.Se
open Go.RowKit
open Nu (bv arr_string ret_strJ hideJ)
def crcOf (s:ByteArray):Nat:=Cr.fin (Cr.crcL (Cr.fin 0) s.data.toList)
def fourL (n:Nat):List UInt8:=[UInt8.ofNat (n%256),UInt8.ofNat (n/256%256),UInt8.ofNat (n/65536%256),UInt8.ofNat (n/16777216)]
def fourS (n:Nat):ByteArray:=⟨(fourL n).toArray⟩
def sealV (t:ByteArray):ByteArray:=if t.size<=7996 then t++fourS (crcOf t) else ⟨#[]⟩
theorem crcOf_lt (s:ByteArray):crcOf s<4294967296:=Cr.fin_lt (Cr.crcL_lt _ _ (Cr.fin_lt (by decide)))
theorem fourS_size (n:Nat):(fourS n).size=4:=rfl
theorem moreV_crc (s:ByteArray) (h:s.size<=8000):Cr.moreV 0 s=(crcOf s:Nat):=Cr.moreV_yes 0 s h (by decide)
theorem bv_of (q:Nat) (x:Int) (hq:(q:Int)=x) (h:q<256):bv (UInt8.ofNat q)=.int .u8 x:=by
 unfold bv
 rw[UInt8.toNat_ofNat',Nat.mod_eq_of_lt (by omega),hq]
theorem four_cells (n:Nat) (h:n<4294967296) :
  (#[.int .u8 ((n:Int)%256),.int .u8 ((n:Int)/256%256),.int .u8 ((n:Int)/65536%256),.int .u8 ((n:Int)/16777216)]:Array Value).toList=(fourL n).map bv:=by
 simp only[fourL,List.map_cons,List.map_nil]
 rw[bv_of (n%256) ((n:Int)%256) (by omega) (by omega),bv_of (n/256%256) ((n:Int)/256%256) (by omega) (by omega),
  bv_of (n/65536%256) ((n:Int)/65536%256) (by omega) (by omega),bv_of (n/16777216) ((n:Int)/16777216) (by omega) (by omega)]
theorem four_conv {P:Program} {src dst e:TypeId} (t:TypeId) (u:World) (n:Nat) (h:n<4294967296) (hs:P.underlying src=some (.slice e)) (he:P.underlying e=some (.int .u8)) (hd:P.underlying dst=some .string) :
  (convert src dst (.slice (some ⟨u.heap.size,0,none⟩) 4 4)).run P (u.alloc (.cells #[.int .u8 ((n:Int)%256),.int .u8 ((n:Int)/256%256),.int .u8 ((n:Int)/65536%256),.int .u8 ((n:Int)/16777216)] t)) =
   .ok (.string (fourS n)) (u.alloc (.cells #[.int .u8 ((n:Int)%256),.int .u8 ((n:Int)/256%256),.int .u8 ((n:Int)/65536%256),.int .u8 ((n:Int)/16777216)] t)) :=
 arr_string (P:=P) (fourL n) 4 (heap_alloc_new u _) (by rw[four_cells n h];rfl) hs he hd
theorem four_any (n:Nat) (w:World) (hn:n<4294967296) :
  Calls Tryz.prog 163 #[.int .i64 n] w fun e w'=>e=.returned (.string (fourS n))/\Below w.heap.size w w':=by
 have hcv:=four_conv (P:=Tryz.prog) 5 w n hn Tryz.underlying168 Tryz.underlying5 Tryz.underlying9
 go_enter Tryz.func163,Tryz.ntmps163
 go_wp2
 go_ret
 exact⟨rfl,(Below.refl _ _).alloc (Nat.le_refl _) _⟩
theorem sum_any (s:ByteArray) (w:World) (hs:s.size<=8000) :
  Calls Tryz.prog 197 #[.string s] w fun e w'=>e=.returned (.string (fourS (crcOf s)))/\Below w.heap.size w w':=by
 have HV:=hideJ (moreV_crc s hs)
 have hn:=crcOf_lt s
 generalize crcOf s=n at HV hn ⊢
 have hcv:=four_conv (P:=Tryz.prog) 269 w n hn Tryz.underlying168 Tryz.underlying5 Tryz.underlying9
 go_enter Tryz.func197,Tryz.ntmps197
 go_wp2_with fail
 refine(Cr.crc_impl0 s _ (by unfold maxLen;omega)).mono ?_
 rw[HV.out]
 rintro e w' ⟨rfl,hw⟩
 subst w'
 go_wp2
 refine wp_loop_rounds 5 ?_
 rw[rounds_succ];go_wp2
 rw[rounds_succ];go_wp2
 rw[rounds_succ];go_wp2
 rw[rounds_succ];go_wp2
 rw[rounds_succ];go_wp2
 go_ret
 exact⟨rfl,(Below.refl _ _).alloc (Nat.le_refl _) _⟩
theorem seal_spec (t:ByteArray) (w:World) (ht:t.size<=maxLen) :
  Calls Tryz.prog 184 #[.string t] w fun e w'=>e=.returned (.string (sealV t))/\Below w.heap.size w w':=by
 unfold maxLen at ht
 by_cases h:7996<t.size
 ·have HP:=hideJ (show sealV t=⟨#[]⟩ by unfold sealV;rw[if_neg (by omega)])
  go_enter Tryz.func184,Tryz.ntmps184
  go_wp2
  go_ret
  exact⟨ret_strJ HP.out.symm,Below.refl _ _⟩
 ·have HP:=hideJ (show sealV t=t++fourS (crcOf t) by unfold sealV;rw[if_pos (by omega)])
  have hc:=crcOf_lt t
  have hf:=fourS_size (crcOf t)
  have HF:=hideJ hf
  clear hf
  have hf4:(fourS (crcOf t)).size<=4:=by rw[HF.out];omega
  go_enter Tryz.func184,Tryz.ntmps184
  go_wp2_with fail
  refine(Cr.crc_spec 0 t _ (by omega) (by omega)).mono ?_
  rintro e w' ⟨rfl,hw⟩
  subst w'
  go_wp2_with fail
  refine(four_any (crcOf t) _ hc).mono ?_
  rintro e w1 ⟨rfl,hb1⟩
  go_wp2
  go_ret
  exact⟨ret_strJ HP.out.symm,hb1⟩
theorem seal_impl (t:ByteArray) (w:World) (ht:t.size<=maxLen) :
  Calls Tryz.prog 171 #[.string t] w fun e w'=>e=.returned (.string (sealV t))/\Below w.heap.size w w':=by
 unfold maxLen at ht
 by_cases h:7996<t.size
 ·have HP:=hideJ (show sealV t=⟨#[]⟩ by unfold sealV;rw[if_neg (by omega)])
  go_enter Tryz.func171,Tryz.ntmps171
  go_wp2
  go_ret
  exact⟨ret_strJ HP.out.symm,Below.refl _ _⟩
 ·have HP:=hideJ (show sealV t=t++fourS (crcOf t) by unfold sealV;rw[if_pos (by omega)])
  have HF:=hideJ (fourS_size (crcOf t))
  go_enter Tryz.func171,Tryz.ntmps171
  go_wp2_with fail
  refine(sum_any t _ (by omega)).mono ?_
  rintro e w1 ⟨rfl,hb1⟩
  go_wp2_with fail
  refine(Nu.join_any _ _ _ (by rw[HF.out];omega)).mono ?_
  rintro e w2 ⟨rfl,hb2⟩
  go_wp2
  go_ret
  exact⟨ret_strJ HP.out.symm,hb1.trans (hb2.mono hb1.size)⟩
end Go.Proofs.YtpddanmnlkcdpaaGreatDoor.Se

