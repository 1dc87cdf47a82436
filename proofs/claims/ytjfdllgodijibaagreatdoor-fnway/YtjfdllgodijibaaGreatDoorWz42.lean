/- Texts put together: BwtPlain, ZeroBack, CrcPlain, CrcWalks, SealWalks, PkPlain, SoInsT, SortPlain2, SoMrgAT. -/
import Derived.Test.YtjfdllgodijibaaGreatDoorWz41
import Derived.Test.YtjfdllgodijibaaGreatDoorWz7
import Derived.Test.YtjfdllgodijibaaGreatDoorWz27
import Derived.Laws.BitsAllLaws
import Derived.Test.YtjfdllgodijibaaGreatDoorChecked
import Derived.WalkKit
import Derived.WalkSpells
import Derived.WalkLawsBesides
import Derived.Test.YtjfdllgodijibaaGreatDoorWz9
import Derived.Test.YtjfdllgodijibaaGreatDoorWz32
set_option maxRecDepth 100000
set_option maxHeartbeats 8000000
/- Plain mathematics of the last bytes of sorted turns. -/
namespace Go.Proofs.YtjfdllgodijibaaGreatDoor.So
open Go.RowKit
open Sh (bt bt_get bt_lt strF strF_congr)
def lastB (t:ByteArray) (x:Nat):Nat:=bt t ((x+t.size-1)%t.size)
def atK (f:Nat->Nat):Nat->Nat
 |0=>0
 |k+1=>if f k=0 then k else atK f k
theorem atK_le (f:Nat->Nat) (k:Nat):atK f k<=k:=by
 induction k with
 |zero=>exact Nat.le_refl _
 |succ k ih=>unfold atK;split<;>omega
theorem atK_congr {f g:Nat->Nat} {n:Nat} (h:∀ j,j<n->f j=g j):∀ k,k<=n->atK f k=atK g k:=by
 intro k
 induction k with
 |zero=>intro _;rfl
 |succ k ih=>intro hk;unfold atK;rw[h k hk,ih (by omega)]
noncomputable def ordF (t:ByteArray):Nat->Nat:=fun j=>(ord t).getD j 0
theorem ordF_list {t:ByteArray} {l:List Nat} (h:OrdOk t l) (j:Nat) (hj:j<l.length):ordF t j=l[j]:=by
 unfold ordF
 rw[ord_of h,List.getD_eq_getElem?_getD,List.getElem?_eq_getElem hj]
 rfl
noncomputable def bwtT (t:ByteArray):ByteArray:=if t.size<=48 then strF t.size (fun j=>lastB t (ordF t j)) else ⟨#[]⟩
noncomputable def bwtA (t:ByteArray):Nat:=if t.size<=48 then atK (ordF t) t.size else 0
def bwtC (t:ByteArray):Nat:=if 8000<t.size then 2 else if 48<t.size then 1 else 0
theorem bwt_yes {t:ByteArray} {f:Nat->Nat} (ht:t.size<=48) (h:∀ j,j<t.size->ordF t j=f j):bwtT t=strF t.size (fun j=>lastB t (f j))/\bwtA t=atK f t.size/\bwtC t=0:=by
 unfold bwtT bwtA bwtC
 rw[if_pos ht,if_pos ht,if_neg (by omega),if_neg (by omega)]
 exact⟨strF_congr _ _ _ fun j hj=>by rw[h j hj],atK_congr h _ (Nat.le_refl _),rfl⟩
def fillL (t:ByteArray) (f:Nat->Nat) (k:Nat):Nat->Nat:=fun j=>if j<k then lastB t (f j) else 0
end Go.Proofs.YtjfdllgodijibaaGreatDoor.So


/- Plain mathematics: zeros side by side, there and back. -/
namespace Go.Proofs.YtjfdllgodijibaaGreatDoor.Ze
open Go.RowKit
theorem zrun_back (r:Nat):∀ (s:List Int) (v:Nat),((zrun r).foldl bstep (s,v)).1=s++List.replicate (v*r) 0:=by
 induction r using Nat.strongRecOn with
 |ind r ih =>
  intro s v
  by_cases h0:r=0
  ·subst h0
   rw[zrun_zero]
   simp
  ·by_cases h1:r%2=1
   ·rw[zrun_odd h1,List.foldl_cons,bstep,if_neg (by omega),ih ((r-1)/2) (by omega),List.append_assoc,List.replicate_append_replicate]
    congr 2
    obtain⟨q,rfl⟩:∃ q,r=2*q+1:=⟨(r-1)/2,by omega⟩
    rw[show (2*q+1-1)/2=q by omega,Nat.mul_add,Nat.mul_assoc]
    simp
    omega
   ·rw[zrun_even (by omega) h1,List.foldl_cons,bstep,if_neg (by omega),ih ((r-2)/2) (by omega),List.append_assoc,List.replicate_append_replicate]
    congr 2
    obtain⟨q,rfl⟩:∃ q,r=2*q+2:=⟨(r-2)/2,by omega⟩
    rw[show (2*q+2-2)/2=q by omega,Nat.mul_add,Nat.mul_assoc]
    simp
    omega
theorem zst_back (l:List Int) (h:∀ x∈l,0<=x/\x<=255):∀ k,k<=l.length->(bst (zst (l.take k)).1).2=1/\(bst (zst (l.take k)).1).1++List.replicate (zst (l.take k)).2 0=l.take k:=by
 intro k
 induction k with
 |zero=>intro _;simp[zst,bst]
 |succ k ih =>
  intro hk
  obtain⟨h1,h2⟩:=ih (by omega)
  have hx:=h _ (List.getElem_mem (show k<l.length by omega))
  by_cases h0:l[k]=0
  ·rw[zst_zero hk h0]
   refine⟨h1,?_⟩
   show (bst (zst (l.take k)).1).1++List.replicate ((zst (l.take k)).2+1) 0=_
   rw[Bi.take_more hk,h0,List.replicate_succ',<-List.append_assoc,h2]
  ·rw[zst_other hk h0]
   have e:bst ((zst (l.take k)).1++zrun (zst (l.take k)).2++[l[k]+1])=(l.take k++[l[k]],1):=by
    have hb:bst (zst (l.take k)).1=((bst (zst (l.take k)).1).1,1):=by rw[<-h1]
    have hb2:(zst (l.take k)).1.foldl bstep ([],1)=((bst (zst (l.take k)).1).1,1):=hb
    unfold bst
    rw[List.foldl_append,List.foldl_append,hb2,List.foldl_cons,List.foldl_nil,bstep,if_pos (by omega),zrun_back,Nat.one_mul,h2]
    simp
   rw[e]
   refine⟨rfl,?_⟩
   rw[Bi.take_more hk]
   simp
theorem zeros_back {l:List Int} (h:numsR l 255=true):backR (zerosR l)=l:=by
 obtain⟨hl,hu⟩:=numsR_yes h
 have hx:=upTo_yes hu
 obtain⟨h1,h2⟩:=zst_back l hx l.length (Nat.le_refl _)
 rw[List.take_length]at h1 h2
 have hb:(bst (zerosR l)).1=l:=by
  rw[zerosR_yes h]
  have hb2:(zst l).1.foldl bstep ([],1)=((bst (zst l).1).1,1):=by
   show bst (zst l).1=_
   rw[<-h1]
  unfold bst
  rw[List.foldl_append,hb2,zrun_back,Nat.one_mul]
  exact h2
 have hm:∀ k,k<=l.length->∀ x∈(zst (l.take k)).1,0<=x/\x<=256:=by
  intro k
  induction k with
  |zero=>intro _ x hx;simp[zst]at hx
  |succ k ih =>
   intro hk x hxm
   have hy:=hx _ (List.getElem_mem (show k<l.length by omega))
   by_cases h0:l[k]=0
   ·rw[zst_zero hk h0]at hxm
    exact ih (by omega) x hxm
   ·rw[zst_other hk h0]at hxm
    rcases List.mem_append.1 hxm with hxm|hxm
    ·rcases List.mem_append.1 hxm with hxm|hxm
     ·exact ih (by omega) x hxm
     ·rcases zrun_mem _ x hxm with e|e<;>omega
    ·rw[List.mem_singleton]at hxm
     omega
 have hn:numsR (zerosR l) 256=true:=by
  rw[numsR_of (Nat.le_trans (zerosR_len l) hl)]
  refine upTo_of fun x hxm=>?_
  rw[zerosR_yes h]at hxm
  rcases List.mem_append.1 hxm with hxm|hxm
  ·have:=hm l.length (Nat.le_refl _)
   rw[List.take_length]at this
   exact this x hxm
  ·rcases zrun_mem _ x hxm with e|e<;>omega
 rw[backR_yes hn (by rw[hb];exact hl),hb]
end Go.Proofs.YtjfdllgodijibaaGreatDoor.Ze


/- Plain mathematics of the CRC: one bit's step of the register, one byte's, a text's; and how the model's operations on 32 bits say the same. -/
namespace Go.Proofs.YtjfdllgodijibaaGreatDoor.Cr
def step (x:Nat):Nat:=if x%2=1 then (x/2) ^^^ 3988292384 else x/2
def stepN:Nat->Nat->Nat
 |0,x=>x
 |k+1,x=>step (stepN k x)
def crc8 (r c:Nat):Nat:=stepN 8 (r ^^^ c)
def crcL (r:Nat) (l:List UInt8):Nat:=l.foldl (fun r b=>crc8 r b.toNat) r
def fin (r:Nat):Nat:=r ^^^ 4294967295
theorem xor_lt {a b:Nat} (ha:a<4294967296) (hb:b<4294967296):a ^^^ b<4294967296 :=
 Nat.xor_lt_two_pow (n:=32) ha hb
theorem step_lt {x:Nat} (h:x<4294967296):step x<4294967296:=by
 unfold step
 split
 ·exact xor_lt (by omega) (by decide)
 ·omega
theorem stepN_lt {x:Nat} (h:x<4294967296) (k:Nat):stepN k x<4294967296:=by
 induction k with
 |zero=>exact h
 |succ k ih=>exact step_lt ih
theorem crc8_lt {r c:Nat} (h:r<4294967296) (hc:c<256):crc8 r c<4294967296 :=
 stepN_lt (xor_lt h (by omega)) 8
theorem crcL_lt (l:List UInt8):∀ r,r<4294967296->crcL r l<4294967296:=by
 induction l with
 |nil=>intro r h;exact h
 |cons b l ih=>intro r h;exact ih _ (crc8_lt h b.toNat_lt)
theorem crcL_snoc (r:Nat) (l:List UInt8) (b:UInt8):crcL r (l++[b])=crc8 (crcL r l) b.toNat:=by
 simp[crcL,List.foldl_append]
theorem take_snoc (s:ByteArray) (k:Nat) (h:k<s.size):s.data.toList.take (k+1)=s.data.toList.take k++[s[k]]:=by
 rw[List.take_succ_eq_append_getElem (by simpa using h)];rfl
theorem crcL_take (r:Nat) (s:ByteArray) (k:Nat) (h:k<s.size):crcL r (s.data.toList.take (k+1))=crc8 (crcL r (s.data.toList.take k)) (s[k]).toNat:=by
 rw[take_snoc s k h,crcL_snoc]
theorem fin_lt {r:Nat} (h:r<4294967296):fin r<4294967296:=xor_lt h (by decide)
def implS (x c k:Nat):Nat:=if (x ^^^ c/2 ^ k)%2=1 then (x/2) ^^^ 3988292384 else x/2
/-! the walk's own spellings -/
theorem half_xor (x:Nat) (hx:x<4294967296):bits BinOp.xor IntKind.u32 ((x:Int)/2) 3988292384=(((x/2) ^^^ 3988292384:Nat):Int):=by
 have e:((x:Int)/2)=((x/2:Nat):Int):=by omega
 rw[e]
 exact u32_xor_nat (x/2) 3988292384 (by omega) (by decide)
theorem low_eq (x:Nat) (hx:x<4294967296):bits BinOp.and IntKind.u32 (x:Int) 1=((x%2:Nat):Int):=by
 have:=u32_and_nat x 1 hx (by decide)
 rw[nat_mask1]at this
 exact this
theorem not_eq (x:Nat) (hx:x<4294967296):bits BinOp.xor IntKind.u32 (x:Int) 4294967295=((fin x:Nat):Int) :=
 u32_xor_nat x 4294967295 hx (by decide)
end Go.Proofs.YtjfdllgodijibaaGreatDoor.Cr


namespace Go.Proofs.YtjfdllgodijibaaGreatDoor.Cr
open Go.RowKit
theorem ret_int {k:IntKind} {a b:Int} (h:a=b):Ending.returned (.int k a)=.returned (.int k b):=by rw[h]
theorem crc_spec (n:Nat) (s:ByteArray) (w:World) (hs:s.size<=8000) (hn:n<4294967296) :
  Calls Tryz.prog 89 #[.int .i64 n,.string s] w fun e w'=>e=.returned (.int .i64 (fin (crcL (fin n) s.data.toList):Nat))/\w'=w:=by
 have HN:Hid (bits BinOp.xor IntKind.u32 (n:Int) 4294967295=((fin n:Nat):Int)):=not_eq n hn
 have HF:Hid (fin n<4294967296):=fin_lt hn
 go_enter Tryz.func89,Tryz.ntmps89
 go_wp2
 go_loop [5,6,7] (fun a i _=>∃ k x:Nat,k<=s.size/\i=.int .i64 k/\x<4294967296/\a=.int .u32 x/\x=crcL (fin n) (s.data.toList.take k)) (fun _ i _=>s.size-(intOf i).toNat)
 case atStart=>exact⟨0,fin n,Nat.zero_le _,rfl,HF.out,by rw[HN.out],rfl⟩
 case round =>
  obtain⟨k,x,hk,rfl,hx,rfl,hinv⟩:=hrel
  have HI:Hid (x=crcL (fin n) (s.data.toList.take k)):=hinv
  clear hinv
  by_cases hlt:k<s.size
  ·have hb:s[k].toNat<256:=s[k].toNat_lt
   have HT:Hid (crc8 x s[k].toNat=crcL (fin n) (s.data.toList.take (k+1))):=by
    unfold Hid
    rw[crcL_take _ _ _ hlt,<-HI.out]
   have HL:Hid (crc8 x s[k].toNat<4294967296):=crc8_lt hx hb
   have HXL:Hid (x ^^^ s[k].toNat<4294967296):=xor_lt hx (by omega)
   have HXE:Hid (bits BinOp.xor IntKind.u32 (x:Int) (s[k].toNat:Int)=((x ^^^ s[k].toNat:Nat):Int)):=u32_xor_nat _ _ hx (by omega)
   go_wp2
   go_loop [5,7] (fun a i=>∃ j y:Nat,j<=8/\i=.int .i64 j/\y<4294967296/\a=.int .u32 y/\y=stepN j (x ^^^ s[k].toNat)) (fun _ i=>8-(intOf i).toNat)
   case atStart=>exact⟨0,x ^^^ s[k].toNat,Nat.zero_le _,rfl,HXL.out,by rw[HXE.out],rfl⟩
   case round =>
    obtain⟨j,y,hj,rfl,hy,rfl,hinv⟩:=hrel
    have HJ:Hid (y=stepN j (x ^^^ s[k].toNat)):=hinv
    clear hinv
    by_cases hjl:j<8
    ·have ht:=low_eq y hy
     by_cases hb:y%2=1
     ·have hB:(bits BinOp.and IntKind.u32 (y:Int) 1==1)=true:=by rw[ht,hb];rfl
      have HS:Hid (step y=(y/2) ^^^ 3988292384):=by unfold Hid step;rw[if_pos hb]
      clear ht hb
      go_wp2
      go_round
      case rel=>exact⟨j+1,step y,by omega,by go_num,step_lt hy,by rw[HS.out,half_xor y hy],by rw[HJ.out];rfl⟩
      case measure=>simp[intOf];omega
     ·have hB:(bits BinOp.and IntKind.u32 (y:Int) 1==1)=false:=by rw[ht];simp;omega
      have HS:Hid (step y=y/2):=by unfold Hid step;rw[if_neg hb]
      clear ht hb
      go_wp2
      go_round
      case rel=>exact⟨j+1,step y,by omega,by go_num,step_lt hy,by rw[HS.out];go_num,by rw[HJ.out];rfl⟩
      case measure=>simp[intOf];omega
    ·have HY:Hid (y=crcL (fin n) (s.data.toList.take (k+1))):=by
      have h:=HJ.out
      have e8:j=8:=by omega
      rw[e8]at h
      exact h.trans HT.out
     go_wp2
     go_round
     case rel=>exact⟨k+1,y,by omega,by go_num,hy,rfl,HY.out⟩
     case measure=>simp[intOf];omega
  ·have HX:Hid (x=crcL (fin n) s.data.toList):=by
    have h:=HI.out
    rw[List.take_of_length_le (by simp;omega)]at h
    exact h
   have HE:Hid (bits BinOp.xor IntKind.u32 (x:Int) 4294967295=((fin x:Nat):Int)):=not_eq x hx
   have HG:Hid (fin x<4294967296):=fin_lt hx
   go_wp2
   go_ret
   have e1:=HE.out
   have e2:=HX.out
   have e3:=HG.out
   rw[e2]at e3
   exact⟨ret_int (by rw[e1,e2];simp[wrap64];omega),rfl⟩
def moreV (c:Int) (s:ByteArray):Int:=if s.size<=8000/\0<=c/\c<=4294967295 then (fin (crcL (fin c.toNat) s.data.toList):Nat) else 0
end Go.Proofs.YtjfdllgodijibaaGreatDoor.Cr


namespace Go.Proofs.YtjfdllgodijibaaGreatDoor.Se
open Go.RowKit
open Nu (bv arr_string ret_strJ hideJ)
def crcOf (s:ByteArray):Nat:=Cr.fin (Cr.crcL (Cr.fin 0) s.data.toList)
def fourL (n:Nat):List UInt8:=[UInt8.ofNat (n%256),UInt8.ofNat (n/256%256),UInt8.ofNat (n/65536%256),UInt8.ofNat (n/16777216)]
def fourS (n:Nat):ByteArray:=⟨(fourL n).toArray⟩
def sealV (t:ByteArray):ByteArray:=if t.size<=7996 then t++fourS (crcOf t) else ⟨#[]⟩
theorem crcOf_lt (s:ByteArray):crcOf s<4294967296:=Cr.fin_lt (Cr.crcL_lt _ _ (Cr.fin_lt (by decide)))
theorem fourS_size (n:Nat):(fourS n).size=4:=rfl
theorem bv_of (q:Nat) (x:Int) (hq:(q:Int)=x) (h:q<256):bv (UInt8.ofNat q)=.int .u8 x:=by
 unfold bv
 rw[UInt8.toNat_ofNat',Nat.mod_eq_of_lt (by omega),hq]
theorem four_cells (n:Nat) (h:n<4294967296) :
  (#[.int .u8 ((n:Int)%256),.int .u8 ((n:Int)/256%256),.int .u8 ((n:Int)/65536%256),.int .u8 ((n:Int)/16777216)]:Array Value).toList=(fourL n).map bv:=by
 simp only[fourL,List.map_cons,List.map_nil]
 rw[bv_of (n%256) ((n:Int)%256) (by omega) (by omega),bv_of (n/256%256) ((n:Int)/256%256) (by omega) (by omega),
  bv_of (n/65536%256) ((n:Int)/65536%256) (by omega) (by omega),bv_of (n/16777216) ((n:Int)/16777216) (by omega) (by omega)]
theorem four_conv {P:Program} {src dst e:TypeId} (t:TypeId) (u:World) (n:Nat) (h:n<4294967296) (hs:P.underlying src=some (.slice e)) (he:P.underlying e=some (.int .u8)) (hd:P.underlying dst=some .string) :
  (convert src dst (.slice (some ⟨u.heap.size,0,none⟩) 4 4)).run P (u.alloc (.cells #[.int .u8 ((n:Int)%256),.int .u8 ((n:Int)/256%256),.int .u8 ((n:Int)/65536%256),.int .u8 ((n:Int)/16777216)] t)) =
   .ok (.string (fourS n)) (u.alloc (.cells #[.int .u8 ((n:Int)%256),.int .u8 ((n:Int)/256%256),.int .u8 ((n:Int)/65536%256),.int .u8 ((n:Int)/16777216)] t)) :=
 arr_string (P:=P) (fourL n) 4 (heap_alloc_new u _) (by rw[four_cells n h];rfl) hs he hd
theorem four_any (n:Nat) (w:World) (hn:n<4294967296) :
  Calls Tryz.prog 88 #[.int .i64 n] w fun e w'=>e=.returned (.string (fourS n))/\Below w.heap.size w w':=by
 have hcv:=four_conv (P:=Tryz.prog) 5 w n hn Tryz.underlying22 Tryz.underlying5 Tryz.underlying9
 go_enter Tryz.func88,Tryz.ntmps88
 go_wp2
 go_ret
 exact⟨rfl,(Below.refl _ _).alloc (Nat.le_refl _) _⟩
theorem seal_spec (t:ByteArray) (w:World) (ht:t.size<=maxLen) :
  Calls Tryz.prog 77 #[.string t] w fun e w'=>e=.returned (.string (sealV t))/\Below w.heap.size w w':=by
 unfold maxLen at ht
 by_cases h:7996<t.size
 ·have HP:=hideJ (show sealV t=⟨#[]⟩ by unfold sealV;rw[if_neg (by omega)])
  go_enter Tryz.func77,Tryz.ntmps77
  go_wp2
  go_ret
  exact⟨ret_strJ HP.out.symm,Below.refl _ _⟩
 ·have HP:=hideJ (show sealV t=t++fourS (crcOf t) by unfold sealV;rw[if_pos (by omega)])
  have hc:=crcOf_lt t
  have hf:=fourS_size (crcOf t)
  have HF:=hideJ hf
  clear hf
  have hf4:(fourS (crcOf t)).size<=4:=by rw[HF.out];omega
  go_enter Tryz.func77,Tryz.ntmps77
  go_wp2_with fail
  refine(Cr.crc_spec 0 t _ (by omega) (by omega)).mono ?_
  rintro e w' ⟨rfl,hw⟩
  subst w'
  go_wp2_with fail
  refine(four_any (crcOf t) _ hc).mono ?_
  rintro e w1 ⟨rfl,hb1⟩
  go_wp2
  go_ret
  exact⟨ret_strJ HP.out.symm,hb1⟩
end Go.Proofs.YtjfdllgodijibaaGreatDoor.Se


/- Plain mathematics of BlockPack: what a block is made. -/
namespace Go.Proofs.YtjfdllgodijibaaGreatDoor.Pk
open Hf (up up_length up_at incs incs_length dep lenOf lenOf_facts syms mem_syms nats)
open Bi (putR putR_yes putR_no putL okS whole whole_no above above_zero csum right right_yes packR)
open Go.Proofs.YtjfdllgodijibaaGreatDoor.So (bwtT bwtA)
open Fr (frontR frontR_len)
open Ze (zerosR zerosR_len zerosR_no zeros_back backR_no numsR numsR_yes upTo_yes)
open Se (sealV)
theorem zerosR_mem (l:List Int):∀ x∈zerosR l,0<=x/\x<=256:=by
 intro x hx
 cases h1:numsR l 255 with
 |false =>
  rw[zerosR_no h1]at hx
  exact absurd hx (List.not_mem_nil)
 |true =>
  cases h2:numsR (zerosR l) 256 with
  |true=>exact upTo_yes (numsR_yes h2).2 x hx
  |false =>
   have h3:=zeros_back h1
   rw[backR_no h2]at h3
   subst h3
   have:=zerosR_len []
   rw[List.eq_nil_of_length_eq_zero (show (zerosR []).length=0 by simpa using this)]at hx
   exact absurd hx (List.not_mem_nil)
noncomputable def symS (b:ByteArray):List Int:=zerosR (frontR (bwtT b).data.toList)
theorem symS_mem (b:ByteArray):∀ x∈symS b,0<=x/\x<=256:=zerosR_mem _
theorem symS_len (b:ByteArray):(symS b).length<=400:=Nat.le_trans (zerosR_len _) (frontR_len _)
noncomputable def lenS (b:ByteArray):List Nat:=lenOf (countsN (symS b))
noncomputable def headS (b:ByteArray):List Int:=[(b.size:Int),((bwtA b:Nat):Int),((symS b).length:Int),((above (up (lenS b)):Nat):Int)]
noncomputable def bitsS (b:ByteArray):ByteArray:=packR (putR (up (lenS b)) (symS b))
noncomputable def shortL (b:ByteArray):List UInt8:=[1]++(numsL (headS b)++(numsL (rowT (lenS b) 257)++(bitsS b).data.toList))
noncomputable def shortV (b:ByteArray):ByteArray:=⟨(shortL b).toArray⟩
noncomputable def plainV (b:ByteArray):ByteArray:=⟨(0 :: b.data.toList).toArray⟩
noncomputable def innerV (b:ByteArray):ByteArray:=if (shortV b).size<b.size+1 then shortV b else plainV b
noncomputable def packB (b:ByteArray):ByteArray:=if 48<b.size then ⟨#[]⟩ else sealV (innerV b)
theorem plainV_size (b:ByteArray):(plainV b).size=b.size+1:=by
 show (0 :: b.data.toList).toArray.size=_
 simp
theorem lenS_facts (b:ByteArray):(lenS b).length=257/\(∀ i,(lenS b).getD i 0<=12)/\(∀ i,0<(lenS b).getD i 0↔i∈syms (countsN (symS b)) 257)/\(0<(syms (countsN (symS b)) 257).length->whole (up (lenS b))=true):=by
 have h:=lenOf_facts (countsN (symS b)) (by rw[countsN_length];decide)
 rw[countsN_length]at h
 exact h
theorem incs_mono (s:List Nat):∀ (d:List Nat) (j:Nat),(∀ k∈s,k<d.length)->d.getD j 0<=(incs d s).getD j 0:=by
 unfold incs
 induction s with
 |nil=>intro d j _;exact Nat.le_refl _
 |cons k s ih =>
  intro d j h
  have hk:=h k (List.mem_cons_self ..)
  rw[List.foldl_cons]
  refine Nat.le_trans ?_ (ih (d.set k (d.getD k 0+1)) j fun x hx=>by rw[List.length_set];exact h x (List.mem_cons_of_mem _ hx))
  rw[Hf.getD_set _ _ _ _ hk]
  split
  ·rename_i e
   subst e
   omega
  ·exact Nat.le_refl _
theorem incs_pos (s:List Nat):∀ (d:List Nat) (j:Nat),(∀ k∈s,k<d.length)->j∈s->0<(incs d s).getD j 0:=by
 induction s with
 |nil=>intro d j _ hj;exact absurd hj (List.not_mem_nil)
 |cons k s ih =>
  intro d j h hj
  have hk:=h k (List.mem_cons_self ..)
  have hr:∀ x∈s,x<(d.set k (d.getD k 0+1)).length:=fun x hx=>by rw[List.length_set];exact h x (List.mem_cons_of_mem _ hx)
  have e:incs d (k :: s)=incs (d.set k (d.getD k 0+1)) s:=rfl
  rw[e]
  rcases List.mem_cons.1 hj with rfl|hj
  ·have:=incs_mono s (d.set j (d.getD j 0+1)) j hr
   rw[Hf.getD_set _ _ _ _ hk,if_pos rfl]at this
   omega
  ·exact ih _ j hr hj
theorem nats_lt (s:List Int) (h:∀ x∈s,0<=x/\x<=256):∀ k∈nats s,k<(Hf.zeros 257).length:=by
 intro k hk
 obtain⟨x,hx,rfl⟩:=List.mem_map.1 hk
 have:=h x hx
 rw[zeros_length]
 omega
theorem symS_ok (b:ByteArray):∀ x∈symS b,okS (up (lenS b)) x:=by
 intro x hx
 have h:=symS_mem b x hx
 obtain⟨h1,h2,h3,_⟩:=lenS_facts b
 refine⟨h.1,by rw[up_length,h1];omega,?_⟩
 have hp:0<(lenS b).getD x.toNat 0:=(h3 x.toNat).2 (mem_syms.2 ⟨by omega,incs_pos (nats (symS b)) _ _ (nats_lt _ (symS_mem b)) (List.mem_map.2 ⟨x,hx,rfl⟩)⟩)
 have hl:x.toNat<(lenS b).length:=by omega
 have:=up_at (lenS b) x.toNat hl
 rw[List.getD_eq_getElem?_getD,List.getElem?_eq_getElem (show x.toNat<(up (lenS b)).length by rw[up_length];exact hl),this]
 show (0:Int)<(((lenS b).getD x.toNat 0:Nat):Int)
 omega
theorem above_pos {l:List Int} (h:0<above l):∃ x∈l,0<x:=by
 refine Classical.byContradiction fun hn=>?_
 have:above l=0:=by
  unfold above
  rw[List.countP_eq_zero]
  intro x hx
  simp only[decide_eq_true_eq]
  exact fun h0=>hn ⟨x,hx,h0⟩
 omega
theorem lenS_whole (b:ByteArray) (h:0<above (up (lenS b))):whole (up (lenS b))=true:=by
 obtain⟨_,_,h3,h4⟩:=lenS_facts b
 obtain⟨x,hx,h0⟩:=above_pos h
 obtain⟨j,hj,rfl⟩:=List.getElem_of_mem hx
 rw[up_length]at hj
 rw[up_at _ _ hj]at h0
 exact h4 (List.length_pos_of_mem ((h3 j).1 (by omega)))
theorem bits_none (b:ByteArray) (h:above (up (lenS b))=0):putR (up (lenS b)) (symS b)=⟨#[]⟩:=by
 refine putR_no (.inr ?_)
 obtain⟨h1,_⟩:=above_zero _ h
 unfold whole
 rw[h,h1]
 simp
theorem bits_some (b:ByteArray) (h:0<above (up (lenS b))):putR (up (lenS b)) (symS b)=⟨(putL (up (lenS b)) (symS b)).toArray⟩:=putR_yes (by have:=symS_len b;omega) (lenS_whole b h) (symS_ok b)
theorem bits_size (b:ByteArray):(putR (up (lenS b)) (symS b)).size<=4800:=by
 by_cases h:above (up (lenS b))=0
 ·rw[bits_none b h]
  decide
 ·rw[bits_some b (by omega)]
  have h1:=Bi.putL_le (up (lenS b)) (Bi.whole_ok (lenS_whole b (by omega))) (symS b)
  have h2:=symS_len b
  show (putL (up (lenS b)) (symS b)).toArray.size<=4800
  rw[List.size_toArray]
  omega
end Go.Proofs.YtjfdllgodijibaaGreatDoor.Pk


/- The walk of a stable sort's insertion at turns. -/
namespace Go.Proofs.YtjfdllgodijibaaGreatDoor.So
open Go.RowKit Go.Sort Go.Proofs
end Go.Proofs.YtjfdllgodijibaaGreatDoor.So


/- Plain mathematics of a merge in place by halves: what is turned round, and why both halves put together rise. -/
namespace Go.Proofs.YtjfdllgodijibaaGreatDoor.So
open Go.RowKit
end Go.Proofs.YtjfdllgodijibaaGreatDoor.So


/- The walk of a merge in place at turns, whose first part is one turn. -/
namespace Go.Proofs.YtjfdllgodijibaaGreatDoor.So
open Go.RowKit Go.Sort Go.Proofs
end Go.Proofs.YtjfdllgodijibaaGreatDoor.So

