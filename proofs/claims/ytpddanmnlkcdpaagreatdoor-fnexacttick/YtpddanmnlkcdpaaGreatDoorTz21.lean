/- Texts put together: ShaPad, ShaFill, ShaSum, IntRow, IntLaws, IntMark, IntOwn, PkCat, JoinWalks, TextWalks, ShaAllB. -/
import Derived.Test.YtpddanmnlkcdpaaGreatDoorTz7
import Derived.Test.YtpddanmnlkcdpaaGreatDoorTz0
import Derived.Test.YtpddanmnlkcdpaaGreatDoorTz6
import Derived.Test.YtpddanmnlkcdpaaGreatDoorTz1
import Derived.BigRegion
import Derived.BigQuiet
import Derived.Deep.QuietTactic
import Derived.Test.YtpddanmnlkcdpaaGreatDoorTz11
import Derived.Laws.AppendOwn
import Derived.Test.YtpddanmnlkcdpaaGreatDoorTz19
import Derived.Test.YtpddanmnlkcdpaaGreatDoorTz20
import Derived.Test.YtpddanmnlkcdpaaGreatDoorTz12
set_option maxRecDepth 100000
set_option maxHeartbeats 8000000
/- Plain mathematics of SHA-256: a text filled up to whole blocks. -/
namespace Go.Proofs.YtpddanmnlkcdpaaGreatDoor.Sh
def chunks (m:Nat):Nat:=(m+72)/64
def padK (t:ByteArray) (k j:Nat):Nat :=
 if j<t.size then bt t j else if j=t.size then 128 else if chunks t.size*64<=j+k then t.size*8/2 ^ (8*(chunks t.size*64-1-j))%256 else 0
def pad (t:ByteArray) (j:Nat):Nat:=padK t 8 j
theorem padK_lt (t:ByteArray) (k j:Nat):padK t k j<256:=by
 unfold padK
 have:=bt_lt t j
 split
 ·exact this
 ·split
  ·decide
  ·split
   ·exact Nat.mod_lt _ (by decide)
   ·decide
theorem pad_lt (t:ByteArray) (j:Nat):pad t j<256:=padK_lt t 8 j
theorem chunks_room (m:Nat):m+9<=chunks m*64:=by unfold chunks;omega
theorem chunks_tight (m:Nat):chunks m*64<=m+72:=by unfold chunks;omega
theorem pad_start (t:ByteArray) (j:Nat):j<chunks t.size*64->upd (fun j=>if j<t.size then ((bt t j:Nat):Int) else 0) t.size 128 j=((padK t 0 j:Nat):Int):=by
 intro hj
 unfold upd padK
 by_cases e:j=t.size
 ·subst e;simp
 ·by_cases h:j<t.size
  ·simp[e,h]
  ·have:¬chunks t.size*64<=j:=by omega
   simp[e,h,this]
theorem pad_next (t:ByteArray) (k:Nat) (hk:k<8) (v:Int) (hv:v=((t.size*8/2 ^ (8*k)%256:Nat):Int)) (j:Nat) (hj:j<chunks t.size*64) :
  upd (fun j=>((padK t k j:Nat):Int)) (chunks t.size*64-1-k) v j=((padK t (k+1) j:Nat):Int):=by
 subst hv
 have hr:=chunks_room t.size
 unfold upd padK
 by_cases e:j=chunks t.size*64-1-k
 ·have h1:¬j<t.size:=by omega
  have h2:¬j=t.size:=by omega
  have h3:chunks t.size*64<=j+(k+1):=by omega
  have h4:chunks t.size*64-1-j=k:=by omega
  rw[if_pos e,if_neg h1,if_neg h2,if_pos h3,h4]
 ·rw[if_neg e]
  have:(chunks t.size*64<=j+(k+1))=(chunks t.size*64<=j+k):=propext ⟨fun h=>by omega,fun h=>by omega⟩
  simp only[this]
end Go.Proofs.YtpddanmnlkcdpaaGreatDoor.Sh


namespace Go.Proofs.YtpddanmnlkcdpaaGreatDoor.Sh
open Go.RowKit
open Nu (bv hideJ run_copy_string)
theorem fill_any (t:ByteArray) (w:World) (ht:t.size<=1048576) :
  Calls Tryz.prog 235 #[.string t] w fun e w'=>e=.returned (.slice (some ⟨w.heap.size,0,none⟩) (chunks t.size*64) (chunks t.size*64)) /\
   IsB w' w.heap.size 5 .u8 (chunks t.size*64) (fun j=>(pad t j:Nat))/\Below w.heap.size w w':=by
 obtain⟨i0,hi,hz0,hz1,hz2⟩:=info_parts Nu.Tryz.infoJ5
 obtain⟨ch,hch⟩:∃ c,c=chunks t.size:=⟨_,rfl⟩
 have hr:=chunks_room t.size
 have hti:=chunks_tight t.size
 have hc:((t.size:Int)+1+8+64-1)/64=(ch:Int):=by rw[hch];unfold chunks;omega
 have hcw:((ch:Int)*64).toNat=ch*64:=by omega
 rw[<-hch]at hr hti ⊢
 have HCH:=hideJ hch
 clear hch
 go_enter Tryz.func235,Tryz.ntmps235
 go_wp2_with (at_make;refine wpList_make_full _ rfl (.tmp 15) (.tmp 15) 168 rfl w.heap.size 5 i0 (.int .u8 0) 1 Tryz.underlying168 hi hz0 hz1 .i64 .i64 _ _ (ch*64) rfl rfl (by simp) (by simp) (by rw[hz2];omega) (by unfold maxLen;omega) (Nat.le_refl _) ?_;intro w1 hown1 hgrow1;have hrow:=made_row hown1;have hbel1:=(Below.refl w.heap.size w).grown hgrow1 (Nat.le_refl _) (by simp);obtain⟨w2,c1,hrow2,k1,k2,k3,k4,k5⟩:=run_copy_string (P:=Tryz.prog) w1 168 9 3 5 (some ⟨w.heap.size,0,none⟩) w.heap.size 0 (ch*64) (ch*64) t (rowF .u8 (ch*64) (fun _=>0)).toList 5 Tryz.underlying168 Nu.Tryz.sizeJ5 (by unfold IsB at hrow;simpa using hrow) (fun _=>rfl) (by omega) (by simp[rowF_size];omega);rw[splice_row _ _ _ (by omega)]at hrow2;have hrow3:IsB w2 w.heap.size 5 .u8 (ch*64) (fun j=>if j<t.size then (bt t j:Nat) else 0):=hrow2;have HB:=hideJ hrow3;have HL:=hideJ (Nu.copy_below hbel1 k1 k2 k3 k4 k5);have hce:=hrow3.cell (j:=t.size) (by omega);have hfz:=hrow3.frozen t.size;clear hown1 hgrow1 hrow hbel1 k1 k2 k3 k4 k5 hrow2 hrow3)
 go_loopw [28] (fun i wr=>∃ k:Nat,i=.int .i64 k/\k<=8/\IsB wr w.heap.size 5 .u8 (ch*64) (fun j=>(padK t k j:Nat))/\Below w.heap.size w wr) (fun i _=>8-(intOf i).toNat)
 case atStart =>
  refine⟨0,rfl,by omega,IsB.congr (HB.out.set t.size 128) (fun j hj=>pad_start t j (by rw[<-HCH.out];exact hj)),HL.out.setCell (Nat.le_refl _) _⟩
 case round =>
  obtain⟨k,rfl,hk,h1,hbel⟩:=hrel
  have G1:=hideJ h1
  by_cases hlt:k<8
  ·have e1:((ch:Int)*64-1-(k:Int)).toNat=ch*64-1-k:=by omega
   have ce:=h1.cell (j:=ch*64-1-k) (by omega)
   have cf:=h1.frozen (ch*64-1-k)
   have HV:Hid (((t.size:Int)*8/2 ^ (8*k))%256=((t.size*8/2 ^ (8*k)%256:Nat):Int)):=by
    unfold Hid
    simp
   clear h1
   go_wp2_with fail
   go_roundw
   case rel =>
    refine⟨k+1,by go_num,by omega,IsB.congr (G1.out.set (ch*64-1-k) _) (fun j hj=>?_),hbel.setCell (Nat.le_refl _) _⟩
    rw[HCH.out]at hj ⊢
    exact pad_next t k hlt _ HV.out j hj
   case measure=>simp[intOf];omega
  ·obtain rfl:k=8:=by omega
   clear h1
   go_wp2_with fail
   go_ret
   exact⟨rfl,G1.out,hbel⟩
end Go.Proofs.YtpddanmnlkcdpaaGreatDoor.Sh


/- Plain mathematics of SHA-256: the digest of a text. -/
namespace Go.Proofs.YtpddanmnlkcdpaaGreatDoor.Sh
def blkB (t:ByteArray) (k j:Nat):Nat:=pad t (64*k+j)
theorem blkB_lt (t:ByteArray) (k j:Nat):blkB t k j<256:=pad_lt t _
def shaS (t:ByteArray):Nat->Nat->Int
 |0=>firstF
 |k+1=>blk (blkB t k) (shaS t k)
def outF (s:Nat->Int) (j:Nat):Nat:=(s (j/4)/2 ^ (24-8*(j%4))%256).toNat
theorem outF_lt (s:Nat->Int) (j:Nat):outF s j<256:=by unfold outF;omega
def sha (t:ByteArray):ByteArray:=strF 32 (outF (shaS t (chunks t.size)))
theorem sha_size (t:ByteArray):(sha t).size=32:=strF_size 32 _
def outK (s:Nat->Int) (m j:Nat):Nat:=if j<m then outF s j else 0
theorem outK_next (s:Nat->Int) (m j:Nat) (v:Int) (hv:v=((outF s m:Nat):Int)):upd (fun j=>((outK s m j:Nat):Int)) m v j=((outK s (m+1) j:Nat):Int):=by
 subst hv
 unfold upd outK
 by_cases e:j=m
 ·subst e;simp
 ·have:(j<m+1)=(j<m):=propext ⟨fun h=>by omega,fun h=>by omega⟩
  simp[e,this]
theorem outK_all (s:Nat->Int):strF 32 (outK s 32)=strF 32 (outF s):=strF_congr 32 _ _ (fun j hj=>by simp[outK,hj])
theorem outK_lt (s:Nat->Int) (m j:Nat):outK s m j<256:=by
 unfold outK
 split
 ·exact outF_lt s j
 ·decide
theorem outF_cast (s:Nat->Int) (m:Nat):s (m/4)/2 ^ (24-8*(m%4))%256=((outF s m:Nat):Int):=by
 unfold outF
 rw[Int.toNat_of_nonneg]
 omega
end Go.Proofs.YtpddanmnlkcdpaaGreatDoor.Sh


namespace Go.Proofs.YtpddanmnlkcdpaaGreatDoor.In
open Go.RowKit
theorem hideI {p:Prop} (h:p):Hid p:=h
def Ints (w:World) (B:Nat) (a:Option Addr) (l:List Int):Prop :=
 l=[]∨∃ b off,a=some ⟨b,off,none⟩/\b<B/\∀ j (h:j<l.length),w.cell? ⟨b,off+j,none⟩=some (.int .i64 l[j])
theorem Ints.below {w w':World} {B:Nat} {a:Option Addr} {l:List Int} (h:Ints w B a l) (hb:Below B w w'):Ints w' B a l:=by
 rcases h with h0|⟨b,off,rfl,hlt,hc⟩
 ·exact .inl h0
 ·exact .inr ⟨b,off,rfl,hlt,fun j hj=>(hb.cell (p:=⟨b,off+j,none⟩) hlt).trans (hc j hj)⟩
theorem Ints.mono {w:World} {B C:Nat} {a:Option Addr} {l:List Int} (h:Ints w B a l) (hBC:B<=C):Ints w C a l:=by
 rcases h with h0|⟨b,off,rfl,hlt,hc⟩
 ·exact .inl h0
 ·exact .inr ⟨b,off,rfl,Nat.lt_of_lt_of_le hlt hBC,hc⟩
theorem Ints.some {w:World} {B:Nat} {a:Option Addr} {l:List Int} (h:Ints w B a l) (hl:0<l.length) :
  ∃ b off,a=.some ⟨b,off,none⟩/\b<B/\∀ j (h:j<l.length),w.cell? ⟨b,off+j,none⟩=.some (.int .i64 l[j]):=by
 rcases h with h0|h
 ·subst h0;simp at hl
 ·exact h
def irow (l:List Int):Array Value:=(l.map (Value.int .i64)).toArray
def IsI (w:World) (g:Nat) (t:TypeId) (l:List Int):Prop:=w.heap[g]? = some (.cells (irow l) t (0,0))
theorem irow_size (l:List Int):(irow l).size=l.length:=by simp[irow]
theorem irow_get (l:List Int) (j:Nat) (h:j<l.length):(irow l)[j]? = some (.int .i64 l[j]):=by simp[irow,h]
theorem irow_set (l:List Int) (i:Nat) (s:Int):(irow l).setIfInBounds i (.int .i64 s)=irow (l.set i s):=by
 simp[irow,List.map_set]
theorem IsI.cell {w:World} {g t:Nat} {l:List Int} (h:IsI w g t l) {j:Nat} (hj:j<l.length):w.cell? ⟨g,j,none⟩=some (.int .i64 l[j]):=by
 rw[cell_of_row w g j _ t (0,0) h,irow_get l j hj]
theorem IsI.frozen {w:World} {g t:Nat} {l:List Int} (h:IsI w g t l) (j:Nat):w.frozen? ⟨g,j,none⟩=false:=frozen_of_row w g j _ t h
theorem IsI.set {w:World} {g t:Nat} {l:List Int} (h:IsI w g t l) (i:Nat) (s:Int):IsI (w.setCell ⟨g,i,none⟩ (.int .i64 s)) g t (l.set i s):=by
 unfold IsI
 rw[heap_setCell_same w g i _ t _ h,irow_set]
def mid (l:List Int) (k:Nat):List Int:=l.take k++List.replicate (l.length-k) 0
theorem mid_length (l:List Int) (k:Nat) (h:k<=l.length):(mid l k).length=l.length:=by simp[mid];omega
theorem mid_zero (l:List Int):mid l 0=List.replicate l.length 0:=by simp[mid]
theorem mid_all (l:List Int):mid l l.length=l:=by simp[mid]
theorem mid_next (l:List Int) (k:Nat) (h:k<l.length):(mid l k).set k l[k]=mid l (k+1):=by
 apply List.ext_getElem?
 intro i
 unfold mid
 rw[List.getElem?_set]
 have hl:(l.take k).length=k:=by simp;omega
 have hl':(l.take (k+1)).length=k+1:=by simp;omega
 by_cases e:k=i
 ·subst e
  rw[if_pos rfl,if_pos (by simp;omega),List.getElem?_append_left (by omega),List.getElem?_take_of_lt (by omega),List.getElem?_eq_getElem h]
 ·rw[if_neg e]
  by_cases hi:i<k
  ·rw[List.getElem?_append_left (by omega),List.getElem?_append_left (by omega),List.getElem?_take_of_lt hi,List.getElem?_take_of_lt (by omega)]
  ·rw[List.getElem?_append_right (by omega),List.getElem?_append_right (by omega),hl,hl',List.getElem?_replicate,List.getElem?_replicate]
   have:(i-k<l.length-k)=(i-(k+1)<l.length-(k+1)):=propext ⟨fun h=>by omega,fun h=>by omega⟩
   simp only[this]
theorem made_ints {w:World} {base e g n:Nat} (h:w.ownsRow base e 1 (.slice (some ⟨g,0,none⟩) n n) n (madeCells (Value.int .i64 0).cells (n*1)).toList):IsI w g e (List.replicate n 0):=by
 obtain⟨_,h⟩:=h
 rcases h with⟨h,_⟩|⟨g',cap,cur,hv,_,hb,_,_,hsz,htk⟩
 ·simp at h
 ·simp at hv
  obtain⟨rfl,rfl⟩:=hv
  have hm:(madeCells (Value.int .i64 0).cells (n*1)).toList=(irow (List.replicate n 0)).toList:=by
   rw[Nat.mul_one]
   have:=toList_madeCells_one (.int .i64 0) n
   simp only[irow,List.map_replicate]
   exact this
  rw[hm,List.take_of_length_le (by simp[hsz])]at htk
  have:cur=irow (List.replicate n 0):=by simpa using htk
  rw[this]at hb
  exact hb
theorem Tryz.infoI2:(Tryz.prog.info? 2).map (fun i=>(i.zero,i.size,i.bytes))=some (some (.int .i64 0),1,8):=by kernel_rfl
theorem toInt_any (a:Option Addr) (cap:Nat) (l:List Int) (w:World) (h:Ints w w.heap.size a l) (hn:l.length<=1048576) :
  Calls Tryz.prog 105 #[.slice a l.length cap] w fun e w'=>e=.returned (.slice (some ⟨w.heap.size,0,none⟩) l.length l.length)/\IsI w' w.heap.size 2 l/\Below w.heap.size w w':=by
 obtain⟨i0,hi,hz0,hz1,hz2⟩:=info_parts Tryz.infoI2
 have HS:=hideI h
 clear h
 obtain⟨n,hln⟩:∃ n,n=l.length:=⟨_,rfl⟩
 have HLN:=hideI hln
 rw[<-hln]at hn ⊢
 clear hln
 go_enter Tryz.func105,Tryz.ntmps105
 go_wp2_with (at_make;refine wpList_make_full _ rfl (.tmp 6) (.tmp 6) 84 rfl w.heap.size 2 i0 (.int .i64 0) 1 Tryz.underlying84 hi hz0 hz1 .i64 .i64 _ _ n rfl rfl (by simp) (by simp) (by rw[hz2];omega) (by unfold maxLen;omega) (Nat.le_refl _) ?_;intro w1 hown1 hgrow1;have HR:=hideI (made_ints hown1);have HB:=hideI ((Below.refl w.heap.size w).grown hgrow1 (Nat.le_refl _) (by simp));clear hown1 hgrow1)
 go_loopw [4] (fun i wr=>∃ k:Nat,i=.int .i64 k/\k<=n/\IsI wr w.heap.size 2 (mid l k)/\Below w.heap.size w wr) (fun i _=>n-(intOf i).toNat)
 case atStart=>exact⟨0,rfl,by omega,by rw[mid_zero,<-HLN.out];exact HR.out,HB.out⟩
 case round =>
  obtain⟨k,rfl,hk,h1,hbel⟩:=hrel
  have G1:=hideI h1
  have GB:=hideI hbel
  by_cases hlt:k<n
  ·have hkl:k<l.length:=by rw[<-HLN.out];exact hlt
   obtain⟨b,off,rfl,hb,hc⟩:=(HS.out.below hbel).some (by omega)
   have ci:=hc k hkl
   have HM:=hideI (mid_next l k hkl)
   have cf:=h1.frozen k
   have ce:∃ v,wr.cell? ⟨w.heap.size,k,none⟩=some (.int .i64 v):=⟨_,h1.cell (j:=k) (by rw[mid_length l k (by omega)];exact hkl)⟩
   obtain⟨v0,ce⟩:=ce
   obtain⟨s,hs⟩:∃ s,s=l[k]:=⟨_,rfl⟩
   have HSE:=hideI hs
   rw[<-hs]at ci
   clear h1 hbel hc hs
   go_wp2_with fail
   go_roundw
   case rel=>exact⟨k+1,by go_num,by omega,by rw[<-HM.out,<-HSE.out];exact G1.out.set k s,GB.out.setCell (Nat.le_refl _) _⟩
   case measure=>simp[intOf];omega
  ·have HE:Hid (mid l k=l):=by
    unfold Hid
    rw[show k=l.length by have:=HLN.out;omega]
    exact mid_all l
   clear h1 hbel
   go_wp2_with fail
   go_ret
   exact⟨rfl,by rw[<-HE.out];exact G1.out,GB.out⟩
end Go.Proofs.YtpddanmnlkcdpaaGreatDoor.In


namespace Go.Proofs.YtpddanmnlkcdpaaGreatDoor.In
open Go.RowKit
/-- two rows of the same numbers are alike -/
theorem eq_any (a b:Option Addr) (cap cap':Nat) (l:List Int) (w:World) (B:Nat) (ha:Ints w B a l) (hb:Ints w B b l) (hn:l.length<=1048576) :
  Calls Tryz.prog 117 #[.slice a l.length cap,.slice b l.length cap'] w fun e w'=>e=.returned (.bool true)/\Below w.heap.size w w':=by
 have HA:=hideI ha
 have HB:=hideI hb
 clear ha hb
 obtain⟨n,hln⟩:∃ n,n=l.length:=⟨_,rfl⟩
 have HLN:=hideI hln
 rw[<-hln]at hn ⊢
 clear hln
 go_enter Tryz.func117,Tryz.ntmps117
 go_wp2_with fail
 go_loopw [5] (fun i wr=>∃ k:Nat,i=.int .i64 k/\k<=n/\(∀ p:Addr,wr.cell? p=w.cell? p)/\Below w.heap.size w wr) (fun i _=>n-(intOf i).toNat)
 case atStart=>exact⟨0,rfl,by omega,fun _=>rfl,Below.refl _ _⟩
 case round =>
  obtain⟨k,rfl,hk,hcell,hbel⟩:=hrel
  have HC:=hideI hcell
  have GB:=hideI hbel
  by_cases hlt:k<n
  ·have hkl:k<l.length:=by rw[<-HLN.out];exact hlt
   obtain⟨b1,off1,rfl,_,hc1⟩:=HA.out.some (by omega)
   obtain⟨b2,off2,rfl,_,hc2⟩:=HB.out.some (by omega)
   have c1:=(hcell _).trans (hc1 k hkl)
   have c2:=(hcell _).trans (hc2 k hkl)
   obtain⟨s,hs⟩:∃ s,s=l[k]:=⟨_,rfl⟩
   rw[<-hs]at c1 c2
   clear hc1 hc2 hcell hbel hs
   go_wp2_with fail
   go_region
   all_goals (try go_wp2_with fail)
   all_goals go_roundw
   case rel=>exact⟨k+1,by go_num,by omega,fun p=>HC.out p,GB.out.drew⟩
   case measure=>simp[intOf];omega
  ·clear hcell hbel
   go_wp2_with fail
   go_ret
   exact⟨rfl,GB.out⟩
end Go.Proofs.YtpddanmnlkcdpaaGreatDoor.In


/- The laws' marks in rows of numbers: written, and found again. -/
namespace Go.Proofs.YtpddanmnlkcdpaaGreatDoor.In
open Go.RowKit
open St (Aft)
def IsO (w:World) (g t:Nat) (l:List Int):Prop:=∃ cur:Array Value,w.heap[g]? = some (.cells cur t (0,0))/\∀ j (h:j<l.length),cur[j]? = some (.int .i64 l[j])
theorem IsO.cell {w:World} {g t:Nat} {l:List Int} (h:IsO w g t l) {j:Nat} (hj:j<l.length):w.cell? ⟨g,j,none⟩=some (.int .i64 l[j]):=by
 obtain⟨cur,hb,hc⟩:=h
 rw[cell_of_row w g j _ t (0,0) hb,hc j hj]
theorem IsO.frozen {w:World} {g t:Nat} {l:List Int} (h:IsO w g t l) (j:Nat):w.frozen? ⟨g,j,none⟩=false:=by
 obtain⟨cur,hb,_⟩:=h
 exact frozen_of_row w g j _ t hb
theorem IsO.lt {w:World} {g t:Nat} {l:List Int} (h:IsO w g t l):g<w.heap.size:=by
 obtain⟨cur,hb,_⟩:=h
 exact(Array.getElem?_eq_some_iff.1 hb).1
theorem IsO.ints {w:World} {g t B:Nat} {l:List Int} (h:IsO w g t l) (hB:g<B):Ints w B (some ⟨g,0,none⟩) l :=
 .inr ⟨g,0,rfl,hB,fun j hj=>by rw[Nat.zero_add];exact h.cell hj⟩
def marks (k n:Nat):List Int:=(List.range n).map fun j=>((k+j:Nat):Int)
theorem marks_length (k n:Nat):(marks k n).length=n:=by simp[marks]
theorem marks_get (k n j:Nat) (h:j<(marks k n).length):(marks k n)[j]=((k+j:Nat):Int):=by simp[marks]
def mmid (l:List Int) (k i:Nat):List Int:=marks k i++l.drop i
theorem mmid_length (l:List Int) (k i:Nat) (h:i<=l.length):(mmid l k i).length=l.length:=by simp[mmid,marks_length];omega
theorem mmid_zero (l:List Int) (k:Nat):mmid l k 0=l:=by simp[mmid,marks]
theorem mmid_all (l:List Int) (k:Nat):mmid l k l.length=marks k l.length:=by simp[mmid]
theorem mmid_next (l:List Int) (k i:Nat) (h:i<l.length):(mmid l k i).set i (((k+i:Nat):Int))=mmid l k (i+1):=by
 unfold mmid
 rw[List.set_append,if_neg (by rw[marks_length];omega),marks_length,Nat.sub_self]
 have:marks k (i+1)=marks k i++[((k+i:Nat):Int)]:=by simp[marks,List.range_succ]
 rw[this,List.append_assoc]
 congr 1
 rw[List.drop_eq_getElem_cons h]
 rfl
end Go.Proofs.YtpddanmnlkcdpaaGreatDoor.In


/- Rows of numbers that a call has made and owns: nil, or a block of its own whose head they are. -/
namespace Go.Proofs.YtpddanmnlkcdpaaGreatDoor.In
open Go.RowKit
open St (Aft)
def OwnI (w:World) (base:Nat) (v:Value) (l:List Int):Prop:=w.ownsRow base 2 1 v l.length (l.map (Value.int .i64))
theorem OwnI.nil (w:World) (base:Nat):OwnI w base (.slice none 0 0) []:=World.ownsRow_nil w base _ _
theorem OwnI.split {w:World} {base:Nat} {v:Value} {l:List Int} (h:OwnI w base v l) :
  (v=.slice none 0 0/\l=[])∨∃ g cap,v=.slice (some ⟨g,0,none⟩) l.length cap/\base<=g/\l.length<=cap/\IsO w g 2 l:=by
 obtain⟨_,h⟩:=h
 rcases h with⟨h,h0⟩|⟨g,cap,cur,hv,hg,hb,hnc,_,hsz,htk⟩
 ·exact .inl ⟨h,List.eq_nil_of_length_eq_zero h0⟩
 ·refine .inr ⟨g,cap,hv,hg,hnc,cur,hb,fun j hj=>?_⟩
  rw[<-Array.getElem?_toList]
  have h1:cur.toList[j]? = (cur.toList.take (l.length*1))[j]?:=by rw[List.getElem?_take_of_lt (by omega)]
  rw[h1,htk]
  simp[hj]
theorem OwnI.below {w w':World} {base:Nat} {v:Value} {l:List Int} (h:OwnI w base v l) (b:Below w.heap.size w w'):OwnI w' base v l:=by
 obtain⟨hl,h⟩:=h
 refine⟨hl,?_⟩
 rcases h with h|⟨g,cap,cur,hv,hg,hb,rest⟩
 ·exact .inl h
 ·exact .inr ⟨g,cap,cur,hv,hg,by rw[b.block g (Array.getElem?_eq_some_iff.1 hb).1];exact hb,rest⟩
theorem OwnI.mono {w:World} {base base':Nat} {v:Value} {l:List Int} (h:OwnI w base v l) (hb:base'<=base):OwnI w base' v l:=by
 obtain⟨hl,h⟩:=h
 refine⟨hl,?_⟩
 rcases h with h|⟨g,cap,cur,hv,hg,rest⟩
 ·exact .inl h
 ·exact .inr ⟨g,cap,cur,hv,Nat.le_trans hb hg,rest⟩
theorem OwnI.ints {w:World} {base:Nat} {v:Value} {l:List Int} (h:OwnI w base v l):∃ a cap,v=.slice a l.length cap/\l.length<=cap/\Ints w w.heap.size a l:=by
 rcases h.split with⟨rfl,rfl⟩|⟨g,cap,rfl,_,hc,ho⟩
 ·exact⟨none,0,rfl,Nat.le_refl _,.inl rfl⟩
 ·exact⟨_,cap,rfl,hc,ho.ints ho.lt⟩
end Go.Proofs.YtpddanmnlkcdpaaGreatDoor.In


/- The walks of joinAll and putNums. -/
namespace Go.Proofs.YtpddanmnlkcdpaaGreatDoor.Pk
open Go.RowKit
open St (Strs IsS)
open In (Ints IsI OwnI made_ints)
open Nu (putS)
def cat (l:List ByteArray):List UInt8:=l.flatMap fun s=>s.data.toList
def numsL (l:List Int):List UInt8:=l.flatMap fun x=>(putS x).data.toList
def putsN (l:List Int) (k:Nat):List ByteArray:=(l.take k).map putS++List.replicate (l.length-k) ⟨#[]⟩
end Go.Proofs.YtpddanmnlkcdpaaGreatDoor.Pk


namespace Go.Proofs.YtpddanmnlkcdpaaGreatDoor.Nu
open Go.RowKit
theorem join_some (a b:ByteArray) (w:World) (h:a.size+b.size<=1099511627776) (hb:¬b=ByteArray.empty) :
  Calls Tryz.prog 196 #[.string a,.string b] w fun e w'=>e=.returned (.string (a++b))/\Below w.heap.size w w':=by
 obtain⟨i0,hi,hz0,hz1,hz2⟩:=info_parts Tryz.infoJ5
 go_enter Tryz.func196,Tryz.ntmps196
 go_wp2_with (at_make;refine wpList_make_full _ rfl (.tmp 10) (.tmp 10) 168 rfl w.heap.size 5 i0 (.int .u8 0) 1 Tryz.underlying168 hi hz0 hz1 .i64 .i64 _ _ (a.size+b.size) rfl rfl (by simp) (by simp) (by rw[hz2];omega) (by unfold maxLen;omega) (Nat.le_refl _) ?_;intro w1 hown1 hgrow1;obtain⟨cur,hblk,hlen⟩:=made_block hown1;have hbel1:=(Below.refl w.heap.size w).grown hgrow1 (Nat.le_refl _) (by simp);obtain⟨w2,w3,c1,c2,c3,hb3⟩:=join_facts (P:=Tryz.prog) (ty:=3) (sT:=9) (a:=a) (b:=b) (dp:=some ⟨w.heap.size,a.size,none⟩) (dLen:=b.size) (dCap:=b.size) Tryz.underlying168 Tryz.underlying5 Tryz.underlying9 Tryz.sizeJ5 hblk hlen rfl hbel1 (fun _=>rfl) (Nat.le_refl _);clear hown1 hgrow1 hblk hlen hbel1)
 go_ret
 exact⟨rfl,by assumption⟩
theorem join_none (a:ByteArray) (w:World) (h:a.size<=1099511627776) :
  Calls Tryz.prog 196 #[.string a,.string ByteArray.empty] w fun e w'=>e=.returned (.string (a++ByteArray.empty))/\Below w.heap.size w w':=by
 obtain⟨i0,hi,hz0,hz1,hz2⟩:=info_parts Tryz.infoJ5
 go_enter Tryz.func196,Tryz.ntmps196
 go_wp2_with (at_make;refine wpList_make_full _ rfl (.tmp 10) (.tmp 10) 168 rfl w.heap.size 5 i0 (.int .u8 0) 1 Tryz.underlying168 hi hz0 hz1 .i64 .i64 _ _ a.size rfl rfl (by simp) (by simp) (by rw[hz2];omega) (by unfold maxLen;omega) (Nat.le_refl _) ?_;intro w1 hown1 hgrow1;obtain⟨cur,hblk,hlen⟩:=made_block hown1;have hbel1:=(Below.refl w.heap.size w).grown hgrow1 (Nat.le_refl _) (by simp);obtain⟨w2,w3,c1,c2,c3,hb3⟩:=join_facts (P:=Tryz.prog) (ty:=3) (sT:=9) (a:=a) (b:=ByteArray.empty) (dp:=some ⟨w.heap.size,0,none⟩) (dLen:=0) (dCap:=0) Tryz.underlying168 Tryz.underlying5 Tryz.underlying9 Tryz.sizeJ5 hblk hlen (by simp) hbel1 (by simp) (by simp);clear hown1 hgrow1 hblk hlen hbel1)
 go_ret
 exact⟨ret_strJ (by simp),by assumption⟩
theorem join_any (a b:ByteArray) (w:World) (h:a.size+b.size<=1099511627776) :
  Calls Tryz.prog 196 #[.string a,.string b] w fun e w'=>e=.returned (.string (a++b))/\Below w.heap.size w w':=by
 by_cases hb:b=ByteArray.empty
 ·subst hb
  exact join_none a w (by omega)
 ·exact join_some a b w h hb
end Go.Proofs.YtpddanmnlkcdpaaGreatDoor.Nu


/- The walks of spec.PutText and impl.PutText (each answers Nu.putT of its text). -/
namespace Go.Proofs.YtpddanmnlkcdpaaGreatDoor.Nu
open Go.RowKit
def putT (t:ByteArray):ByteArray:=if t.size<=8000 then putS (t.size:Int)++t else ⟨#[]⟩
end Go.Proofs.YtpddanmnlkcdpaaGreatDoor.Nu


/- Plain mathematics for spec.l02All: what is filled up byte by byte, and that a block looks at its 64 bytes alone. -/
namespace Go.Proofs.YtpddanmnlkcdpaaGreatDoor.Sh
theorem pad_first (t:ByteArray) (j:Nat) (h:j<t.size+1):(if j=t.size then 128 else bt t j)=pad t j:=by
 by_cases e:j=t.size
 ·subst e;simp[pad,padK]
 ·have:j<t.size:=by omega
  simp[pad,padK,e,this]
theorem pad_zero (t:ByteArray) (n:Nat) (h1:t.size<n) (h2:n+8<chunks t.size*64):pad t n=0:=by
 have a:¬n<t.size:=by omega
 have b:¬n=t.size:=by omega
 have c:¬chunks t.size*64<=n+8:=by omega
 simp[pad,padK,a,b,c]
theorem pad_len (t:ByteArray) (m:Nat) (hm:m<8):pad t (chunks t.size*64-8+m)=t.size*8/2 ^ (56-8*m)%256:=by
 have hr:=chunks_room t.size
 have a:¬chunks t.size*64-8+m<t.size:=by omega
 have b:¬chunks t.size*64-8+m=t.size:=by omega
 have c:chunks t.size*64<=chunks t.size*64-8+m+8:=by omega
 have d:chunks t.size*64-1-(chunks t.size*64-8+m)=7-m:=by omega
 have e:8*(7-m)=56-8*m:=by omega
 simp only[pad,padK,if_neg a,if_neg b,if_pos c,d,e]
theorem pad_app (t:ByteArray) (n x:Nat) (hx:x=pad t n) (j:Nat):(if j=n then x else pad t j)=pad t j:=by
 by_cases e:j=n
 ·subst e;simp[hx]
 ·simp[e]
theorem part_congr (B B':Nat->Nat) (h:∀ j,j<64->B j=B' j) (i:Nat) (hi:i<16):∀ j,j<=4->part B i j=part B' i j
 |0,_=>rfl
 |j+1,hj=>by simp only[part];rw[part_congr B B' h i hi j (by omega),h _ (by omega)]
theorem wv_congr (B B':Nat->Nat) (h:∀ j,j<64->B j=B' j) (i:Nat):wv B i=wv B' i:=by
 induction i using Nat.strongRecOn with
 |_ i ih =>
  by_cases hi:i<16
  ·rw[wv_lo B i hi,wv_lo B' i hi]
   simp only[word]
   rw[part_congr B B' h i hi 4 (Nat.le_refl _)]
  ·rw[wv_hi B i hi,wv_hi B' i hi,ih (i-16) (by omega),ih (i-15) (by omega),ih (i-7) (by omega),ih (i-2) (by omega)]
theorem run_congr (B B':Nat->Nat) (s:Nat->Int) (h:∀ j,j<64->B j=B' j):∀ k,run B s k=run B' s k
 |0=>rfl
 |k+1=>by simp only[run];rw[run_congr B B' s h k,wv_congr B B' h k]
theorem blk_congr (B B':Nat->Nat) (s:Nat->Int) (h:∀ j,j<64->B j=B' j):blk B s=blk B' s:=by
 funext j
 simp only[blk]
 rw[run_congr B B' s h 64]
theorem blk_str (t:ByteArray) (k:Nat) (s:Nat->Int):blk (bt (strF 64 (blkB t k))) s=blk (blkB t k) s :=
 blk_congr _ _ s (fun j hj=>bt_strF 64 _ j hj (blkB_lt t k j))
theorem firstF_range (j:Nat):0<=firstF j/\firstF j<4294967296:=by
 by_cases h:j<8
 ·have:j=0∨j=1∨j=2∨j=3∨j=4∨j=5∨j=6∨j=7:=by omega
  rcases this with rfl|rfl|rfl|rfl|rfl|rfl|rfl|rfl<;>decide
 ·simp[firstF,firstL,List.getD,List.getElem?_eq_none (show [1779033703,3144134277,1013904242,2773480762,1359893119,2600822924,528734635,(1541459225:Int)].length<=j by simp;omega)]
theorem shaS_range (t:ByteArray) (k j:Nat):0<=shaS t k j/\shaS t k j<4294967296:=by
 cases k with
 |zero=>exact firstF_range j
 |succ k=>simp only[shaS,blk];omega
end Go.Proofs.YtpddanmnlkcdpaaGreatDoor.Sh

