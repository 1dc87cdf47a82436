/- Texts put together: ShaPad, ShaSum, IntRow, IntLaws, GetPlain, GetV, ShaMade, ShaAppend, ShaStill, ShaSpecA, ShaOwn, ShaAllB, ShaOwn2, StrArg, AppKeep. -/
import Derived.Test.YtpddanmnlkcdpaaGreatDoorMz7
import Derived.Test.YtpddanmnlkcdpaaGreatDoorMz2
import Derived.Test.YtpddanmnlkcdpaaGreatDoorMz6
import Derived.Test.YtpddanmnlkcdpaaGreatDoorMz0
import Derived.BigRegion
import Derived.BigQuiet
import Derived.Deep.QuietTactic
import Derived.Laws.BitsAllLaws
import Derived.Test.YtpddanmnlkcdpaaGreatDoorProg
import Derived.WalkKit
import Derived.WalkSpells
import Derived.WalkLawsBesides
import Derived.Deep.RegionLaw
import Derived.StillTailTactics
import Derived.Laws.IdiomStrings
import Derived.ArgAppend
import Derived.Test.YtpddanmnlkcdpaaGreatDoorMz10
set_option maxRecDepth 100000
set_option maxHeartbeats 8000000
/- Plain mathematics of SHA-256: a text filled up to whole blocks. -/
namespace Go.Proofs.YtpddanmnlkcdpaaGreatDoor.Sh
def chunks (m:Nat):Nat:=(m+72)/64
def padK (t:ByteArray) (k j:Nat):Nat :=
 if j<t.size then bt t j else if j=t.size then 128 else if chunks t.size*64<=j+k then t.size*8/2 ^ (8*(chunks t.size*64-1-j))%256 else 0
def pad (t:ByteArray) (j:Nat):Nat:=padK t 8 j
theorem padK_lt (t:ByteArray) (k j:Nat):padK t k j<256:=by
 unfold padK
 have:=bt_lt t j
 split
 ·exact this
 ·split
  ·decide
  ·split
   ·exact Nat.mod_lt _ (by decide)
   ·decide
theorem pad_lt (t:ByteArray) (j:Nat):pad t j<256:=padK_lt t 8 j
theorem chunks_room (m:Nat):m+9<=chunks m*64:=by unfold chunks;omega
theorem chunks_tight (m:Nat):chunks m*64<=m+72:=by unfold chunks;omega
theorem pad_start (t:ByteArray) (j:Nat):j<chunks t.size*64->upd (fun j=>if j<t.size then ((bt t j:Nat):Int) else 0) t.size 128 j=((padK t 0 j:Nat):Int):=by
 intro hj
 unfold upd padK
 by_cases e:j=t.size
 ·subst e;simp
 ·by_cases h:j<t.size
  ·simp[e,h]
  ·have:¬chunks t.size*64<=j:=by omega
   simp[e,h,this]
theorem pad_next (t:ByteArray) (k:Nat) (hk:k<8) (v:Int) (hv:v=((t.size*8/2 ^ (8*k)%256:Nat):Int)) (j:Nat) (hj:j<chunks t.size*64) :
  upd (fun j=>((padK t k j:Nat):Int)) (chunks t.size*64-1-k) v j=((padK t (k+1) j:Nat):Int):=by
 subst hv
 have hr:=chunks_room t.size
 unfold upd padK
 by_cases e:j=chunks t.size*64-1-k
 ·have h1:¬j<t.size:=by omega
  have h2:¬j=t.size:=by omega
  have h3:chunks t.size*64<=j+(k+1):=by omega
  have h4:chunks t.size*64-1-j=k:=by omega
  rw[if_pos e,if_neg h1,if_neg h2,if_pos h3,h4]
 ·rw[if_neg e]
  have:(chunks t.size*64<=j+(k+1))=(chunks t.size*64<=j+k):=propext ⟨fun h=>by omega,fun h=>by omega⟩
  simp only[this]
end Go.Proofs.YtpddanmnlkcdpaaGreatDoor.Sh


/- Plain mathematics of SHA-256: the digest of a text. -/
namespace Go.Proofs.YtpddanmnlkcdpaaGreatDoor.Sh
def blkB (t:ByteArray) (k j:Nat):Nat:=pad t (64*k+j)
theorem blkB_lt (t:ByteArray) (k j:Nat):blkB t k j<256:=pad_lt t _
def shaS (t:ByteArray):Nat->Nat->Int
 |0=>firstF
 |k+1=>blk (blkB t k) (shaS t k)
def outF (s:Nat->Int) (j:Nat):Nat:=(s (j/4)/2 ^ (24-8*(j%4))%256).toNat
theorem outF_lt (s:Nat->Int) (j:Nat):outF s j<256:=by unfold outF;omega
def sha (t:ByteArray):ByteArray:=strF 32 (outF (shaS t (chunks t.size)))
theorem sha_size (t:ByteArray):(sha t).size=32:=strF_size 32 _
def outK (s:Nat->Int) (m j:Nat):Nat:=if j<m then outF s j else 0
theorem outK_next (s:Nat->Int) (m j:Nat) (v:Int) (hv:v=((outF s m:Nat):Int)):upd (fun j=>((outK s m j:Nat):Int)) m v j=((outK s (m+1) j:Nat):Int):=by
 subst hv
 unfold upd outK
 by_cases e:j=m
 ·subst e;simp
 ·have:(j<m+1)=(j<m):=propext ⟨fun h=>by omega,fun h=>by omega⟩
  simp[e,this]
theorem outK_all (s:Nat->Int):strF 32 (outK s 32)=strF 32 (outF s):=strF_congr 32 _ _ (fun j hj=>by simp[outK,hj])
theorem outK_lt (s:Nat->Int) (m j:Nat):outK s m j<256:=by
 unfold outK
 split
 ·exact outF_lt s j
 ·decide
theorem outF_cast (s:Nat->Int) (m:Nat):s (m/4)/2 ^ (24-8*(m%4))%256=((outF s m:Nat):Int):=by
 unfold outF
 rw[Int.toNat_of_nonneg]
 omega
end Go.Proofs.YtpddanmnlkcdpaaGreatDoor.Sh


namespace Go.Proofs.YtpddanmnlkcdpaaGreatDoor.In
open Go.RowKit
theorem hideI {p:Prop} (h:p):Hid p:=h
def Ints (w:World) (B:Nat) (a:Option Addr) (l:List Int):Prop :=
 l=[]∨∃ b off,a=some ⟨b,off,none⟩/\b<B/\∀ j (h:j<l.length),w.cell? ⟨b,off+j,none⟩=some (.int .i64 l[j])
theorem Ints.below {w w':World} {B:Nat} {a:Option Addr} {l:List Int} (h:Ints w B a l) (hb:Below B w w'):Ints w' B a l:=by
 rcases h with h0|⟨b,off,rfl,hlt,hc⟩
 ·exact .inl h0
 ·exact .inr ⟨b,off,rfl,hlt,fun j hj=>(hb.cell (p:=⟨b,off+j,none⟩) hlt).trans (hc j hj)⟩
theorem Ints.mono {w:World} {B C:Nat} {a:Option Addr} {l:List Int} (h:Ints w B a l) (hBC:B<=C):Ints w C a l:=by
 rcases h with h0|⟨b,off,rfl,hlt,hc⟩
 ·exact .inl h0
 ·exact .inr ⟨b,off,rfl,Nat.lt_of_lt_of_le hlt hBC,hc⟩
theorem Ints.after {w w':World} {B C:Nat} {a:Option Addr} {l:List Int} (h:Ints w B a l) (hb:Below C w w') (hBC:B<=C):Ints w' B a l:=by
 rcases h with h0|⟨b,off,rfl,hlt,hc⟩
 ·exact .inl h0
 ·exact .inr ⟨b,off,rfl,hlt,fun j hj=>(hb.cell (p:=⟨b,off+j,none⟩) (Nat.lt_of_lt_of_le hlt hBC)).trans (hc j hj)⟩
theorem Ints.some {w:World} {B:Nat} {a:Option Addr} {l:List Int} (h:Ints w B a l) (hl:0<l.length) :
  ∃ b off,a=.some ⟨b,off,none⟩/\b<B/\∀ j (h:j<l.length),w.cell? ⟨b,off+j,none⟩=.some (.int .i64 l[j]):=by
 rcases h with h0|h
 ·subst h0;simp at hl
 ·exact h
theorem Ints.take {w:World} {B b off k:Nat} {l:List Int} (hB:b<B) (hc:∀ j (h:j<l.length),w.cell? ⟨b,off+j,none⟩=.some (.int .i64 l[j])):Ints w B (.some ⟨b,off,none⟩) (l.take k) :=
 .inr ⟨b,off,rfl,hB,fun j hj=>by
  have h1:j<l.length:=Nat.lt_of_lt_of_le hj (List.length_take_le' k l)
  rw[hc j h1,List.getElem_take]⟩
theorem Ints.drop {w:World} {B b off k:Nat} {l:List Int} (hB:b<B) (hc:∀ j (h:j<l.length),w.cell? ⟨b,off+j,none⟩=.some (.int .i64 l[j])):Ints w B (.some ⟨b,off+k,none⟩) (l.drop k) :=
 .inr ⟨b,off+k,rfl,hB,fun j hj=>by
  rw[List.length_drop]at hj
  rw[List.getElem_drop,<-hc (k+j) (by omega)]
  congr 2
  omega⟩
def irow (l:List Int):Array Value:=(l.map (Value.int .i64)).toArray
def IsI (w:World) (g:Nat) (t:TypeId) (l:List Int):Prop:=w.heap[g]? = some (.cells (irow l) t (0,0))
theorem irow_size (l:List Int):(irow l).size=l.length:=by simp[irow]
theorem irow_get (l:List Int) (j:Nat) (h:j<l.length):(irow l)[j]? = some (.int .i64 l[j]):=by simp[irow,h]
theorem irow_set (l:List Int) (i:Nat) (s:Int):(irow l).setIfInBounds i (.int .i64 s)=irow (l.set i s):=by
 simp[irow,List.map_set]
theorem IsI.cell {w:World} {g t:Nat} {l:List Int} (h:IsI w g t l) {j:Nat} (hj:j<l.length):w.cell? ⟨g,j,none⟩=some (.int .i64 l[j]):=by
 rw[cell_of_row w g j _ t (0,0) h,irow_get l j hj]
theorem IsI.frozen {w:World} {g t:Nat} {l:List Int} (h:IsI w g t l) (j:Nat):w.frozen? ⟨g,j,none⟩=false:=frozen_of_row w g j _ t h
theorem IsI.set {w:World} {g t:Nat} {l:List Int} (h:IsI w g t l) (i:Nat) (s:Int):IsI (w.setCell ⟨g,i,none⟩ (.int .i64 s)) g t (l.set i s):=by
 unfold IsI
 rw[heap_setCell_same w g i _ t _ h,irow_set]
theorem IsI.set_other {w:World} {g t:Nat} {l:List Int} (h:IsI w g t l) (a:Addr) (v:Value) (ha:g≠a.block):IsI (w.setCell a v) g t l:=by
 unfold IsI
 rw[heap_setCell_other w a g v ha]
 exact h
theorem IsI.lt {w:World} {g t:Nat} {l:List Int} (h:IsI w g t l):g<w.heap.size:=(Array.getElem?_eq_some_iff.1 h).1
theorem IsI.below {w w':World} {g t B:Nat} {l:List Int} (h:IsI w g t l) (b:Below B w w') (hg:g<B):IsI w' g t l:=by
 unfold IsI
 rw[b.block g hg]
 exact h
theorem IsI.ints {w:World} {g t B:Nat} {l:List Int} (h:IsI w g t l) (hB:g<B):Ints w B (some ⟨g,0,none⟩) l :=
 .inr ⟨g,0,rfl,hB,fun j hj=>by rw[Nat.zero_add];exact h.cell hj⟩
def mid (l:List Int) (k:Nat):List Int:=l.take k++List.replicate (l.length-k) 0
theorem mid_length (l:List Int) (k:Nat) (h:k<=l.length):(mid l k).length=l.length:=by simp[mid];omega
theorem mid_zero (l:List Int):mid l 0=List.replicate l.length 0:=by simp[mid]
theorem mid_all (l:List Int):mid l l.length=l:=by simp[mid]
theorem mid_next (l:List Int) (k:Nat) (h:k<l.length):(mid l k).set k l[k]=mid l (k+1):=by
 apply List.ext_getElem?
 intro i
 unfold mid
 rw[List.getElem?_set]
 have hl:(l.take k).length=k:=by simp;omega
 have hl':(l.take (k+1)).length=k+1:=by simp;omega
 by_cases e:k=i
 ·subst e
  rw[if_pos rfl,if_pos (by simp;omega),List.getElem?_append_left (by omega),List.getElem?_take_of_lt (by omega),List.getElem?_eq_getElem h]
 ·rw[if_neg e]
  by_cases hi:i<k
  ·rw[List.getElem?_append_left (by omega),List.getElem?_append_left (by omega),List.getElem?_take_of_lt hi,List.getElem?_take_of_lt (by omega)]
  ·rw[List.getElem?_append_right (by omega),List.getElem?_append_right (by omega),hl,hl',List.getElem?_replicate,List.getElem?_replicate]
   have:(i-k<l.length-k)=(i-(k+1)<l.length-(k+1)):=propext ⟨fun h=>by omega,fun h=>by omega⟩
   simp only[this]
theorem made_ints {w:World} {base e g n:Nat} (h:w.ownsRow base e 1 (.slice (some ⟨g,0,none⟩) n n) n (madeCells (Value.int .i64 0).cells (n*1)).toList):IsI w g e (List.replicate n 0):=by
 obtain⟨_,h⟩:=h
 rcases h with⟨h,_⟩|⟨g',cap,cur,hv,_,hb,_,_,hsz,htk⟩
 ·simp at h
 ·simp at hv
  obtain⟨rfl,rfl⟩:=hv
  have hm:(madeCells (Value.int .i64 0).cells (n*1)).toList=(irow (List.replicate n 0)).toList:=by
   rw[Nat.mul_one]
   have:=toList_madeCells_one (.int .i64 0) n
   simp only[irow,List.map_replicate]
   exact this
  rw[hm,List.take_of_length_le (by simp[hsz])]at htk
  have:cur=irow (List.replicate n 0):=by simpa using htk
  rw[this]at hb
  exact hb
theorem Tryz.infoI2:(Tryz.prog.info? 2).map (fun i=>(i.zero,i.size,i.bytes))=some (some (.int .i64 0),1,8):=by kernel_rfl
theorem toInt_any (a:Option Addr) (cap:Nat) (l:List Int) (w:World) (h:Ints w w.heap.size a l) (hn:l.length<=1048576) :
  Calls Tryz.prog 105 #[.slice a l.length cap] w fun e w'=>e=.returned (.slice (some ⟨w.heap.size,0,none⟩) l.length l.length)/\IsI w' w.heap.size 2 l/\Below w.heap.size w w':=by
 obtain⟨i0,hi,hz0,hz1,hz2⟩:=info_parts Tryz.infoI2
 have HS:=hideI h
 clear h
 obtain⟨n,hln⟩:∃ n,n=l.length:=⟨_,rfl⟩
 have HLN:=hideI hln
 rw[<-hln]at hn ⊢
 clear hln
 go_enter Tryz.func105,Tryz.ntmps105
 go_wp2_with (at_make;refine wpList_make_full _ rfl (.tmp 6) (.tmp 6) 84 rfl w.heap.size 2 i0 (.int .i64 0) 1 Tryz.underlying84 hi hz0 hz1 .i64 .i64 _ _ n rfl rfl (by simp) (by simp) (by rw[hz2];omega) (by unfold maxLen;omega) (Nat.le_refl _) ?_;intro w1 hown1 hgrow1;have HR:=hideI (made_ints hown1);have HB:=hideI ((Below.refl w.heap.size w).grown hgrow1 (Nat.le_refl _) (by simp));clear hown1 hgrow1)
 go_loopw [4] (fun i wr=>∃ k:Nat,i=.int .i64 k/\k<=n/\IsI wr w.heap.size 2 (mid l k)/\Below w.heap.size w wr) (fun i _=>n-(intOf i).toNat)
 case atStart=>exact⟨0,rfl,by omega,by rw[mid_zero,<-HLN.out];exact HR.out,HB.out⟩
 case round =>
  obtain⟨k,rfl,hk,h1,hbel⟩:=hrel
  have G1:=hideI h1
  have GB:=hideI hbel
  by_cases hlt:k<n
  ·have hkl:k<l.length:=by rw[<-HLN.out];exact hlt
   obtain⟨b,off,rfl,hb,hc⟩:=(HS.out.below hbel).some (by omega)
   have ci:=hc k hkl
   have HM:=hideI (mid_next l k hkl)
   have cf:=h1.frozen k
   have ce:∃ v,wr.cell? ⟨w.heap.size,k,none⟩=some (.int .i64 v):=⟨_,h1.cell (j:=k) (by rw[mid_length l k (by omega)];exact hkl)⟩
   obtain⟨v0,ce⟩:=ce
   obtain⟨s,hs⟩:∃ s,s=l[k]:=⟨_,rfl⟩
   have HSE:=hideI hs
   rw[<-hs]at ci
   clear h1 hbel hc hs
   go_wp2_with fail
   go_roundw
   case rel=>exact⟨k+1,by go_num,by omega,by rw[<-HM.out,<-HSE.out];exact G1.out.set k s,GB.out.setCell (Nat.le_refl _) _⟩
   case measure=>simp[intOf];omega
  ·have HE:Hid (mid l k=l):=by
    unfold Hid
    rw[show k=l.length by have:=HLN.out;omega]
    exact mid_all l
   clear h1 hbel
   go_wp2_with fail
   go_ret
   exact⟨rfl,by rw[<-HE.out];exact G1.out,GB.out⟩
end Go.Proofs.YtpddanmnlkcdpaaGreatDoor.In


namespace Go.Proofs.YtpddanmnlkcdpaaGreatDoor.In
open Go.RowKit
theorem ret_bool {a b:Bool} (h:a=b):Ending.returned (.bool a)=.returned (.bool b):=by rw[h]
/-- two rows of the same numbers are alike -/
theorem eq_any (a b:Option Addr) (cap cap':Nat) (l:List Int) (w:World) (B:Nat) (ha:Ints w B a l) (hb:Ints w B b l) (hn:l.length<=1048576) :
  Calls Tryz.prog 117 #[.slice a l.length cap,.slice b l.length cap'] w fun e w'=>e=.returned (.bool true)/\Below w.heap.size w w':=by
 have HA:=hideI ha
 have HB:=hideI hb
 clear ha hb
 obtain⟨n,hln⟩:∃ n,n=l.length:=⟨_,rfl⟩
 have HLN:=hideI hln
 rw[<-hln]at hn ⊢
 clear hln
 go_enter Tryz.func117,Tryz.ntmps117
 go_wp2_with fail
 go_loopw [5] (fun i wr=>∃ k:Nat,i=.int .i64 k/\k<=n/\(∀ p:Addr,wr.cell? p=w.cell? p)/\Below w.heap.size w wr) (fun i _=>n-(intOf i).toNat)
 case atStart=>exact⟨0,rfl,by omega,fun _=>rfl,Below.refl _ _⟩
 case round =>
  obtain⟨k,rfl,hk,hcell,hbel⟩:=hrel
  have HC:=hideI hcell
  have GB:=hideI hbel
  by_cases hlt:k<n
  ·have hkl:k<l.length:=by rw[<-HLN.out];exact hlt
   obtain⟨b1,off1,rfl,_,hc1⟩:=HA.out.some (by omega)
   obtain⟨b2,off2,rfl,_,hc2⟩:=HB.out.some (by omega)
   have c1:=(hcell _).trans (hc1 k hkl)
   have c2:=(hcell _).trans (hc2 k hkl)
   obtain⟨s,hs⟩:∃ s,s=l[k]:=⟨_,rfl⟩
   rw[<-hs]at c1 c2
   clear hc1 hc2 hcell hbel hs
   go_wp2_with fail
   go_region
   all_goals (try go_wp2_with fail)
   all_goals go_roundw
   case rel=>exact⟨k+1,by go_num,by omega,fun p=>HC.out p,GB.out.drew⟩
   case measure=>simp[intOf];omega
  ·clear hcell hbel
   go_wp2_with fail
   go_ret
   exact⟨rfl,GB.out⟩
end Go.Proofs.YtpddanmnlkcdpaaGreatDoor.In


/- Plain mathematics of reading a number: what stands at a place of a text, byte by byte. -/
namespace Go.Proofs.YtpddanmnlkcdpaaGreatDoor.Gn
def byteN (s:ByteArray) (p:Nat):Nat:=(s.data.toList.getD p 0).toNat
theorem byteN_eq (s:ByteArray) (p:Nat) (h:p<s.size):s[p].toNat=byteN s p:=by
 have h':p<s.data.toList.length:=by simpa using h
 unfold byteN
 rw[List.getD_eq_getElem?_getD,List.getElem?_eq_getElem h']
 rfl
def run (s:ByteArray):Nat->Nat->Nat->Nat->Nat × Nat × Int
 |0,_,_,_=>(0,0,3)
 |f+1,k,p,u =>
  if s.size<=p then (0,0,4)
  else if k=9/\1<byteN s p then (0,0,3)
  else if byteN s p<128 then (if byteN s p=0/\0<k then (0,0,3) else (u+byteN s p%128*2 ^ (7*k),p+1,0))
  else run s f (k+1) (p+1) (u+byteN s p%128*2 ^ (7*k))
def numR (s:ByteArray) (a:Nat):Nat × Nat × Int:=run s 10 0 a 0
theorem run_end (s:ByteArray) (f k p u:Nat) (h:s.size<=p):run s (f+1) k p u=(0,0,4):=by
 rw[run,if_pos h]
theorem run_nine (s:ByteArray) (f k p u:Nat) (h:p<s.size) (hk:k=9) (hc:1<s[p].toNat):run s (f+1) k p u=(0,0,3):=by
 rw[byteN_eq s p h]at hc
 rw[run,if_neg (by omega),if_pos ⟨hk,hc⟩]
theorem run_zero (s:ByteArray) (f k p u:Nat) (h:p<s.size) (hc:s[p].toNat=0) (hk:0<k):run s (f+1) k p u=(0,0,3):=by
 rw[byteN_eq s p h]at hc
 rw[run,if_neg (by omega),if_neg (by omega),if_pos (by omega),if_pos ⟨hc,hk⟩]
theorem run_last (s:ByteArray) (f k p u:Nat) (h:p<s.size) (h9:¬(k=9/\1<s[p].toNat)) (hc:s[p].toNat<128) (hz:¬(s[p].toNat=0/\0<k)) :
  run s (f+1) k p u=(u+s[p].toNat%128*2 ^ (7*k),p+1,0):=by
 rw[byteN_eq s p h]at hc hz h9 ⊢
 rw[run,if_neg (by omega),if_neg h9,if_pos hc,if_neg hz]
theorem run_more (s:ByteArray) (f k p u:Nat) (h:p<s.size) (hk:k≠9) (hc:128<=s[p].toNat) :
  run s (f+1) k p u=run s f (k+1) (p+1) (u+s[p].toNat%128*2 ^ (7*k)):=by
 rw[byteN_eq s p h]at hc ⊢
 rw[run,if_neg (by omega),if_neg (by omega),if_neg (by omega)]
theorem pow_le (k:Nat) (hk:k<=9):2 ^ (7*k)<=9223372036854775808:=by
 have:2 ^ (7*k)<=2 ^ 63:=Nat.pow_le_pow_right (by decide) (by omega)
 exact this
theorem pow_next (k:Nat):2 ^ (7*(k+1))=128*2 ^ (7*k):=by
 rw[show 7*(k+1)=7+7*k by omega,Nat.pow_add]
theorem part_lt (c k:Nat):c%128*2 ^ (7*k)<=127*2 ^ (7*k):=Nat.mul_le_mul_right _ (by omega)
theorem next_lt (u c k:Nat) (hu:u<2 ^ (7*k)):u+c%128*2 ^ (7*k)<2 ^ (7*(k+1)):=by
 rw[pow_next]
 have:=part_lt c k
 omega
theorem next_small (u c k:Nat) (hu:u<2 ^ (7*k)) (hk:k<=9) (h9:¬(k=9/\1<c)):c%128*2 ^ (7*k)<=9223372036854775808/\u+c%128*2 ^ (7*k)<=18446744073709551615:=by
 have hp:=pow_le k hk
 by_cases e:k=9
 ·have hc:c%128<=1:=by omega
  have:=Nat.mul_le_mul_right (2 ^ (7*k)) hc
  omega
 ·have hn:=next_lt u c k hu
  have:=pow_le (k+1) (by omega)
  omega
theorem or_add (u c k:Nat) (hu:u<2 ^ (7*k)):u ||| (c%128*2 ^ (7*k))=u+c%128*2 ^ (7*k):=by
 rw[Nat.or_comm,nat_join (7*k) (c%128*2 ^ (7*k)) u (Nat.mul_mod_left _ _) hu,Nat.add_comm]
def unz (u:Nat):Int:=if u%2=1 then -((u/2:Nat):Int)-1 else ((u/2:Nat):Int)
theorem wrap_part (c k:Nat) (h:c%128*2 ^ (7*k)<=9223372036854775808):IntKind.u64.wrap ((c:Int)%128*2 ^ (7*k))=((c%128*2 ^ (7*k):Nat):Int):=by
 have e:((c:Int)%128*2 ^ (7*k))=((c%128*2 ^ (7*k):Nat):Int):=by
  rw[Int.natCast_mul,Int.natCast_emod,Int.natCast_pow];rfl
 rw[e,IntKind.wrap_u64]
 omega
theorem wrap_next (v c k:Nat) (h1:c%128*2 ^ (7*k)<=9223372036854775808) (h2:v+c%128*2 ^ (7*k)<=18446744073709551615) :
  IntKind.u64.wrap ((v:Int)+IntKind.u64.wrap ((c:Int)%128*2 ^ (7*k)))=((v+c%128*2 ^ (7*k):Nat):Int):=by
 rw[wrap_part c k h1,IntKind.wrap_u64]
 omega
theorem unz_odd (x:Nat) (h:x%2=1):unz x = -((x/2:Nat):Int)-1:=by unfold unz;rw[if_pos h]
theorem unz_even (x:Nat) (h:¬x%2=1):unz x=((x/2:Nat):Int):=by unfold unz;rw[if_neg h]
theorem and_low (c:Nat) (h:c<256):bits BinOp.and IntKind.u8 (c:Int) 127=((c%128:Nat):Int):=by
 have:=u8_and_nat c 127 h (by decide)
 rw[nat_mask7]at this
 exact this
theorem shl_part (y k:Nat) (h:y*2 ^ (7*k)<=9223372036854775808):IntKind.u64.wrap ((y:Int)*2 ^ (7*k))=((y*2 ^ (7*k):Nat):Int):=by
 have e:((y:Int)*2 ^ (7*k))=((y*2 ^ (7*k):Nat):Int):=by
  rw[Int.natCast_mul,Int.natCast_pow];rfl
 rw[e,IntKind.wrap_u64]
 omega
theorem or_part (v c k:Nat) (hv:v<2 ^ (7*k)) (h1:c%128*2 ^ (7*k)<=9223372036854775808) (h2:v<=9223372036854775807) :
  bits BinOp.or IntKind.u64 (v:Int) ((c%128*2 ^ (7*k):Nat):Int)=((v+c%128*2 ^ (7*k):Nat):Int):=by
 rw[u64_or_nat v _ (by omega) (by omega),or_add v c k hv]
theorem unz_odd' (x:Nat) (h:x%2=1):-((x:Int)/2)-1=unz x:=by rw[unz_odd x h];omega
theorem unz_even' (x:Nat) (h:¬x%2=1):(x:Int)/2=unz x:=by rw[unz_even x h];omega
end Go.Proofs.YtpddanmnlkcdpaaGreatDoor.Gn


/- What GetNum answers, said of its text and place. -/
namespace Go.Proofs.YtpddanmnlkcdpaaGreatDoor.Gn
open Go.RowKit
theorem hide {p:Prop} (h:p):Hid p:=h
def outN (n at_ code:Int):Value:=.agg #[.int .i64 n,.int .i64 at_,.int .i64 code]
def resV (r:Nat × Nat × Int):Value:=if r.2.2=0 then outN (unz r.1) r.2.1 0 else outN 0 0 r.2.2
def getV (s:ByteArray) (a:Int):Value:=if 8000<s.size then outN 0 0 2 else if a<0 then outN 0 0 1 else resV (numR s a.toNat)
end Go.Proofs.YtpddanmnlkcdpaaGreatDoor.Gn


/- A row of numbers that make has just made. -/
namespace Go.Proofs.YtpddanmnlkcdpaaGreatDoor.Sh
open Go.RowKit
theorem made_zerosK (k:IntKind) (n:Nat):(madeCells (Value.int k 0).cells (n*1)).toList=(rowF k n (fun _=>0)).toList:=by
 apply List.ext_getElem?
 intro i
 by_cases hi:i<n
 ·simp[madeCells,rowF,hi,Value.cells,Nat.mod_one]
 ·simp[madeCells,rowF,hi,Value.cells]
theorem made_rowK {k:IntKind} {w:World} {base e g n:Nat} (h:w.ownsRow base e 1 (.slice (some ⟨g,0,none⟩) n n) n (madeCells (Value.int k 0).cells (n*1)).toList):IsB w g e k n (fun _=>0):=by
 obtain⟨_,h⟩:=h
 rcases h with⟨h,_⟩|⟨g',cap,cur,hv,_,hb,_,_,hsz,htk⟩
 ·simp at h
 ·simp at hv
  obtain⟨rfl,rfl⟩:=hv
  rw[made_zerosK,List.take_of_length_le (by simp[hsz])]at htk
  have:cur=rowF k n (fun _=>0):=by simpa using htk
  rw[this]at hb
  exact hb
theorem own_cells {w:World} {base e n:Nat} {v:Value} {k:IntKind} {f:Nat->Int} (hn:0<n) (h:w.ownsRow base e 1 v n (rowF k n f).toList) :
  ∃ g c,v=.slice (some ⟨g,0,none⟩) n c/\base<=g/\g<w.heap.size/\∀ j,j<n->w.cell? ⟨g,j,none⟩=some (.int k (f j)):=by
 obtain⟨_,h⟩:=h
 rcases h with⟨_,h⟩|⟨g,cap,cur,hv,hg,hb,hnc,_,hsz,htk⟩
 ·omega
 ·refine⟨g,cap,hv,hg,(Array.getElem?_eq_some_iff.1 hb).1,fun j hj=>?_⟩
  rw[cell_of_row w g j cur e (0,0) hb]
  have h1:cur.toList[j]? = (cur.toList.take (n*1))[j]?:=by rw[List.getElem?_take_of_lt (by omega)]
  rw[<-Array.getElem?_toList,h1,htk,Array.getElem?_toList]
  exact rowF_get k n f j hj
theorem rowF_snoc (k:IntKind) (n:Nat) (f:Nat->Int):(rowF k n f).toList++[.int k (f n)]=(rowF k (n+1) f).toList:=by
 simp[rowF,List.range_succ]
theorem byte_at (t:ByteArray) (j:Nat) (h:j<t.size):∃ y:UInt8,t[j]=y/\y.toNat=bt t j:=⟨t[j],rfl,bt_get t j h⟩
theorem word_spec (B:Nat->Nat) (k:Nat) (y0 y1 y2 y3:Nat) (h0:y0=B (4*k)) (h1:y1=B (4*k+1)) (h2:y2=B (4*k+2)) (h3:y3=B (4*k+3)) (hB:∀ j,B j<256) :
  bits BinOp.or IntKind.u32 (bits BinOp.or IntKind.u32 (bits BinOp.or IntKind.u32 ((y0:Int)*16777216) ((y1:Int)*65536))
   ((y2:Int)*256)) (y3:Int)=((word B k:Nat):Int):=by
 have b0:=hB (4*k)
 have b1:=hB (4*k+1)
 have b2:=hB (4*k+2)
 have b3:=hB (4*k+3)
 rw[<-h0]at b0
 rw[<-h1]at b1
 rw[<-h2]at b2
 rw[<-h3]at b3
 rw[show (y0:Int)*16777216=((y0*16777216:Nat):Int) by simp,show (y1:Int)*65536=((y1*65536:Nat):Int) by simp,show (y2:Int)*256=((y2*256:Nat):Int) by simp]
 rw[u32_or_nat _ _ (by omega) (by omega),nat_join 24 (y0*16777216) (y1*65536) (by omega) (by omega),
  u32_or_nat _ _ (by omega) (by omega),nat_join 16 (y0*16777216+y1*65536) (y2*256) (by omega) (by omega),
  u32_or_nat _ _ (by omega) (by omega),nat_join 8 (y0*16777216+y1*65536+y2*256) y3 (by omega) (by omega)]
 simp only[word,part,Nat.add_zero,<-h0,<-h1,<-h2,<-h3]
 omega
end Go.Proofs.YtpddanmnlkcdpaaGreatDoor.Sh


/- append onto a row that the call owns, as one step of a region that draws its order. -/
namespace Go.Proofs.YtpddanmnlkcdpaaGreatDoor.Sh
open Go.RowKit
theorem step_append_own {P:Program} {ops:Array Oper} {o:Oper} {a:Act} {w:World} {K:Act->World->Prop} {Q:Exit->Act->World->Prop} {E:Prop}
  (hg:o.guard=none) (s x:Operand) (t:TypeId) (ho:o.op=.call { callee:=.builtin .append,args:=#[s,x],argTypes:=#[t,t] })
  (base:Nat) (e:TypeId) (i:TypeInfo) (z:Value) (size bytes:Nat) (ht:P.underlying t=some (.slice e)) (hi:P.info? e=some i) (hz:i.zero=some z)
  (hsize:i.size=size) (hby:i.bytes=bytes) (hzs:z.cells.size=size) (hsz:0<size)
  (v:Value) (n:Nat) (xs:List Value) (hs:a.eval s=v) (hown:w.ownsRow base e size v n xs)
  (ad:Addr) (m c:Nat) (news:List Value) (hx:a.eval x=.slice (some ad) m c) (hl:news.length=m*size) (hnews:∀ j u,news[j]? = some u->w.cell? (ad.add j)=some u) (h1:∀ u∈news,u.oneCell'=true)
  (h63:n+m<=maxLen) (hbytes:(n+m)*bytes<=140737488355328) (hbase:base<=w.heap.size)
  (h:∀ v' w',w'.ownsRow base e size v' (n+m) (xs++news)->w.grownBy w' v.ownBlock->K (a.put o.dst v') w') :
  if Region.wanted o (yielded ops a.tmps)=true then Oper.wp P o a w K Q else E:=by
 have hw:Region.wanted o (yielded ops a.tmps)=true:=by simp[Region.wanted,hg]
 rw[if_pos hw]
 exact wp_append_own w s x t ho base e i z size bytes ht hi hz hsize hby hzs hsz v n xs hs hown ad m c news hx hl hnews h1 h63 hbytes hbase fun v' w' h2 h3 _=>h v' w' h2 h3
theorem one_new (W:World) (x:Value) (t:TypeId):∀ (j:Nat) (u:Value),[x][j]? = some u->(W.alloc (.cells #[x] t)).cell? ((⟨W.heap.size,0,none⟩:Addr).add j)=some u:=by
 intro j u hj
 match j,hj with
 |0,hj=>simp at hj;subst hj;simp[Addr.add]
theorem one_cell (k:IntKind) (x:Int):∀ u∈[Value.int k x],u.oneCell'=true:=by
 intro u hu
 simp at hu
 subst hu
 rfl
theorem own_empty (W:World) (base t:Nat) (h:base<=W.heap.size):(W.alloc (.cells #[] t)).ownsRow base t 1 (.slice (some ⟨W.heap.size,0,none⟩) 0 0) 0 [] :=
 ⟨rfl,Or.inr ⟨W.heap.size,0,#[],rfl,h,heap_alloc_last W _,Nat.le_refl _,by decide,rfl,rfl⟩⟩
theorem app_low {B:Nat} {e:TypeId} {w wr w1:World} {v:Value} {n size:Nat} {xs:List Value} {o:Obj} (hbel:Below B w wr) (hB:B<=wr.heap.size)
  (hown:wr.ownsRow B e size v n xs) (hgrow:(wr.drew.alloc o).grownBy w1 v.ownBlock):Below B w w1:=by
 refine(hbel.drew.alloc hB o).grown hgrow (by simp;omega) ?_
 intro k hk
 exact(hown.lt k hk).1
end Go.Proofs.YtpddanmnlkcdpaaGreatDoor.Sh


/- Two laws of the library on regions that draw their order and only read, the world spelled as a walk spells it. -/
namespace Go.Proofs.YtpddanmnlkcdpaaGreatDoor.Sh
theorem still_lit {P:Program} {id:Nat} {Q:Exit->Act->World->Prop} {a:Act} {w:World} {l:List Oper} (hm:P.follows .mixedOrders=true) (hB:Region.lexB .any l.toArray=true)
  (h:wpStill P l.toArray w.drew (fun a'=>Q .normal a' w.drew) l a):(Code.region id l.toArray true).wp P Q a w :=
 wp_region_still_lit hm hB h
theorem still_tail {P:Program} {id:Nat} {Q:Exit->Act->World->Prop} {a:Act} {w:World} {l:List Oper} (n:Nat) (hm:P.follows .mixedOrders=true) (hB:Region.lexTailB .any l.toArray n=true)
  (h:wpStill P l.toArray w.drew (fun a'=>wpList P l.toArray Q (l.drop n) a' w.drew) (l.take n) a):(Code.region id l.toArray true).wp P Q a w :=
 wp_region_still_tail n hm hB h
end Go.Proofs.YtpddanmnlkcdpaaGreatDoor.Sh


namespace Go.Proofs.YtpddanmnlkcdpaaGreatDoor.Sh
open Go.RowKit
theorem keys_any (w:World):Calls Tryz.prog 208 #[] w fun e w'=>e=.returned (.slice (some ⟨w.heap.size,0,none⟩) 64 64)/\w'=w.alloc (.cells (rowF .u32 64 keyF) 199):=by
 go_enter Tryz.func208,Tryz.ntmps208
 go_wp2
 go_ret
 exact⟨rfl,rfl⟩
theorem start_any (w:World):Calls Tryz.prog 192 #[] w fun e w'=>e=.returned (.slice (some ⟨w.heap.size,0,none⟩) 8 8)/\w'=w.alloc (.cells (rowF .i64 8 firstF) 2):=by
 go_enter Tryz.func192,Tryz.ntmps192
 go_wp2
 go_ret
 exact⟨rfl,rfl⟩
end Go.Proofs.YtpddanmnlkcdpaaGreatDoor.Sh


/- A row of bytes that the call made, in whatever block it lies by now, told by a function from places to numbers; and append of one byte onto it. -/
namespace Go.Proofs.YtpddanmnlkcdpaaGreatDoor.Sh
open Go.RowKit
def OwnB (w:World) (base:Nat) (v:Value) (n:Nat) (f:Nat->Nat):Prop :=
 ∃ g cap,v=.slice (some ⟨g,0,none⟩) n cap/\base<=g/\g<w.heap.size/\n<=cap/\cap<=maxLen/\(∀ j,j<n->w.cell? ⟨g,j,none⟩=some (.int .u8 (f j:Nat))) /\
  ∀ j,n<=j->j<cap->(w.cell? ⟨g,j,none⟩).isSome=true/\w.frozen? ⟨g,j,none⟩=false
theorem OwnB.congr {w:World} {base:Nat} {v:Value} {n:Nat} {f f':Nat->Nat} (h:OwnB w base v n f) (e:∀ j,j<n->f j=f' j):OwnB w base v n f':=by
 obtain⟨g,cap,h1,h2,h3,h4,h5,h6,h7⟩:=h
 exact⟨g,cap,h1,h2,h3,h4,h5,fun j hj=>by rw[h6 j hj,e j hj],h7⟩
theorem OwnB.alloc {w:World} {base:Nat} {v:Value} {n:Nat} {f:Nat->Nat} (h:OwnB w base v n f) (o:Obj):OwnB (w.alloc o) base v n f:=by
 obtain⟨g,cap,h1,h2,h3,h4,h5,h6,h7⟩:=h
 refine⟨g,cap,h1,h2,by simp;omega,h4,h5,fun j hj=>?_,fun j hj1 hj2=>?_⟩
 ·rw[World.cell?_alloc_past o g j h3];exact h6 j hj
 ·rw[World.cell?_alloc_past o g j h3,World.frozen?_alloc_past o g j h3];exact h7 j hj1 hj2
theorem OwnB.below {w w':World} {base B:Nat} {v:Value} {n:Nat} {f:Nat->Nat} (h:OwnB w base v n f) (b:Below B w w') (hB:w.heap.size<=B):OwnB w' base v n f:=by
 obtain⟨g,cap,h1,h2,h3,h4,h5,h6,h7⟩:=h
 refine⟨g,cap,h1,h2,Nat.lt_of_lt_of_le h3 b.size,h4,h5,fun j hj=>?_,fun j hj1 hj2=>?_⟩
 ·rw[b.cell (p:=⟨g,j,none⟩) (show g<B by omega)];exact h6 j hj
 ·rw[b.cell (p:=⟨g,j,none⟩) (show g<B by omega),b.frozen (p:=⟨g,j,none⟩) (show g<B by omega)];exact h7 j hj1 hj2
theorem OwnB.slice {w:World} {base:Nat} {v:Value} {n:Nat} {f:Nat->Nat} (h:OwnB w base v n f):∃ g cap,v=.slice (some ⟨g,0,none⟩) n cap/\n<=cap:=by
 obtain⟨g,cap,h1,_,_,h4,_⟩:=h
 exact⟨g,cap,h1,h4⟩
theorem own_of_string (w:World) (base:Nat) (s:ByteArray) (e:TypeId) (hs:s.size<=maxLen) (hb:base<=w.heap.size) :
  OwnB (w.drew.alloc (.cells (bytesRow s (grownCap w s.size 0 e)) e ((bytesRow s (grownCap w s.size 0 e)).size,(bytesRow s (grownCap w s.size 0 e)).size+1))) base
   (.slice (some ⟨w.heap.size,0,none⟩) s.size (grownCap w s.size 0 e)) s.size (bt s):=by
 have hge:=grownCap_ge w s.size 0 e
 have hcm:=grownCap_le_maxLen w s.size 0 e hs
 generalize grownCap w s.size 0 e=cap at hge hcm
 have hsz:(bytesRow s cap).size=cap:=by
  have:s.data.size=s.size:=rfl
  simp[bytesRow]
  omega
 have hc:∀ j,(w.drew.alloc (.cells (bytesRow s cap) e ((bytesRow s cap).size,(bytesRow s cap).size+1))).cell? ⟨w.heap.size,j,none⟩=(bytesRow s cap)[j]?:=fun j =>
  cell_of_row _ w.heap.size j _ e _ (heap_alloc_last w.drew _)
 refine⟨w.heap.size,cap,rfl,hb,by simp,hge,hcm,fun j hj=>?_,fun j hj1 hj2=>?_⟩
 ·rw[hc,bytesRow_at s cap j (show j<s.data.size from hj)]
  have:=bt_get s j hj
  simp only[<-this]
  rfl
 ·rw[hc]
  refine⟨by rw[Array.getElem?_eq_getElem (by omega)];rfl,?_⟩
  unfold World.frozen?
  rw[show (w.drew.alloc (.cells (bytesRow s cap) e ((bytesRow s cap).size,(bytesRow s cap).size+1))).heap[(⟨w.heap.size,j,none⟩:Addr).block]? = some (.cells (bytesRow s cap) e ((bytesRow s cap).size,(bytesRow s cap).size+1)) from heap_alloc_last w.drew _]
  simp[hsz]
  omega
theorem run_append_b {P:Program} (w:World) (base:Nat) (t ty e:TypeId) (i:TypeInfo) (ht:P.underlying t=some (.slice e)) (hi:P.info? e=some i) (hz:i.zero=some (.int .u8 0))
  (hsize:i.size=1) (hby:i.bytes=1) (v:Value) (n:Nat) (f:Nat->Nat) (hown:OwnB w base v n f) (ad:Addr) (c x:Nat) (hx:w.cell? (ad.add 0)=some (.int .u8 (x:Nat))) (hn:n+1<=140737488355328) (hbase:base<=w.heap.size) :
  ∃ v' w',(Builtin.append_ #[t,t] ty #[v,.slice (some ad) 1 c]).run P w=.ok v' w'/\OwnB w' base v' (n+1) (fun j=>if j=n then x else f j)/\w.grownBy w' v.ownBlock:=by
 obtain⟨g,cap,rfl,hg1,hg2,hnc,hcm,hcl,hsp⟩:=hown
 have hnews:∀ (j:Nat) (u:Value),[Value.int .u8 (x:Nat)][j]? = some u->w.cell? (ad.add j)=some u:=by
  intro j u hj
  match j,hj with
  |0,hj=>simp at hj;subst hj;exact hx
 have hone:∀ u∈[Value.int .u8 (x:Nat)],u.oneCell'=true:=by
  intro u hu
  simp at hu
  subst hu
  rfl
 by_cases hroom:n+1<=cap
 ·obtain⟨sp1,sp2⟩:=hsp n (Nat.le_refl _) hroom
  have hr:=run_append_room_cells (P:=P) w t ty e i ht hi g 0 n cap ad 1 c [.int .u8 (x:Nat)] (by simp[hsize]) hnews hone hroom
   (fun j hj=>by simp at hj;subst hj;simpa [hsize] using sp1) (fun j hj=>by simp at hj;subst hj;simpa [hsize] using sp2)
  refine⟨_,_,hr,?_,⟨rfl,rfl,rfl,?_,?_⟩⟩
  ·obtain⟨y,hy⟩:=Option.isSome_iff_exists.1 sp1
   simp only[hsize,Nat.mul_one,Nat.zero_add,World.setCells]
   refine⟨g,cap,rfl,hg1,by simpa using hg2,hroom,hcm,fun j hj=>?_,fun j hj1 hj2=>?_⟩
   ·by_cases e':j=n
    ·subst e'
     rw[World.cell?_setCell_same w _ _ hy]
     simp
    ·rw[World.cell?_setCell_other w _ _ _ (by simp<;>omega),hcl j (by omega)]
     simp[e']
   ·rw[World.cell?_setCell_other w _ _ _ (by simp<;>omega),World.frozen?_setCell]
    exact hsp j (by omega) hj2
  ·simp[hsize,World.setCells]
  ·intro k _ hk
   simp only[hsize,World.setCells]
   exact heap_setCell_other w _ k _ (by intro e';exact hk (by simp[Value.ownBlock,e']))
 ·have hcap:cap=n:=by omega
  have hr:=run_append_grow (P:=P) w t ty e i (.int .u8 0) ht hi hz ⟨g,0,none⟩ n cap ((List.range n).map fun j=>Value.int .u8 (f j:Nat)) (by simp[hsize])
   (fun j u hj=>by
    have hadd:(⟨g,0,none⟩:Addr).add j=⟨g,j,none⟩:=by unfold Addr.add;split<;>simp_all
    rw[hadd]
    by_cases hjn:j<n
    ·simp[hjn]at hj
     rw[hcl j hjn,hj]
    ·simp[hjn]at hj)
   ad 1 c [.int .u8 (x:Nat)] (by simp[hsize]) hnews (by omega) (by omega) (by rw[hby];exact growslice_fits (by omega) (by omega))
  have hge:=grownCap_ge w (n+1) cap e
  have hcm2:=grownCap_le_maxLen w (n+1) cap e (by unfold maxLen;omega)
  refine⟨_,_,hr,?_,⟨rfl,rfl,rfl,by simp,fun k hk _=>Below.heap_alloc w.drew _ k hk⟩⟩
  generalize grownCap w (n+1) cap e=cap' at hge hcm2
  have hcc:∀ (cs:Array Value) (j:Nat),(w.drew.alloc (.cells cs e)).cell? ⟨w.heap.size,j,none⟩=cs[j]?:=fun cs j=>World.cell?_alloc_new w.drew cs e j
  have hff:∀ (cs:Array Value) (j:Nat),(w.drew.alloc (.cells cs e)).frozen? ⟨w.heap.size,j,none⟩=false:=fun cs j=>World.frozen?_alloc_new w.drew cs e j
  refine⟨w.heap.size,cap',rfl,hbase,by simp,hge,hcm2,fun j hj=>?_,fun j hj1 hj2=>⟨?_,hff _ j⟩⟩
  ·rw[hcc]
   by_cases e':j=n
   ·subst e'
    simp[Array.getElem?_append]
   ·have hjn:j<n:=by omega
    simp[Array.getElem?_append,hjn,hj,e']
  ·rw[hcc,Array.getElem?_eq_getElem]
   ·rfl
   ·simp[size_zeroCells,Value.cells]
    omega
theorem wpList_append_b {P:Program} {w:World} {ops:Array Oper} {rest:List Oper} {o:Oper} {a:Act} {Q:Exit->Act->World->Prop} (hgd:o.guard=none) (s y:Operand) (t:TypeId)
  (ho:o.op=.call { callee:=.builtin .append,args:=#[s,y],argTypes:=#[t,t] })
  (base:Nat) (e:TypeId) (i:TypeInfo) (ht:P.underlying t=some (.slice e)) (hi:P.info? e=some i) (hz:i.zero=some (.int .u8 0)) (hsize:i.size=1) (hby:i.bytes=1)
  (v:Value) (n:Nat) (f:Nat->Nat) (hs:a.eval s=v) (hown:OwnB w base v n f) (ad:Addr) (c x:Nat) (hy:a.eval y=.slice (some ad) 1 c) (hx:w.cell? (ad.add 0)=some (.int .u8 (x:Nat)))
  (hn:n+1<=140737488355328) (hbase:base<=w.heap.size)
  (h:∀ v' w',OwnB w' base v' (n+1) (fun j=>if j=n then x else f j)->w.grownBy w' v.ownBlock->wpList P ops Q rest (a.put o.dst v') w'):wpList P ops Q (o :: rest) a w:=by
 refine wpList_plain hgd fun K hK=>?_
 obtain⟨v',w',hr,h2,h3⟩:=run_append_b (P:=P) w base t o.type e i ht hi hz hsize hby v n f hown ad c x hx hn hbase
 unfold Oper.wp execOp
 simp only[ho,resolve,invoke,builtin,Sem.run_bind,Sem.run_pure,Result.andThen_ok,List.map_toArray,List.map_cons,List.map_nil,hs,hy,hr]
 exact hK _ _ (h v' w' h2 h3)
end Go.Proofs.YtpddanmnlkcdpaaGreatDoor.Sh


/- Plain mathematics for spec.l02All: what is filled up byte by byte, and that a block looks at its 64 bytes alone. -/
namespace Go.Proofs.YtpddanmnlkcdpaaGreatDoor.Sh
theorem pad_first (t:ByteArray) (j:Nat) (h:j<t.size+1):(if j=t.size then 128 else bt t j)=pad t j:=by
 by_cases e:j=t.size
 ·subst e;simp[pad,padK]
 ·have:j<t.size:=by omega
  simp[pad,padK,e,this]
theorem pad_zero (t:ByteArray) (n:Nat) (h1:t.size<n) (h2:n+8<chunks t.size*64):pad t n=0:=by
 have a:¬n<t.size:=by omega
 have b:¬n=t.size:=by omega
 have c:¬chunks t.size*64<=n+8:=by omega
 simp[pad,padK,a,b,c]
theorem pad_len (t:ByteArray) (m:Nat) (hm:m<8):pad t (chunks t.size*64-8+m)=t.size*8/2 ^ (56-8*m)%256:=by
 have hr:=chunks_room t.size
 have a:¬chunks t.size*64-8+m<t.size:=by omega
 have b:¬chunks t.size*64-8+m=t.size:=by omega
 have c:chunks t.size*64<=chunks t.size*64-8+m+8:=by omega
 have d:chunks t.size*64-1-(chunks t.size*64-8+m)=7-m:=by omega
 have e:8*(7-m)=56-8*m:=by omega
 simp only[pad,padK,if_neg a,if_neg b,if_pos c,d,e]
theorem pad_app (t:ByteArray) (n x:Nat) (hx:x=pad t n) (j:Nat):(if j=n then x else pad t j)=pad t j:=by
 by_cases e:j=n
 ·subst e;simp[hx]
 ·simp[e]
theorem part_congr (B B':Nat->Nat) (h:∀ j,j<64->B j=B' j) (i:Nat) (hi:i<16):∀ j,j<=4->part B i j=part B' i j
 |0,_=>rfl
 |j+1,hj=>by simp only[part];rw[part_congr B B' h i hi j (by omega),h _ (by omega)]
theorem wv_congr (B B':Nat->Nat) (h:∀ j,j<64->B j=B' j) (i:Nat):wv B i=wv B' i:=by
 induction i using Nat.strongRecOn with
 |_ i ih =>
  by_cases hi:i<16
  ·rw[wv_lo B i hi,wv_lo B' i hi]
   simp only[word]
   rw[part_congr B B' h i hi 4 (Nat.le_refl _)]
  ·rw[wv_hi B i hi,wv_hi B' i hi,ih (i-16) (by omega),ih (i-15) (by omega),ih (i-7) (by omega),ih (i-2) (by omega)]
theorem run_congr (B B':Nat->Nat) (s:Nat->Int) (h:∀ j,j<64->B j=B' j):∀ k,run B s k=run B' s k
 |0=>rfl
 |k+1=>by simp only[run];rw[run_congr B B' s h k,wv_congr B B' h k]
theorem blk_congr (B B':Nat->Nat) (s:Nat->Int) (h:∀ j,j<64->B j=B' j):blk B s=blk B' s:=by
 funext j
 simp only[blk]
 rw[run_congr B B' s h 64]
theorem blk_str (t:ByteArray) (k:Nat) (s:Nat->Int):blk (bt (strF 64 (blkB t k))) s=blk (blkB t k) s :=
 blk_congr _ _ s (fun j hj=>bt_strF 64 _ j hj (blkB_lt t k j))
theorem firstF_range (j:Nat):0<=firstF j/\firstF j<4294967296:=by
 by_cases h:j<8
 ·have:j=0∨j=1∨j=2∨j=3∨j=4∨j=5∨j=6∨j=7:=by omega
  rcases this with rfl|rfl|rfl|rfl|rfl|rfl|rfl|rfl<;>decide
 ·simp[firstF,firstL,List.getD,List.getElem?_eq_none (show [1779033703,3144134277,1013904242,2773480762,1359893119,2600822924,528734635,(1541459225:Int)].length<=j by simp;omega)]
theorem shaS_range (t:ByteArray) (k j:Nat):0<=shaS t k j/\shaS t k j<4294967296:=by
 cases k with
 |zero=>exact firstF_range j
 |succ k=>simp only[shaS,blk];omega
end Go.Proofs.YtpddanmnlkcdpaaGreatDoor.Sh


/- A piece of a row of bytes as a text; a row of bytes that the call owns as a text; the digest's bytes, four by four. -/
namespace Go.Proofs.YtpddanmnlkcdpaaGreatDoor.Sh
open Go.RowKit
theorem OwnB.piece {P:Program} {w:World} {base g cap L:Nat} {f:Nat->Nat} (h:OwnB w base (.slice (some ⟨g,0,none⟩) L cap) L f) (off m c:Nat) (hm:off+m<=L) (hf:∀ j,f j<256) {src dst e:TypeId}
  (hs:P.underlying src=some (.slice e)) (he:P.underlying e=some (.int .u8)) (hd:P.underlying dst=some .string) :
  (convert src dst (.slice (some ⟨g,off,none⟩) m c)).run P w=.ok (.string (strF m (fun j=>f (off+j)))) w:=by
 obtain⟨g',cap',e1,_,_,_,_,hcl,_⟩:=h
 simp at e1
 obtain⟨rfl,rfl⟩:=e1
 have hl:((List.range m).map fun j=>UInt8.ofNat (f (off+j))).length=m:=by simp
 have:=run_convert_bytes_back (P:=P) w src dst e ⟨g,off,none⟩ c ((List.range m).map fun j=>UInt8.ofNat (f (off+j))) hs he hd (by
  intro j hj
  rw[hl]at hj
  have hadd:(⟨g,off,none⟩:Addr).add j=⟨g,off+j,none⟩:=by unfold Addr.add;split<;>simp_all
  rw[hadd,hcl (off+j) (by omega)]
  have h3:=hf (off+j)
  simp
  omega)
 rw[hl]at this
 exact this
theorem own_str {P:Program} {w:World} {base e:Nat} {v:Value} {n:Nat} {f:Nat->Nat} (h:w.ownsRow base e 1 v n (rowF .u8 n (fun j=>(f j:Nat))).toList) (hf:∀ j,f j<256) {src dst:TypeId}
  (hs:P.underlying src=some (.slice e)) (he:P.underlying e=some (.int .u8)) (hd:P.underlying dst=some .string) :
  (convert src dst v).run P w=.ok (.string (strF n f)) w:=by
 have hl:((List.range n).map fun j=>UInt8.ofNat (f j)).length=n:=by simp
 have hm:((List.range n).map fun j=>UInt8.ofNat (f j)).map Nu.bv=(rowF .u8 n (fun j=>(f j:Nat))).toList:=by
  simp only[rowF,List.map_map]
  apply List.map_congr_left
  intro j _
  have:=hf j
  simp[Nu.bv]
  omega
 have:=Nu.own_string (P:=P) (src:=src) (dst:=dst) ((List.range n).map fun j=>UInt8.ofNat (f j)) (by rw[hl,hm];exact h) hs he hd
 exact this
theorem outF_at (s:Nat->Int) (j r:Nat) (hr:r<4):((outF s (4*j+r):Nat):Int)=s j/2 ^ (24-8*r)%256:=by
 rw[<-outF_cast]
 have h1:(4*j+r)/4=j:=by omega
 have h2:(4*j+r)%4=r:=by omega
 rw[h1,h2]
theorem out_four (s:Nat->Int) (j:Nat) (x0 x1 x2 x3:Int) (h0:x0=s j/16777216%256) (h1:x1=s j/65536%256) (h2:x2=s j/256%256) (h3:x3=s j%256) :
  (rowF .u8 (4*j) (fun q=>(outF s q:Nat))).toList++[.int .u8 x0,.int .u8 x1,.int .u8 x2,.int .u8 x3]=(rowF .u8 (4*(j+1)) (fun q=>(outF s q:Nat))).toList:=by
 have e0:x0=((outF s (4*j):Nat):Int):=by rw[h0];exact(outF_at s j 0 (by decide)).symm
 have e1:x1=((outF s (4*j+1):Nat):Int):=by rw[h1];exact(outF_at s j 1 (by decide)).symm
 have e2:x2=((outF s (4*j+2):Nat):Int):=by rw[h2];exact(outF_at s j 2 (by decide)).symm
 have e3:x3=((outF s (4*j+3):Nat):Int):=by
  rw[h3,outF_at s j 3 (by decide)]
  simp
 rw[e0,e1,e2,e3,show 4*(j+1)=4*j+1+1+1+1 by omega,<-rowF_snoc,<-rowF_snoc,<-rowF_snoc,<-rowF_snoc]
 simp
theorem four_new (W:World) (a b c d:Value) (t:TypeId):∀ (j:Nat) (u:Value),[a,b,c,d][j]? = some u->(W.alloc (.cells #[a,b,c,d] t)).cell? ((⟨W.heap.size,0,none⟩:Addr).add j)=some u:=by
 intro j u hj
 match j,hj with
 |0,hj=>simp at hj;subst hj;simp[Addr.add]
 |1,hj=>simp at hj;subst hj;simp[Addr.add]
 |2,hj=>simp at hj;subst hj;simp[Addr.add]
 |3,hj=>simp at hj;subst hj;simp[Addr.add]
end Go.Proofs.YtpddanmnlkcdpaaGreatDoor.Sh


/- A slice of texts that came in. -/
namespace Go.Proofs.YtpddanmnlkcdpaaGreatDoor.St
open Go.RowKit
def IsStrs (w:World) (a:Option Addr) (len cap:Nat) (ss:List ByteArray):Prop :=
 (a=none/\len=0/\cap=0/\ss=[]) ∨
 ∃ x,a=some x/\len<=cap/\cap<=maxLen/\ss.length=cap/\(∀ i,i<ss.length->w.cell? (x.add i)=some (.string (ss.getD i ByteArray.empty)))/\∀ s∈ss,s.size<=maxLen
end Go.Proofs.YtpddanmnlkcdpaaGreatDoor.St


/- An append of some things onto a row of the call's own, or onto one that is empty and has no room: rows of another element type stay as they were. -/
namespace Go.Proofs.YtpddanmnlkcdpaaGreatDoor.Ap
open Go.RowKit
def KeepE (e:TypeId) (W W':World):Prop:=∀ (g:Nat) (cur:Array Value) (t:TypeId),t≠e->W.heap[g]? = some (.cells cur t (0,0))->W'.heap[g]? = some (.cells cur t (0,0))
theorem KeepE.below {e:TypeId} {W W':World} (h:Below W.heap.size W W'):KeepE e W W':=fun g _ _ _ hg=>(h.block g (Array.getElem?_eq_some_iff.1 hg).1).trans hg
theorem keepE_own {W W':World} {base size n:Nat} {e:TypeId} {v:Value} {xs:List Value} (h:W.grownBy W' v.ownBlock) (ho:W.ownsRow base e size v n xs):KeepE e W W':=fun g cur t ht hg=>by
 rw[h.block g (Array.getElem?_eq_some_iff.1 hg).1 (by
  intro hk
  obtain⟨_,ho⟩:=ho
  rcases ho with⟨hv,_⟩|⟨k,cap,cs,hv,_,hb,_⟩
  ·subst hv
   simp[Value.ownBlock]at hk
  ·subst hv
   simp[Value.ownBlock]at hk
   subst hk
   rw[hb]at hg
   simp at hg
   exact ht hg.2.symm)]
 exact hg
theorem run_append_own0k {P:Program} (w:World) (base:Nat) (t ty e:TypeId) (i:TypeInfo) (z:Value) (size bytes:Nat) (ht:P.underlying t=some (.slice e)) (hi:P.info? e=some i) (hz:i.zero=some z)
  (hsize:i.size=size) (hby:i.bytes=bytes) (hzs:z.cells.size=size) (hsz:0<size)
  (v:Value) (n:Nat) (xs:List Value) (hown:Own0 w base e size v n xs)
  (a:Addr) (m c:Nat) (news:List Value) (hl:news.length=m*size) (hnews:∀ j u,news[j]? = some u->w.cell? (a.add j)=some u) (h1:∀ u∈news,u.oneCell'=true) (hm:0<m)
  (h63:n+m<=maxLen) (hbytes:(n+m)*bytes<=140737488355328) (hbase:base<=w.heap.size) :
  ∃ v' w',(Builtin.append_ #[t,t] ty #[v,.slice (some a) m c]).run P w=.ok v' w'/\w'.ownsRow base e size v' (n+m) (xs++news)/\(∀ B,B<=base->Below B w w')/\KeepE e w w':=by
 rcases hown with⟨b,rfl,rfl,rfl⟩|hown
 ·subst hsize
  subst hby
  have hsmall:m<=9223372036854775807:=by simp only[maxLen]at h63;omega
  have hr:=run_append_grow (P:=P) w t ty e i z ht hi hz b 0 0 [] (by simp) (by simp) a m c news hl hnews (by omega) (by omega) (growslice_fits (by omega) hbytes)
  refine⟨_,_,hr,?_,fun B hB=>?_,KeepE.below (((Below.refl _ w).drew).alloc (Nat.le_refl _) _)⟩
  ·have hge:=grownCap_ge w (0+m) 0 e
   have hcm:grownCap w (0+m) 0 e<=maxLen:=grownCap_le_maxLen w (0+m) 0 e h63
   refine⟨by simpa using hl,.inr ⟨w.heap.size,_,_,rfl,hbase,heap_alloc_new w.drew _,hge,hcm,?_,?_⟩⟩
   ·simp only[Array.size_append,List.size_toArray,size_zeroCells,hzs,hl,List.length_nil]
    rw[Nat.zero_add,<-Nat.add_mul]
    congr 1
    omega
   ·simp only[Array.toList_append,List.nil_append]
    rw[show (0+m)*i.size=news.length by rw[Nat.zero_add,hl]]
    exact List.take_left
  ·exact((Below.refl B w).drew).alloc (by simp;omega) _
 ·obtain⟨v',w',hr,h2,h3,_⟩:=run_append_own (P:=P) w base t ty e i z size bytes ht hi hz hsize hby hzs hsz v n xs hown a m c news hl hnews h1 h63 hbytes hbase
  refine⟨v',w',hr,h2,fun B hB=>(Below.refl B w).grown h3 (by omega) ?_,keepE_own h3 hown⟩
  intro k hk
  exact Nat.le_trans hB (hown.lt k hk).1
theorem wpList_append_own0k {P:Program} (w:World) {ops:Array Oper} {rest:List Oper} {o:Oper} {a:Act} {Q:Exit->Act->World->Prop} (hgd:o.guard=none) (s x:Operand) (t:TypeId)
  (ho:o.op=.call { callee:=.builtin .append,args:=#[s,x],argTypes:=#[t,t] })
  (base:Nat) (e:TypeId) (i:TypeInfo) (z:Value) (size bytes:Nat) (ht:P.underlying t=some (.slice e)) (hi:P.info? e=some i) (hz:i.zero=some z)
  (hsize:i.size=size) (hby:i.bytes=bytes) (hzs:z.cells.size=size) (hsz:0<size)
  (v:Value) (n:Nat) (xs:List Value) (hs:a.eval s=v) (hown:Own0 w base e size v n xs)
  (ad:Addr) (m c:Nat) (news:List Value) (hx:a.eval x=.slice (some ad) m c) (hl:news.length=m*size) (hnews:∀ j u,news[j]? = some u->w.cell? (ad.add j)=some u) (h1:∀ u∈news,u.oneCell'=true) (hm:0<m)
  (h63:n+m<=maxLen) (hbytes:(n+m)*bytes<=140737488355328) (hbase:base<=w.heap.size)
  (h:∀ v' w',w'.ownsRow base e size v' (n+m) (xs++news)->(∀ B,B<=base->Below B w w')->KeepE e w w'->wpList P ops Q rest (a.put o.dst v') w'):wpList P ops Q (o :: rest) a w :=
 wpList_plain hgd fun _ hK=>by
  obtain⟨v',w',hr,h2,h3,h4⟩:=run_append_own0k (P:=P) w base t o.type e i z size bytes ht hi hz hsize hby hzs hsz v n xs hown ad m c news hl hnews h1 hm h63 hbytes hbase
  unfold Oper.wp execOp
  simp only[ho,resolve,invoke,builtin,Sem.run_bind,Sem.run_pure,Result.andThen_ok,List.map_toArray,List.map_cons,List.map_nil,hs,hx,hr]
  exact hK _ _ (h v' w' h2 h3 h4)
end Go.Proofs.YtpddanmnlkcdpaaGreatDoor.Ap

