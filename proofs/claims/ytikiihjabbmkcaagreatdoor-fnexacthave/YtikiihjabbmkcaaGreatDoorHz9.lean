/- Texts put together: ShaPad, ShaFill, ShaSum, ShaLaws2. -/
import Derived.Test.YtikiihjabbmkcaaGreatDoorHz8
import Derived.Test.YtikiihjabbmkcaaGreatDoorHz3
import Derived.Test.YtikiihjabbmkcaaGreatDoorHz2
import Derived.StillTailTactics
set_option maxRecDepth 100000
set_option maxHeartbeats 8000000
/- Plain mathematics of SHA-256: a text filled up to whole blocks. -/
namespace Go.Proofs.YtikiihjabbmkcaaGreatDoor.Sh
def chunks (m:Nat):Nat:=(m+72)/64
def padK (t:ByteArray) (k j:Nat):Nat :=
 if j<t.size then bt t j else if j=t.size then 128 else if chunks t.size*64<=j+k then t.size*8/2 ^ (8*(chunks t.size*64-1-j))%256 else 0
def pad (t:ByteArray) (j:Nat):Nat:=padK t 8 j
theorem padK_lt (t:ByteArray) (k j:Nat):padK t k j<256:=by
 unfold padK
 have:=bt_lt t j
 split
 ·exact this
 ·split
  ·decide
  ·split
   ·exact Nat.mod_lt _ (by decide)
   ·decide
theorem pad_lt (t:ByteArray) (j:Nat):pad t j<256:=padK_lt t 8 j
theorem chunks_room (m:Nat):m+9<=chunks m*64:=by unfold chunks;omega
theorem chunks_tight (m:Nat):chunks m*64<=m+72:=by unfold chunks;omega
theorem pad_start (t:ByteArray) (j:Nat):j<chunks t.size*64->upd (fun j=>if j<t.size then ((bt t j:Nat):Int) else 0) t.size 128 j=((padK t 0 j:Nat):Int):=by
 intro hj
 unfold upd padK
 by_cases e:j=t.size
 ·subst e;simp
 ·by_cases h:j<t.size
  ·simp[e,h]
  ·have:¬chunks t.size*64<=j:=by omega
   simp[e,h,this]
theorem pad_next (t:ByteArray) (k:Nat) (hk:k<8) (v:Int) (hv:v=((t.size*8/2 ^ (8*k)%256:Nat):Int)) (j:Nat) (hj:j<chunks t.size*64) :
  upd (fun j=>((padK t k j:Nat):Int)) (chunks t.size*64-1-k) v j=((padK t (k+1) j:Nat):Int):=by
 subst hv
 have hr:=chunks_room t.size
 unfold upd padK
 by_cases e:j=chunks t.size*64-1-k
 ·have h1:¬j<t.size:=by omega
  have h2:¬j=t.size:=by omega
  have h3:chunks t.size*64<=j+(k+1):=by omega
  have h4:chunks t.size*64-1-j=k:=by omega
  rw[if_pos e,if_neg h1,if_neg h2,if_pos h3,h4]
 ·rw[if_neg e]
  have:(chunks t.size*64<=j+(k+1))=(chunks t.size*64<=j+k):=propext ⟨fun h=>by omega,fun h=>by omega⟩
  simp only[this]
end Go.Proofs.YtikiihjabbmkcaaGreatDoor.Sh


namespace Go.Proofs.YtikiihjabbmkcaaGreatDoor.Sh
open Go.RowKit
open Nu (bv hideJ run_copy_string)
theorem fill_any (t:ByteArray) (w:World) (ht:t.size<=1048576) :
  Calls Tryz.prog 239 #[.string t] w fun e w'=>e=.returned (.slice (some ⟨w.heap.size,0,none⟩) (chunks t.size*64) (chunks t.size*64)) /\
   IsB w' w.heap.size 5 .u8 (chunks t.size*64) (fun j=>(pad t j:Nat))/\Below w.heap.size w w':=by
 obtain⟨i0,hi,hz0,hz1,hz2⟩:=info_parts Nu.Tryz.infoJ5
 obtain⟨ch,hch⟩:∃ c,c=chunks t.size:=⟨_,rfl⟩
 have hr:=chunks_room t.size
 have hti:=chunks_tight t.size
 have hc:((t.size:Int)+1+8+64-1)/64=(ch:Int):=by rw[hch];unfold chunks;omega
 have hcw:((ch:Int)*64).toNat=ch*64:=by omega
 rw[<-hch]at hr hti ⊢
 have HCH:=hideJ hch
 clear hch
 go_enter Tryz.func239,Tryz.ntmps239
 go_wp2_with (at_make;refine wpList_make_full _ rfl (.tmp 15) (.tmp 15) 168 rfl w.heap.size 5 i0 (.int .u8 0) 1 Tryz.underlying168 hi hz0 hz1 .i64 .i64 _ _ (ch*64) rfl rfl (by simp) (by simp) (by rw[hz2];omega) (by unfold maxLen;omega) (Nat.le_refl _) ?_;intro w1 hown1 hgrow1;have hrow:=made_row hown1;have hbel1:=(Below.refl w.heap.size w).grown hgrow1 (Nat.le_refl _) (by simp);obtain⟨w2,c1,hrow2,k1,k2,k3,k4,k5⟩:=run_copy_string (P:=Tryz.prog) w1 168 9 3 5 (some ⟨w.heap.size,0,none⟩) w.heap.size 0 (ch*64) (ch*64) t (rowF .u8 (ch*64) (fun _=>0)).toList 5 Tryz.underlying168 Nu.Tryz.sizeJ5 (by unfold IsB at hrow;simpa using hrow) (fun _=>rfl) (by omega) (by simp[rowF_size];omega);rw[splice_row _ _ _ (by omega)]at hrow2;have hrow3:IsB w2 w.heap.size 5 .u8 (ch*64) (fun j=>if j<t.size then (bt t j:Nat) else 0):=hrow2;have HB:=hideJ hrow3;have HL:=hideJ (Nu.copy_below hbel1 k1 k2 k3 k4 k5);have hce:=hrow3.cell (j:=t.size) (by omega);have hfz:=hrow3.frozen t.size;clear hown1 hgrow1 hrow hbel1 k1 k2 k3 k4 k5 hrow2 hrow3)
 go_loopw [28] (fun i wr=>∃ k:Nat,i=.int .i64 k/\k<=8/\IsB wr w.heap.size 5 .u8 (ch*64) (fun j=>(padK t k j:Nat))/\Below w.heap.size w wr) (fun i _=>8-(intOf i).toNat)
 case atStart =>
  refine⟨0,rfl,by omega,IsB.congr (HB.out.set t.size 128) (fun j hj=>pad_start t j (by rw[<-HCH.out];exact hj)),HL.out.setCell (Nat.le_refl _) _⟩
 case round =>
  obtain⟨k,rfl,hk,h1,hbel⟩:=hrel
  have G1:=hideJ h1
  by_cases hlt:k<8
  ·have e1:((ch:Int)*64-1-(k:Int)).toNat=ch*64-1-k:=by omega
   have ce:=h1.cell (j:=ch*64-1-k) (by omega)
   have cf:=h1.frozen (ch*64-1-k)
   have HV:Hid (((t.size:Int)*8/2 ^ (8*k))%256=((t.size*8/2 ^ (8*k)%256:Nat):Int)):=by
    unfold Hid
    simp
   clear h1
   go_wp2_with fail
   go_roundw
   case rel =>
    refine⟨k+1,by go_num,by omega,IsB.congr (G1.out.set (ch*64-1-k) _) (fun j hj=>?_),hbel.setCell (Nat.le_refl _) _⟩
    rw[HCH.out]at hj ⊢
    exact pad_next t k hlt _ HV.out j hj
   case measure=>simp[intOf];omega
  ·obtain rfl:k=8:=by omega
   clear h1
   go_wp2_with fail
   go_ret
   exact⟨rfl,G1.out,hbel⟩
end Go.Proofs.YtikiihjabbmkcaaGreatDoor.Sh


/- Plain mathematics of SHA-256: the digest of a text. -/
namespace Go.Proofs.YtikiihjabbmkcaaGreatDoor.Sh
def blkB (t:ByteArray) (k j:Nat):Nat:=pad t (64*k+j)
theorem blkB_lt (t:ByteArray) (k j:Nat):blkB t k j<256:=pad_lt t _
def shaS (t:ByteArray):Nat->Nat->Int
 |0=>firstF
 |k+1=>blk (blkB t k) (shaS t k)
def outF (s:Nat->Int) (j:Nat):Nat:=(s (j/4)/2 ^ (24-8*(j%4))%256).toNat
theorem outF_lt (s:Nat->Int) (j:Nat):outF s j<256:=by unfold outF;omega
def sha (t:ByteArray):ByteArray:=strF 32 (outF (shaS t (chunks t.size)))
theorem sha_size (t:ByteArray):(sha t).size=32:=strF_size 32 _
def outK (s:Nat->Int) (m j:Nat):Nat:=if j<m then outF s j else 0
theorem outK_next (s:Nat->Int) (m j:Nat) (v:Int) (hv:v=((outF s m:Nat):Int)):upd (fun j=>((outK s m j:Nat):Int)) m v j=((outK s (m+1) j:Nat):Int):=by
 subst hv
 unfold upd outK
 by_cases e:j=m
 ·subst e;simp
 ·have:(j<m+1)=(j<m):=propext ⟨fun h=>by omega,fun h=>by omega⟩
  simp[e,this]
theorem outK_all (s:Nat->Int):strF 32 (outK s 32)=strF 32 (outF s):=strF_congr 32 _ _ (fun j hj=>by simp[outK,hj])
theorem outK_lt (s:Nat->Int) (m j:Nat):outK s m j<256:=by
 unfold outK
 split
 ·exact outF_lt s j
 ·decide
theorem outF_cast (s:Nat->Int) (m:Nat):s (m/4)/2 ^ (24-8*(m%4))%256=((outF s m:Nat):Int):=by
 unfold outF
 rw[Int.toNat_of_nonneg]
 omega
end Go.Proofs.YtikiihjabbmkcaaGreatDoor.Sh


/- A law on one operation in the still head of a region that draws its order: a whole array of numbers loaded out of its block. -/
namespace Go.Proofs.YtikiihjabbmkcaaGreatDoor.Sh
open Go.RowKit
theorem wpStill_load_row {P:Program} {w:World} {ops:Array Oper} {rest:List Oper} {a:Act} {Q:Act->Prop} {d:Tmp} {p:Operand} {ty tt:TypeId} {pos:String} {af:Array Edge}
  {g:Nat} {t:TypeId} {k:IntKind} {n:Nat} {f:Nat->Int} {e:TypeId} (hb:IsB w g t k n f) (hu:P.underlying ty=some (.array n e)) (hi:(P.info? ty).map (·.size)=some n)
  (hp:a.eval p=.pointer (some ⟨g,0,none⟩)) (h:wpStill P ops w Q rest (a.put (some d) (.agg (rowF k n f)))) :
  wpStill P ops w Q (⟨some d,.load ty p,tt,pos,af,none⟩ :: rest) a:=by
 refine wpStill_step fun K hK=>?_
 have hl:=hb.loadAt (P:=P) ty e hu hi
 simp[Region.wanted,Oper.still,Oper.stillUpon,execOp,hp,hl,Result.andThen]
 exact hK _ h
end Go.Proofs.YtikiihjabbmkcaaGreatDoor.Sh

