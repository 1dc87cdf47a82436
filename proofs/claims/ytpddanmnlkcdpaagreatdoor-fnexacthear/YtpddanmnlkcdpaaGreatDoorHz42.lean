/- Texts put together: ShaFill, ShaAllB, ShaOwn2, ShaAllA, PmInsO, PmInsI. -/
import Derived.Test.YtpddanmnlkcdpaaGreatDoorHz22
import Derived.Test.YtpddanmnlkcdpaaGreatDoorHz30
import Derived.Test.YtpddanmnlkcdpaaGreatDoorHz0
import Derived.BigRegion
import Derived.Test.YtpddanmnlkcdpaaGreatDoorHz18
import Derived.Lib.AppendZerosOnto
import Derived.Lib.Overlaps
import Derived.Laws.Externs
import Derived.Laws.NewBlocks
import Derived.Laws.OwnMore
import Derived.Shelf.RegionOpenPlain
set_option maxRecDepth 100000
set_option maxHeartbeats 8000000
namespace Go.Proofs.YtpddanmnlkcdpaaGreatDoor.Sh
open Go.RowKit
open Nu (bv hideJ run_copy_string)
theorem fill_any (t:ByteArray) (w:World) (ht:t.size<=1048576) :
  Calls Tryz.prog 235 #[.string t] w fun e w'=>e=.returned (.slice (some ⟨w.heap.size,0,none⟩) (chunks t.size*64) (chunks t.size*64)) /\
   IsB w' w.heap.size 5 .u8 (chunks t.size*64) (fun j=>(pad t j:Nat))/\Below w.heap.size w w':=by
 obtain⟨i0,hi,hz0,hz1,hz2⟩:=info_parts Nu.Tryz.infoJ5
 obtain⟨ch,hch⟩:∃ c,c=chunks t.size:=⟨_,rfl⟩
 have hr:=chunks_room t.size
 have hti:=chunks_tight t.size
 have hc:((t.size:Int)+1+8+64-1)/64=(ch:Int):=by rw[hch];unfold chunks;omega
 have hcw:((ch:Int)*64).toNat=ch*64:=by omega
 rw[<-hch]at hr hti ⊢
 have HCH:=hideJ hch
 clear hch
 go_enter Tryz.func235,Tryz.ntmps235
 go_wp2_with (at_make;refine wpList_make_full _ rfl (.tmp 15) (.tmp 15) 168 rfl w.heap.size 5 i0 (.int .u8 0) 1 Tryz.underlying168 hi hz0 hz1 .i64 .i64 _ _ (ch*64) rfl rfl (by simp) (by simp) (by rw[hz2];omega) (by unfold maxLen;omega) (Nat.le_refl _) ?_;intro w1 hown1 hgrow1;have hrow:=made_row hown1;have hbel1:=(Below.refl w.heap.size w).grown hgrow1 (Nat.le_refl _) (by simp);obtain⟨w2,c1,hrow2,k1,k2,k3,k4,k5⟩:=run_copy_string (P:=Tryz.prog) w1 168 9 3 5 (some ⟨w.heap.size,0,none⟩) w.heap.size 0 (ch*64) (ch*64) t (rowF .u8 (ch*64) (fun _=>0)).toList 5 Tryz.underlying168 Nu.Tryz.sizeJ5 (by unfold IsB at hrow;simpa using hrow) (fun _=>rfl) (by omega) (by simp[rowF_size];omega);rw[splice_row _ _ _ (by omega)]at hrow2;have hrow3:IsB w2 w.heap.size 5 .u8 (ch*64) (fun j=>if j<t.size then (bt t j:Nat) else 0):=hrow2;have HB:=hideJ hrow3;have HL:=hideJ (Nu.copy_below hbel1 k1 k2 k3 k4 k5);have hce:=hrow3.cell (j:=t.size) (by omega);have hfz:=hrow3.frozen t.size;clear hown1 hgrow1 hrow hbel1 k1 k2 k3 k4 k5 hrow2 hrow3)
 go_loopw [28] (fun i wr=>∃ k:Nat,i=.int .i64 k/\k<=8/\IsB wr w.heap.size 5 .u8 (ch*64) (fun j=>(padK t k j:Nat))/\Below w.heap.size w wr) (fun i _=>8-(intOf i).toNat)
 case atStart =>
  refine⟨0,rfl,by omega,IsB.congr (HB.out.set t.size 128) (fun j hj=>pad_start t j (by rw[<-HCH.out];exact hj)),HL.out.setCell (Nat.le_refl _) _⟩
 case round =>
  obtain⟨k,rfl,hk,h1,hbel⟩:=hrel
  have G1:=hideJ h1
  by_cases hlt:k<8
  ·have e1:((ch:Int)*64-1-(k:Int)).toNat=ch*64-1-k:=by omega
   have ce:=h1.cell (j:=ch*64-1-k) (by omega)
   have cf:=h1.frozen (ch*64-1-k)
   have HV:Hid (((t.size:Int)*8/2 ^ (8*k))%256=((t.size*8/2 ^ (8*k)%256:Nat):Int)):=by
    unfold Hid
    simp
   clear h1
   go_wp2_with fail
   go_roundw
   case rel =>
    refine⟨k+1,by go_num,by omega,IsB.congr (G1.out.set (ch*64-1-k) _) (fun j hj=>?_),hbel.setCell (Nat.le_refl _) _⟩
    rw[HCH.out]at hj ⊢
    exact pad_next t k hlt _ HV.out j hj
   case measure=>simp[intOf];omega
  ·obtain rfl:k=8:=by omega
   clear h1
   go_wp2_with fail
   go_ret
   exact⟨rfl,G1.out,hbel⟩
end Go.Proofs.YtpddanmnlkcdpaaGreatDoor.Sh


/- Plain mathematics for spec.l02All: what is filled up byte by byte, and that a block looks at its 64 bytes alone. -/
namespace Go.Proofs.YtpddanmnlkcdpaaGreatDoor.Sh
theorem pad_first (t:ByteArray) (j:Nat) (h:j<t.size+1):(if j=t.size then 128 else bt t j)=pad t j:=by
 by_cases e:j=t.size
 ·subst e;simp[pad,padK]
 ·have:j<t.size:=by omega
  simp[pad,padK,e,this]
theorem pad_zero (t:ByteArray) (n:Nat) (h1:t.size<n) (h2:n+8<chunks t.size*64):pad t n=0:=by
 have a:¬n<t.size:=by omega
 have b:¬n=t.size:=by omega
 have c:¬chunks t.size*64<=n+8:=by omega
 simp[pad,padK,a,b,c]
theorem pad_len (t:ByteArray) (m:Nat) (hm:m<8):pad t (chunks t.size*64-8+m)=t.size*8/2 ^ (56-8*m)%256:=by
 have hr:=chunks_room t.size
 have a:¬chunks t.size*64-8+m<t.size:=by omega
 have b:¬chunks t.size*64-8+m=t.size:=by omega
 have c:chunks t.size*64<=chunks t.size*64-8+m+8:=by omega
 have d:chunks t.size*64-1-(chunks t.size*64-8+m)=7-m:=by omega
 have e:8*(7-m)=56-8*m:=by omega
 simp only[pad,padK,if_neg a,if_neg b,if_pos c,d,e]
theorem pad_app (t:ByteArray) (n x:Nat) (hx:x=pad t n) (j:Nat):(if j=n then x else pad t j)=pad t j:=by
 by_cases e:j=n
 ·subst e;simp[hx]
 ·simp[e]
theorem part_congr (B B':Nat->Nat) (h:∀ j,j<64->B j=B' j) (i:Nat) (hi:i<16):∀ j,j<=4->part B i j=part B' i j
 |0,_=>rfl
 |j+1,hj=>by simp only[part];rw[part_congr B B' h i hi j (by omega),h _ (by omega)]
theorem wv_congr (B B':Nat->Nat) (h:∀ j,j<64->B j=B' j) (i:Nat):wv B i=wv B' i:=by
 induction i using Nat.strongRecOn with
 |_ i ih =>
  by_cases hi:i<16
  ·rw[wv_lo B i hi,wv_lo B' i hi]
   simp only[word]
   rw[part_congr B B' h i hi 4 (Nat.le_refl _)]
  ·rw[wv_hi B i hi,wv_hi B' i hi,ih (i-16) (by omega),ih (i-15) (by omega),ih (i-7) (by omega),ih (i-2) (by omega)]
theorem run_congr (B B':Nat->Nat) (s:Nat->Int) (h:∀ j,j<64->B j=B' j):∀ k,run B s k=run B' s k
 |0=>rfl
 |k+1=>by simp only[run];rw[run_congr B B' s h k,wv_congr B B' h k]
theorem blk_congr (B B':Nat->Nat) (s:Nat->Int) (h:∀ j,j<64->B j=B' j):blk B s=blk B' s:=by
 funext j
 simp only[blk]
 rw[run_congr B B' s h 64]
theorem blk_str (t:ByteArray) (k:Nat) (s:Nat->Int):blk (bt (strF 64 (blkB t k))) s=blk (blkB t k) s :=
 blk_congr _ _ s (fun j hj=>bt_strF 64 _ j hj (blkB_lt t k j))
theorem firstF_range (j:Nat):0<=firstF j/\firstF j<4294967296:=by
 by_cases h:j<8
 ·have:j=0∨j=1∨j=2∨j=3∨j=4∨j=5∨j=6∨j=7:=by omega
  rcases this with rfl|rfl|rfl|rfl|rfl|rfl|rfl|rfl<;>decide
 ·simp[firstF,firstL,List.getD,List.getElem?_eq_none (show [1779033703,3144134277,1013904242,2773480762,1359893119,2600822924,528734635,(1541459225:Int)].length<=j by simp;omega)]
theorem shaS_range (t:ByteArray) (k j:Nat):0<=shaS t k j/\shaS t k j<4294967296:=by
 cases k with
 |zero=>exact firstF_range j
 |succ k=>simp only[shaS,blk];omega
end Go.Proofs.YtpddanmnlkcdpaaGreatDoor.Sh


/- A piece of a row of bytes as a text; a row of bytes that the call owns as a text; the digest's bytes, four by four. -/
namespace Go.Proofs.YtpddanmnlkcdpaaGreatDoor.Sh
open Go.RowKit
theorem OwnB.piece {P:Program} {w:World} {base g cap L:Nat} {f:Nat->Nat} (h:OwnB w base (.slice (some ⟨g,0,none⟩) L cap) L f) (off m c:Nat) (hm:off+m<=L) (hf:∀ j,f j<256) {src dst e:TypeId}
  (hs:P.underlying src=some (.slice e)) (he:P.underlying e=some (.int .u8)) (hd:P.underlying dst=some .string) :
  (convert src dst (.slice (some ⟨g,off,none⟩) m c)).run P w=.ok (.string (strF m (fun j=>f (off+j)))) w:=by
 obtain⟨g',cap',e1,_,_,_,_,hcl,_⟩:=h
 simp at e1
 obtain⟨rfl,rfl⟩:=e1
 have hl:((List.range m).map fun j=>UInt8.ofNat (f (off+j))).length=m:=by simp
 have:=run_convert_bytes_back (P:=P) w src dst e ⟨g,off,none⟩ c ((List.range m).map fun j=>UInt8.ofNat (f (off+j))) hs he hd (by
  intro j hj
  rw[hl]at hj
  have hadd:(⟨g,off,none⟩:Addr).add j=⟨g,off+j,none⟩:=by unfold Addr.add;split<;>simp_all
  rw[hadd,hcl (off+j) (by omega)]
  have h3:=hf (off+j)
  simp
  omega)
 rw[hl]at this
 exact this
theorem own_str {P:Program} {w:World} {base e:Nat} {v:Value} {n:Nat} {f:Nat->Nat} (h:w.ownsRow base e 1 v n (rowF .u8 n (fun j=>(f j:Nat))).toList) (hf:∀ j,f j<256) {src dst:TypeId}
  (hs:P.underlying src=some (.slice e)) (he:P.underlying e=some (.int .u8)) (hd:P.underlying dst=some .string) :
  (convert src dst v).run P w=.ok (.string (strF n f)) w:=by
 have hl:((List.range n).map fun j=>UInt8.ofNat (f j)).length=n:=by simp
 have hm:((List.range n).map fun j=>UInt8.ofNat (f j)).map Nu.bv=(rowF .u8 n (fun j=>(f j:Nat))).toList:=by
  simp only[rowF,List.map_map]
  apply List.map_congr_left
  intro j _
  have:=hf j
  simp[Nu.bv]
  omega
 have:=Nu.own_string (P:=P) (src:=src) (dst:=dst) ((List.range n).map fun j=>UInt8.ofNat (f j)) (by rw[hl,hm];exact h) hs he hd
 exact this
theorem outF_at (s:Nat->Int) (j r:Nat) (hr:r<4):((outF s (4*j+r):Nat):Int)=s j/2 ^ (24-8*r)%256:=by
 rw[<-outF_cast]
 have h1:(4*j+r)/4=j:=by omega
 have h2:(4*j+r)%4=r:=by omega
 rw[h1,h2]
theorem out_four (s:Nat->Int) (j:Nat) (x0 x1 x2 x3:Int) (h0:x0=s j/16777216%256) (h1:x1=s j/65536%256) (h2:x2=s j/256%256) (h3:x3=s j%256) :
  (rowF .u8 (4*j) (fun q=>(outF s q:Nat))).toList++[.int .u8 x0,.int .u8 x1,.int .u8 x2,.int .u8 x3]=(rowF .u8 (4*(j+1)) (fun q=>(outF s q:Nat))).toList:=by
 have e0:x0=((outF s (4*j):Nat):Int):=by rw[h0];exact(outF_at s j 0 (by decide)).symm
 have e1:x1=((outF s (4*j+1):Nat):Int):=by rw[h1];exact(outF_at s j 1 (by decide)).symm
 have e2:x2=((outF s (4*j+2):Nat):Int):=by rw[h2];exact(outF_at s j 2 (by decide)).symm
 have e3:x3=((outF s (4*j+3):Nat):Int):=by
  rw[h3,outF_at s j 3 (by decide)]
  simp
 rw[e0,e1,e2,e3,show 4*(j+1)=4*j+1+1+1+1 by omega,<-rowF_snoc,<-rowF_snoc,<-rowF_snoc,<-rowF_snoc]
 simp
theorem four_new (W:World) (a b c d:Value) (t:TypeId):∀ (j:Nat) (u:Value),[a,b,c,d][j]? = some u->(W.alloc (.cells #[a,b,c,d] t)).cell? ((⟨W.heap.size,0,none⟩:Addr).add j)=some u:=by
 intro j u hj
 match j,hj with
 |0,hj=>simp at hj;subst hj;simp[Addr.add]
 |1,hj=>simp at hj;subst hj;simp[Addr.add]
 |2,hj=>simp at hj;subst hj;simp[Addr.add]
 |3,hj=>simp at hj;subst hj;simp[Addr.add]
end Go.Proofs.YtpddanmnlkcdpaaGreatDoor.Sh


namespace Go.Proofs.YtpddanmnlkcdpaaGreatDoor.Sh
open Go.RowKit
theorem hideA {p:Prop} (h:p):Hid p:=h
theorem app_own {B:Nat} {w wr w1:World} {v:Value} {n:Nat} {f:Nat->Nat} {o:Obj} (hbel:Below B w wr) (hB:B<=wr.heap.size) (hown:OwnB wr B v n f) (hgrow:(wr.alloc o).grownBy w1 v.ownBlock):Below B w w1:=by
 obtain⟨g,cap,rfl,hg,_⟩:=hown
 refine(hbel.alloc hB o).grown hgrow (by simp;omega) ?_
 intro k hk
 simp[Value.ownBlock]at hk
 omega
theorem four_cell (a b c d:Int):∀ u∈[Value.int .u8 a,Value.int .u8 b,Value.int .u8 c,Value.int .u8 d],u.oneCell'=true:=by
 intro u hu
 simp at hu
 rcases hu with rfl|rfl|rfl|rfl<;>rfl
theorem cell_one (W:World) (x:Value) (t:TypeId):(W.alloc (.cells #[x] t)).cell? ((⟨W.heap.size,0,none⟩:Addr).add 0)=some x:=one_new W x t 0 x rfl
theorem all_of (hblk:∀ (s:Nat->Int) (gs c:Nat) (t:ByteArray) (w:World),t.size=64->gs<w.heap.size->(∀ j,j<8->w.cell? ⟨gs,j,none⟩=some (.int .i64 (s j)))->(∀ j,0<=s j/\s j<4294967296) ->
   Calls Tryz.prog 193 #[.slice (some ⟨gs,0,none⟩) 8 c,.string t] w fun e w'=>∃ g c',e=.returned (.slice (some ⟨g,0,none⟩) 8 c')/\w.heap.size<=g/\g<w'.heap.size/\(∀ j,j<8->w'.cell? ⟨g,j,none⟩=some (.int .i64 (blk (bt t) s j)))/\Below w.heap.size w w')
  (t:ByteArray) (w:World) (ht:t.size<=1048576) :
  Calls Tryz.prog 167 #[.string t] w fun e w'=>e=.returned (.string (sha t))/\Below w.heap.size w w':=by
 have HBK:=hideA hblk
 clear hblk
 obtain⟨i0,hi,hz0,hz1,hz2⟩:=info_parts Nu.Tryz.infoJ5
 obtain⟨ch,hch⟩:∃ c,c=chunks t.size:=⟨_,rfl⟩
 have hr:=chunks_room t.size
 have hti:=chunks_tight t.size
 rw[<-hch]at hr hti
 have HCH:=hideA hch
 clear hch
 obtain⟨V,w1,hcv,hO,hB⟩:∃ V w1,(convert 9 168 (.string t)).run Tryz.prog w=.ok V w1/\OwnB w1 w.heap.size V t.size (bt t)/\Below w.heap.size w w1 :=
  ⟨_,_,run_bytes_of_string (P:=Tryz.prog) w 9 168 5 t Tryz.underlying9 Tryz.underlying168 Tryz.underlying5,own_of_string w w.heap.size t 5 (by unfold maxLen;omega) (Nat.le_refl _),(Below.refl _ _).drew.alloc (Nat.le_refl _) _⟩
 have HO:=hideA hO
 have HB:=hideA hB
 clear hO hB
 go_enter Tryz.func167,Tryz.ntmps167
 go_wp2_with (at_builtin;refine wpList_append_b rfl _ _ 168 rfl w.heap.size 5 i0 Tryz.underlying168 hi hz0 hz1 hz2 V t.size (bt t) rfl (HO.out.alloc _) ⟨w1.heap.size,0,none⟩ 1 128 rfl (cell_one w1 _ _) (by omega) (by have:=HB.out.size;simp;omega) ?_;intro v2 w2 hO2 hg2)
 have HO2:=hideA (hO2.congr (fun j hj=>pad_first t j hj))
 have HB2:=hideA (app_own HB.out HB.out.size HO.out hg2)
 clear hO2 hg2 HO HB
 go_loopw [3] (fun v wr=>∃ n:Nat,OwnB wr w.heap.size v n (pad t)/\t.size+1<=n/\n+8<=ch*64/\Below w.heap.size w wr) (fun v _=>match v with|.slice _ n _=>ch*64-n|_=>0)
 case atStart=>exact⟨t.size+1,HO2.out,by omega,by omega,HB2.out⟩
 case round =>
  obtain⟨n,hown,hn1,hn2,hbel⟩:=hrel
  have HO3:=hideA hown
  have HB3:=hideA hbel
  obtain⟨g,cap,hv,hcap⟩:=hown.slice
  subst hv
  clear hown hbel
  by_cases hmod:n%64=56
  ·have HN:=hideA (show n=ch*64-8 by omega)
   have em:((n:Int)%64==56)=true:=by simp;omega
   have em2:((n:Int)%64 != 56)=false:=by simp;omega
   go_wp2_with fail
   go_loopw [3,5] (fun v i wr=>∃ m:Nat,i=.int .i64 (56-8*(m:Int))/\m<=8/\OwnB wr w.heap.size v (n+m) (pad t)/\Below w.heap.size w wr) (fun _ i _=>(intOf i+8).toNat)
   case atStart=>exact⟨0,rfl,by omega,HO3.out,HB3.out⟩
   case round =>
    obtain⟨m,rfl,hm,hown,hbel⟩:=hrel
    have HO5:=hideA hown
    have HB5:=hideA hbel
    obtain⟨g5,cap5,hv,hcap5⟩:=hown.slice
    subst hv
    clear hown hbel
    by_cases hm8:m<8
    ·have q1:IntKind.u64.wrap (56-8*(m:Int))=56-8*(m:Int):=by simp[IntKind.wrap,IntKind.bits,IntKind.signed];omega
     have q2:(56-8*(m:Int)).toNat=56-8*m:=by omega
     have q3:0<=56-8*(m:Int):=by omega
     obtain⟨x,hx⟩:∃ x,x=t.size*8/2 ^ (56-8*m)%256:=⟨_,rfl⟩
     have HV:Hid (8*(t.size:Int)/2 ^ (56-8*m)%256=(x:Int)):=by
      unfold Hid
      rw[hx,Nat.mul_comm t.size 8]
      simp
     have HP:Hid (x=pad t (n+m)):=by
      unfold Hid
      rw[hx,HN.out,HCH.out,pad_len t m hm8]
     clear hx
     go_wp2_with (at_builtin;refine wpList_append_b rfl _ _ 168 rfl w.heap.size 5 i0 Tryz.underlying168 hi hz0 hz1 hz2 (.slice (some ⟨g5,0,none⟩) (n+m) cap5) (n+m) (pad t) rfl (HO5.out.alloc _) ⟨wr.heap.size,0,none⟩ 1 x rfl (by rw[cell_one];exact congrArg some (congrArg (Value.int .u8) HV.out)) (by omega) (by have:=HB5.out.size;simp;omega) ?_;intro v6 w6 hO6 hg6;have HO6:=hideA (hO6.congr (fun j _=>pad_app t (n+m) x HP.out j));have HB6:=hideA (app_own HB5.out HB5.out.size HO5.out hg6);clear hO6 hg6)
     go_roundw
     case rel=>exact⟨m+1,by go_num,by omega,HO6.out,HB6.out⟩
     case measure=>simp[intOf];omega
    ·have HNM:Hid (n+m=ch*64):=by
      have:=HN.out
      unfold Hid
      omega
     have q3:¬0<=56-8*(m:Int):=by omega
     go_wp2_with fail
     refine(start_any wr).mono ?_
     rintro e w7 ⟨rfl,hw7⟩
     have HS7:Hid (∀ j,j<8->w7.cell? ⟨wr.heap.size,j,none⟩=some (.int .i64 (shaS t 0 j))):=by
      intro j hj
      rw[hw7]
      exact(IsB.new wr 2 .i64 8 firstF).cell hj
     have HO7:Hid (OwnB w7 w.heap.size (.slice (some ⟨g5,0,none⟩) (n+m) cap5) (n+m) (pad t)):=by
      unfold Hid
      rw[hw7]
      exact HO5.out.alloc _
     have HB7:Hid (Below w.heap.size w w7):=by
      unfold Hid
      rw[hw7]
      exact HB5.out.alloc HB5.out.size _
     have HZ7:Hid (wr.heap.size<w7.heap.size):=by
      unfold Hid
      rw[hw7]
      simp
     generalize n+m=L at HO7 HNM hcap5 ⊢
     generalize wr.heap.size=G7 at HS7 HZ7 ⊢
     clear hw7 HO5 HB5
     go_wp2_with fail
     go_loopw [6,7] (fun st i wr=>∃ k gs c:Nat,st=.slice (some ⟨gs,0,none⟩) 8 c/\i=.int .i64 (64*(k:Int))/\k<=ch/\gs<wr.heap.size/\(∀ j,j<8->wr.cell? ⟨gs,j,none⟩=some (.int .i64 (shaS t k j)))/\OwnB wr w.heap.size (.slice (some ⟨g5,0,none⟩) L cap5) L (pad t)/\Below w.heap.size w wr) (fun _ i _=>ch*64-(intOf i).toNat)
     case atStart=>exact⟨0,G7,8,rfl,rfl,Nat.zero_le _,HZ7.out,HS7.out,HO7.out,HB7.out⟩
     case round =>
      obtain⟨k,gs,c,rfl,rfl,hk,hgs,hcs,hown,hbel⟩:=hrel
      have HC8:=hideA hcs
      have HO8:=hideA hown
      have HB8:=hideA hbel
      have HG8:=hideA hgs
      clear hcs hown hbel hgs
      by_cases hkc:k<ch
      ·have e1:64*(k:Int)<(L:Int):=by have:=HNM.out;omega
       have e2:(64*(k:Int)).toNat=64*k:=by omega
       have e3:(64*(k:Int)+64).toNat=64*k+64:=by omega
       have e4:64*k+64-64*k=64:=by omega
       have e5:IntKind.i64.wrap (64*(k:Int)+64)=64*(k:Int)+64:=by simp[IntKind.wrap,IntKind.bits,IntKind.signed];omega
       have e6:64*(k:Int)+64<=(cap5:Int):=by have:=HNM.out;omega
       have e7:0<=64*(k:Int)+64:=by omega
       have e8:0<=64*(k:Int):=by omega
       have e9:64*(k:Int)<=64*(k:Int)+64:=by omega
       have e10:¬cap5=64*k:=by have:=HNM.out;omega
       have hcv8:=HO8.out.piece (P:=Tryz.prog) (src:=168) (dst:=9) (64*k) 64 (cap5-64*k) (by have:=HNM.out;omega) (pad_lt t) Tryz.underlying168 Tryz.underlying5 Tryz.underlying9
       go_wp2_with fail
       refine(HBK.out (shaS t k) gs c (strF 64 (blkB t k)) wr (strF_size 64 _) HG8.out HC8.out (shaS_range t k)).mono ?_
       rintro e w9 ⟨g9,c9,rfl,hg9a,hg9b,hcl9,hb9⟩
       rw[blk_str]at hcl9
       have HC9:=hideA hcl9
       have HO9:=hideA (HO8.out.below hb9 (Nat.le_refl _))
       have HB9:=hideA (HB8.out.trans (hb9.mono HB8.out.size))
       have HG9:=hideA hg9b
       clear hcl9 hb9 hg9a hg9b
       go_wp2_with fail
       go_roundw
       case rel=>exact⟨k+1,g9,c9,rfl,by go_num,by omega,HG9.out,HC9.out,HO9.out,HB9.out⟩
       case measure=>simp[intOf];omega
      ·have e1:¬64*(k:Int)<(L:Int):=by have:=HNM.out;omega
       have HSK:Hid (shaS t k=shaS t (chunks t.size)):=by
        unfold Hid
        rw[<-HCH.out]
        congr 1
        have:=HNM.out
        omega
       go_wp2_with fail
       obtain⟨w8,hw8⟩:∃ x,x=wr:=⟨_,rfl⟩
       have HW8:=hideA hw8
       clear hw8
       have HE8:=hideA (own_empty wr wr.heap.size 5 (Nat.le_refl _))
       have HL8:=hideA ((Below.refl wr.heap.size wr).alloc (Nat.le_refl _) (.cells #[] 5))
       go_loopw [8,9] (fun v i wo=>∃ j:Nat,i=.int .i64 j/\j<=8/\wo.ownsRow w8.heap.size 5 1 v (4*j) (rowF .u8 (4*j) (fun q=>(outF (shaS t k) q:Nat))).toList/\Below w8.heap.size w8 wo) (fun _ i _=>8-(intOf i).toNat)
       case atStart =>
        refine⟨0,rfl,by omega,?_,?_⟩
        ·rw[HW8.out];exact HE8.out
        ·rw[HW8.out];exact HL8.out
       case round =>
        rw[<-HW8.out]at HC8 HO8 HB8 HG8
        obtain⟨j,rfl,hj,hown,hbel⟩:=hrel
        have HOj:=hideA hown
        have HBj:=hideA hbel
        by_cases hj8:j<8
        ·obtain⟨x,hx⟩:∃ x,x=shaS t k j:=⟨_,rfl⟩
         have cs:wr.cell? ⟨gs,j,none⟩=some (.int .i64 x):=by rw[hbel.cell (p:=⟨gs,j,none⟩) HG8.out,HC8.out j hj8,hx]
         have lj:(j:Int)<8:=by omega
         have HX:=hideA hx
         have hsz9:w8.heap.size<=wr.heap.size:=hbel.size
         clear hx hbel hown
         go_wp2_with (at_builtin;refine wpList_append_own _ rfl _ _ 168 rfl w8.heap.size 5 i0 (.int .u8 0) 1 1 Tryz.underlying168 hi hz0 hz1 hz2 rfl (by decide) _ _ _ rfl (HOj.out.alloc _) ⟨wr.heap.size,0,none⟩ 4 4 [.int .u8 (x/16777216%256),.int .u8 (x/65536%256),.int .u8 (x/256%256),.int .u8 (x%256)] rfl rfl (four_new wr _ _ _ _ _) (four_cell _ _ _ _) (by unfold maxLen;omega) (by omega) (by simp;omega) ?_;intro v6 w6 hO6 hg6 _;have HB6:=hideA (Nu.app_below HBj.out (Nat.le_refl _) HOj.out hg6);have HO6:=hideA hO6;clear hO6 hg6)
         go_roundw
         case rel =>
          refine⟨j+1,by go_num,by omega,?_,HB6.out⟩
          have e:=HO6.out
          rw[out_four (shaS t k) j _ _ _ _ (by rw[HX.out]) (by rw[HX.out]) (by rw[HX.out]) (by rw[HX.out])]at e
          rw[show 4*(j+1)=4*j+4 by omega]at e ⊢
          exact e
         case measure=>simp[intOf];omega
        ·have hown8:wr.ownsRow w8.heap.size 5 1 u8 32 (rowF .u8 32 (fun q=>(outF (shaS t k) q:Nat))).toList:=by
          have e:j=8:=by omega
          rw[e]at hown
          exact hown
         have hcv9:=own_str (P:=Tryz.prog) (src:=168) (dst:=9) hown8 (outF_lt _) Tryz.underlying168 Tryz.underlying5 Tryz.underlying9
         have HFB:=hideA (HB8.out.trans (hbel.mono HB8.out.size))
         clear hown hown8 hbel
         go_wp2_with fail
         go_ret
         refine⟨Nu.ret_strJ ?_,HFB.out⟩
         rw[HSK.out]
         rfl
  ·have em:((n:Int)%64==56)=false:=by simp;omega
   have HZ:Hid (0=pad t n):=by
    unfold Hid
    rw[pad_zero t n (by omega) (by rw[<-HCH.out];omega)]
   go_wp2_with (at_builtin;refine wpList_append_b rfl _ _ 168 rfl w.heap.size 5 i0 Tryz.underlying168 hi hz0 hz1 hz2 (.slice (some ⟨g,0,none⟩) n cap) n (pad t) rfl (HO3.out.alloc _) ⟨wr.heap.size,0,none⟩ 1 0 rfl (cell_one wr _ _) (by omega) (by have:=HB3.out.size;simp;omega) ?_;intro v4 w4 hO4 hg4;have HO4:=hideA (hO4.congr (fun j _=>pad_app t n 0 HZ.out j));have HB4:=hideA (app_own HB3.out HB3.out.size HO3.out hg4);clear hO4 hg4)
   obtain⟨g',cap',hv4,hcap4⟩:=HO4.out.slice
   subst hv4
   go_roundw
   case rel=>exact⟨n+1,HO4.out,by omega,by omega,HB4.out⟩
   case measure=>simp;omega
end Go.Proofs.YtpddanmnlkcdpaaGreatDoor.Sh


/- slices.Insert of one element into a row of others of the call's own. -/
namespace Go.Proofs.YtpddanmnlkcdpaaGreatDoor.Pm
open Go.RowKit
open Kp (hideK)
end Go.Proofs.YtpddanmnlkcdpaaGreatDoor.Pm


namespace Go.Proofs.YtpddanmnlkcdpaaGreatDoor.Pm
open Go.RowKit
open Kp (hideK)
theorem run_append_fresh {P:Program} (w:World) (base:Nat) (t ty e:TypeId) (i:TypeInfo) (z:Value) (size bytes:Nat) (ht:P.underlying t=some (.slice e)) (hi:P.info? e=some i) (hz:i.zero=some z)
  (hsize:i.size=size) (hby:i.bytes=bytes) (hzs:z.cells.size=size) (hsz:0<size) (v:Value) (n:Nat) (xs:List Value) (hown:w.ownsRow base e size v n xs)
  (a:Addr) (m c:Nat) (news:List Value) (hl:news.length=m*size) (hnews:∀ j u,news[j]? = some u->w.cell? (a.add j)=some u) (h1:∀ u∈news,u.oneCell'=true)
  (h63:n+m<=maxLen) (hbytes:(n+m)*bytes<=140737488355328) (hbase:base<=w.heap.size) :
  ∃ v' w',(Builtin.append_ #[t,t] ty #[v,.slice (some a) m c]).run P w=.ok v' w'/\w'.ownsRow base e size v' (n+m) (xs++news)/\w.grownBy w' v.ownBlock/\(v'.ownBlock=v.ownBlock∨∀ k,v'.ownBlock=some k->w.heap.size<=k):=by
 subst hsize hby
 have hlen:=hown.1
 rcases hown.2 with⟨hv,h0⟩|⟨g,cap,cur,hv,hbg,hg,hnc,hcm,hcs,htake⟩
 ·obtain⟨v',w',hr,h2,h3,_⟩:=run_append_own (P:=P) w w.heap.size t ty e i z i.size i.bytes ht hi hz rfl rfl hzs hsz v n xs ⟨hlen,.inl ⟨hv,h0⟩⟩ a m c news hl hnews h1 h63 hbytes (Nat.le_refl _)
  have hlt:=fun k hk=>(World.ownsRow.lt h2 k hk).1
  refine⟨v',w',hr,⟨h2.1,?_⟩,h3,.inr hlt⟩
  rcases h2.2 with h|⟨g,cap,cur,q1,q2,q3⟩
  ·exact .inl h
  ·exact .inr ⟨g,cap,cur,q1,Nat.le_trans hbase q2,q3⟩
 ·obtain⟨v',w',hr,h2,h3,_⟩:=run_append_own (P:=P) w base t ty e i z i.size i.bytes ht hi hz rfl rfl hzs hsz v n xs hown a m c news hl hnews h1 h63 hbytes hbase
  refine⟨v',w',hr,h2,h3,?_⟩
  subst hv
  by_cases hroom:n+m<=cap
  ·have hr':=run_append_room (P:=P) w t ty e i ht hi g n cap cur hg a m c news hl hnews h1 hroom (by rw[hl,hcs,<-Nat.add_mul];exact Nat.mul_le_mul_right _ hroom)
   rw[hr]at hr'
   cases hr'
   exact .inl rfl
  ·have hr':=run_append_grow (P:=P) w t ty e i z ht hi hz ⟨g,0,none⟩ n cap xs hlen (World.ownsRow.cells hown (g:=g) rfl) a m c news hl hnews (by omega) (by unfold maxLen at h63;omega) (growslice_fits (by omega) hbytes)
   rw[hr]at hr'
   cases hr'
   exact .inr fun k hk=>by cases hk;exact Nat.le_refl _
theorem wpList_append_fresh {P:Program} {w:World} {ops:Array Oper} {rest:List Oper} {o:Oper} {a:Act} {Q:Exit->Act->World->Prop} (hgd:o.guard=none) (s x:Operand) (t:TypeId)
  (ho:o.op=.call { callee:=.builtin .append,args:=#[s,x],argTypes:=#[t,t] })
  (base:Nat) (e:TypeId) (i:TypeInfo) (z:Value) (size bytes:Nat) (ht:P.underlying t=some (.slice e)) (hi:P.info? e=some i) (hz:i.zero=some z)
  (hsize:i.size=size) (hby:i.bytes=bytes) (hzs:z.cells.size=size) (hsz:0<size)
  (v:Value) (n:Nat) (xs:List Value) (hs:a.eval s=v) (hown:w.ownsRow base e size v n xs)
  (ad:Addr) (m c:Nat) (news:List Value) (hx:a.eval x=.slice (some ad) m c) (hl:news.length=m*size) (hnews:∀ j u,news[j]? = some u->w.cell? (ad.add j)=some u) (h1:∀ u∈news,u.oneCell'=true)
  (h63:n+m<=maxLen) (hbytes:(n+m)*bytes<=140737488355328) (hbase:base<=w.heap.size)
  (h:∀ v' w',w'.ownsRow base e size v' (n+m) (xs++news)->w.grownBy w' v.ownBlock->(v'.ownBlock=v.ownBlock∨∀ k,v'.ownBlock=some k->w.heap.size<=k)->wpList P ops Q rest (a.put o.dst v') w'):wpList P ops Q (o :: rest) a w:=by
 refine wpList_plain hgd fun _ hK=>?_
 obtain⟨v',w',hr,h2,h3,h4⟩:=run_append_fresh (P:=P) w base t o.type e i z size bytes ht hi hz hsize hby hzs hsz v n xs hown ad m c news hl hnews h1 h63 hbytes hbase
 unfold Oper.wp execOp
 simp only[ho,resolve,invoke,builtin,Sem.run_bind,Sem.run_pure,Result.andThen_ok,List.map_toArray,List.map_cons,List.map_nil,hs,hx,hr]
 exact hK _ _ (h v' w' h2 h3 h4)
theorem Tryz.insI_info:(Tryz.prog.info? 2).map (fun i=>(i.zero,i.size,i.bytes))=some (some (.int .i64 0),1,8):=by kernel_rfl
theorem insI_sz (w:World):(sizeOf 2).run Tryz.prog w=.ok 1 w:=by kernel_rfl
theorem insI_mx:Tryz.prog.follows Departure.mixedOrders=true:=by kernel_rfl
theorem insI_size:(Tryz.prog.info? 2).map (·.size)=some 1:=by kernel_rfl
theorem insI_ov (w:World) (g vb o lb cb:Nat) (cur:Array Value) (vs:List Value) (hg:w.heap[g]? = some (.cells cur 2 (0,0))) (hv:w.heap[vb]? = some (.cells vs.toArray 2 (0,0))) (hc:cur.size≠0) (hne:vb≠g) :
  (callFunc 186 #[.slice (some ⟨vb,0,none⟩) 1 1,.slice (some ⟨g,o,none⟩) lb cb]).run Tryz.prog w=.ok (.value (.bool false)) w:=by
 rw[run_callFunc_extern Tryz.func186 (by kernel_rfl) (by kernel_rfl) (by kernel_rfl) (e:=Extern.SlicesOverlaps.overlaps #[84,84] #[4]) (by kernel_rfl),
  Lib.run_overlaps_apart w 84 4 2 Tryz.underlying84 1 insI_sz ⟨vb,0,none⟩ ⟨g,o,none⟩ 1 1 lb cb hne 2 2 vs.length cur.size (by simp[World.shape?,hv]) (by simp[World.shape?,hg]) hc (frozen_of_row w vb _ _ _ hv) (frozen_of_row w vb _ _ _ hv)]
 rfl
/-- at the end -/
theorem insI_end (base n vb:Nat) (v:Value) (xs vs:List Value) (w:World) (hown:w.ownsRow base 2 1 v n xs) (hn:n<=1048576) (hb:base<=w.heap.size)
  (hvs:∀ j u,vs[j]? = some u->w.cell? ((⟨vb,0,none⟩:Addr).add j)=some u) (hvl:vs.length=1) (h1v:∀ u∈vs,u.oneCell'=true) :
  Calls Tryz.prog 156 #[v,.int .i64 n,.slice (some ⟨vb,0,none⟩) 1 1] w fun e w'=>∃ v',e=.returned v'/\w'.ownsRow base 2 1 v' (n+1) (xs++vs)/\w.grownBy w' v.ownBlock/\(v'.ownBlock=v.ownBlock∨∀ k,v'.ownBlock=some k->w.heap.size<=k):=by
 obtain⟨i0,hi0,hz0,hz1,hz2⟩:=info_parts Tryz.insI_info
 obtain⟨a,cap,hv,hnc,ha⟩:∃ a cap,v=.slice a n cap/\n<=cap/\(a=none->cap=0/\n=0):=by
  rcases hown.2 with⟨h,h0⟩|⟨g,cap,cur,hv,_,_,hc,_⟩
  ·exact⟨none,0,by rw[h,h0],by omega,fun _=>⟨rfl,h0⟩⟩
  ·exact⟨_,cap,hv,hc,fun h=>by cases h⟩
 subst hv
 have hcap:(n:Int)<=(cap:Int):=by omega
 have hxx:n<=n:=by omega
 go_enter Tryz.func156,Tryz.ntmps156
 go_wp2_with (at_builtin;refine wpList_append_fresh rfl (.tmp 23) (.tmp 24) 84 rfl base 2 i0 (.int .i64 0) 1 8 Tryz.underlying84 hi0 hz0 hz1 hz2 rfl (by decide) (.slice a n cap) n xs rfl hown ⟨vb,0,none⟩ 1 1 vs rfl hvl hvs h1v (by unfold maxLen;omega) (by omega) hb ?_;intro v' w1 ho hg hfr)
 all_goals (go_ret;exact⟨v',rfl,ho,by cases a<;>exact hg,by cases a<;>exact hfr⟩)
/-- there is room -/
theorem insI_room (g n cap i vb:Nat) (cur:Array Value) (vs:List Value) (w:World) (hg:w.heap[g]? = some (.cells cur 2 (0,0))) (hcs:cur.size=cap) (hi:i<n) (hn:n<=1048576) (hroom:n+1<=cap) (hcm:cap<=maxLen) (hne:vb≠g)
  (hv:w.heap[vb]? = some (.cells vs.toArray 2 (0,0))) (hvl:vs.length=1) (h1c:∀ u∈cur.toList.take (n),u.oneCell'=true) (h1v:∀ u∈vs,u.oneCell'=true) :
  Calls Tryz.prog 156 #[.slice (some ⟨g,0,none⟩) n cap,.int .i64 i,.slice (some ⟨vb,0,none⟩) 1 1] w fun e w'=>e=.returned (.slice (some ⟨g,0,none⟩) (n+1) cap) /\
   w'=((w.drew.setRow g (cur.toList.take (i+1)++(cur.toList.take (n)).drop (i)++cur.toList.drop (n+1)).toArray).setRow g (cur.toList.take (i)++vs++((cur.toList.take (n)).drop (i)++cur.toList.drop (n+1))).toArray):=by
 have hiI:(i:Int)<(n:Int):=by omega
 have hz2:¬((i:Int)=(n:Int)):=by omega
 have hz2b:((i:Int)==(n:Int))=false:=by simp;omega
 have hcI:(n:Int)+1<=(cap:Int):=by omega
 have hcJ:¬((cap:Int)<(n:Int)+1):=by omega
 have hci:¬cap=i:=by omega
 have hci1:¬cap=i+1:=by omega
 have hc63:cap<=9223372036854775807:=by unfold maxLen at hcm;omega
 have hin:i<=n:=by omega
 have hin1:i<=n+1:=by omega
 have hin2:(i:Int)<=(n:Int)+1:=by omega
 have hmx:=insI_mx
 have hw1:IntKind.i64.wrap ((i:Int)+1)=(i:Int)+1:=by rw[IntKind.wrap_i64];omega
 have hw2:IntKind.i64.wrap ((n:Int)+1)=(n:Int)+1:=by rw[IntKind.wrap_i64];omega
 have hb1:(0:Int)<=(i:Int)+1:=by omega
 have hb2:(0:Int)<=(n:Int)+1:=by omega
 have htn:((i:Int)+1).toNat=i+1:=by omega
 have htm:((n:Int)+1).toNat=n+1:=by omega
 have hov:∀ lb cb,(callFunc 186 #[.slice (some ⟨vb,0,none⟩) 1 1,.slice (some ⟨g,(i+1),none⟩) lb cb]).run Tryz.prog w=.ok (.value (.bool false)) w:=fun lb cb=>insI_ov w g vb _ lb cb cur vs hg hv (by rw[hcs];omega) hne
 have hl1:((cur.toList.take (n)).drop (i)).length=(n-i):=by
  rw[List.length_drop,List.length_take,Array.length_toList];omega
 have hcp1:∀ ty dc sc,(Builtin.copy_ #[84,84] ty #[.slice (some ⟨g,(i+1),none⟩) (n-i) dc,.slice (some ⟨g,i,none⟩) (n+1-i) sc]).run Tryz.prog w.drew=.ok (goInt (Nat.min (n+1-i) (n-i))) (w.drew.setRow g (cur.toList.take (i+1)++(cur.toList.take (n)).drop (i)++cur.toList.drop (n+1)).toArray):=fun ty dc sc=>by
  have h:=run_copyZ (P:=Tryz.prog) w.drew 84 84 ty 2 1 g ((i+1)) (n-i) dc ⟨g,i,none⟩ (n+1-i) sc cur 2 ((cur.toList.take (n)).drop (i)) Tryz.underlying84 insI_size hg (by rw[hl1,show Nat.min (n+1-i) (n-i)=n-i by simp only[Nat.min_def];split<;>omega,Nat.mul_one])
   (fun j u hj=>by
    rw[List.getElem?_drop,List.getElem?_take]at hj
    split at hj
    ·rw[Addr.add_lit]
     exact(cell_of_row w.drew g _ _ _ _ hg).trans (by rw[<-Array.getElem?_toList];exact hj)
    ·cases hj)
   (by rw[hl1];omega) (fun u hu=>h1c u (List.mem_of_mem_drop hu))
  rw[hl1,show (i+1)+(n-i)=n+1 by omega,show (i+1)=i+1 by omega]at h
  rw[show (i+1)=i+1 by omega]
  exact h
 have hR:((cur.toList.take (i+1)++(cur.toList.take (n)).drop (i)++cur.toList.drop (n+1)).toArray).toList=cur.toList.take (i+1)++(cur.toList.take (n)).drop (i)++cur.toList.drop (n+1):=rfl
 have hins:=ins_list cur.toList vs (i) (n) 1 hvl (by omega) (by rw[Array.length_toList];omega)
 have hrl:(cur.toList.take (i+1)++(cur.toList.take (n)).drop (i)++cur.toList.drop (n+1)).length=cur.size:=by
  rw[List.length_append,List.length_append,hl1,List.length_take,List.length_drop,Array.length_toList];omega
 have hcp2:∀ ty dc,(Builtin.copy_ #[84,84] ty #[.slice (some ⟨g,i,none⟩) (n+1-i) dc,.slice (some ⟨vb,0,none⟩) 1 1]).run Tryz.prog (w.drew.setRow g (cur.toList.take (i+1)++(cur.toList.take (n)).drop (i)++cur.toList.drop (n+1)).toArray)=.ok (goInt (Nat.min 1 (n+1-i))) ((w.drew.setRow g (cur.toList.take (i+1)++(cur.toList.take (n)).drop (i)++cur.toList.drop (n+1)).toArray).setRow g (cur.toList.take (i)++vs++((cur.toList.take (n)).drop (i)++cur.toList.drop (n+1))).toArray):=fun ty dc=>by
  have h:=run_copyZ (P:=Tryz.prog) (w.drew.setRow g (cur.toList.take (i+1)++(cur.toList.take (n)).drop (i)++cur.toList.drop (n+1)).toArray) 84 84 ty 2 1 g (i) (n+1-i) dc ⟨vb,0,none⟩ 1 1 _ 2 vs Tryz.underlying84 insI_size (setRow_heap w.drew g cur _ 2 _ hg) (by rw[hvl,show Nat.min 1 (n+1-i)=1 by simp only[Nat.min_def];split<;>omega])
   (fun j u hj=>by
    rw[Addr.add_lit]
    refine(cell_of_row _ vb _ _ _ _ ((setRow_other w.drew g vb _ hne).trans hv)).trans ?_
    rw[Nat.zero_add,<-Array.getElem?_toList]
    exact hj)
   (by rw[List.size_toArray,hrl,hvl,hcs];omega) h1v
  rw[hvl,hR,hins]at h
  exact h
 clear hR hins hrl
 generalize (cur.toList.take (i+1)++(cur.toList.take (n)).drop (i)++cur.toList.drop (n+1)).toArray=R1 at hcp1 hcp2 ⊢
 generalize (cur.toList.take (i)++vs++((cur.toList.take (n)).drop (i)++cur.toList.drop (n+1))).toArray=R2 at hcp2 ⊢
 clear hl1
 go_enter Tryz.func156,Tryz.ntmps156
 go_wp2_with fail
 go_region_law_o (refine step_copyZ rfl _ _ 84 84 rfl _ _ (by simp[Act.eval,Act.put]) (by simp[Act.eval,Act.put]) (hcp1 _ _ _) ?_)
 go_wp2_with (at_builtin;refine wpList_copyZ _ rfl _ _ 84 84 rfl _ _ rfl rfl (hcp2 _ _) ?_)
 go_ret
 exact⟨rfl,rfl⟩
theorem put_atinsI {α:Type} (A Zs X:List α) (k d:Nat) (hk:A.length=k) (hd:X.length=d):(A++Zs).take k++X++(A++Zs).drop (k+d)=A++X++Zs.drop d:=by
 subst hk
 rw[List.take_left,List.drop_append,List.drop_of_length_le (by omega),List.nil_append,show A.length+d-A.length=d by omega]
/-- there is no room -/
theorem insI_grow (base g n cap i vb:Nat) (row:Option Nat) (xs vs:List Value) (w:World) (hxl:xs.length=n) (hxs:∀ j u,xs[j]? = some u->w.cell? ⟨g,j,none⟩=some u) (hi:i<n) (hn:n<=1048576) (hroom:cap<n+1) (hnc:n<=cap) (hb:base<=w.heap.size) (hgl:g<w.heap.size)
  (hv:w.heap[vb]? = some (.cells vs.toArray 2 (0,0))) (hvl:vs.length=1) (h1c:∀ u∈xs,u.oneCell'=true) (h1v:∀ u∈vs,u.oneCell'=true) :
  Calls Tryz.prog 156 #[.slice (some ⟨g,0,none⟩) n cap,.int .i64 i,.slice (some ⟨vb,0,none⟩) 1 1] w fun e w'=>∃ v',e=.returned v'/\w'.ownsRow base 2 1 v' (n+1) (xs.take (i)++vs++xs.drop (i))/\w.grownBy w' row/\∀ k,v'.ownBlock=some k->w.heap.size<=k:=by
 obtain⟨i0,hi0,hz0,hzs,hzb⟩:=info_parts Tryz.insI_info
 obtain rfl:cap=n:=by omega
 have hiI:(i:Int)<(cap:Int):=by omega
 have hz2:¬((i:Int)=(cap:Int)):=by omega
 have hz2b:((i:Int)==(cap:Int))=false:=by simp;omega
 have hcJ:(cap:Int)<(cap:Int)+1:=by omega
 have hci:¬cap=i:=by omega
 have hin:i<=cap:=by omega
 have hw1:IntKind.i64.wrap ((i:Int)+1)=(i:Int)+1:=by rw[IntKind.wrap_i64];omega
 have hw2:IntKind.i64.wrap ((cap:Int)+1)=(cap:Int)+1:=by rw[IntKind.wrap_i64];omega
 have hw3:IntKind.i64.wrap ((cap:Int)+1-(i:Int))=(cap:Int)+1-(i:Int):=by rw[IntKind.wrap_i64];omega
 have hb1:(0:Int)<=(i:Int)+1:=by omega
 have htn:((i:Int)+1).toNat=i+1:=by omega
 have hin1:i<=cap+1:=by omega
 have hin2:(i:Int)<=(cap:Int)+1:=by omega
 have hmx:=insI_mx
 have hkk:(cap:Int)+1-(i:Int)=((cap+1-i:Nat):Int):=by omega
 have hik:i+(cap+1-i)=cap+1:=by omega
 have hAl:(xs.take (i)).length=i:=by rw[List.length_take,hxl];omega
 have hBl:(xs.drop (i)).length=(cap-i):=by rw[List.length_drop,hxl]
 have hold:(Builtin.firstCells i0.size i (.slice (some ⟨g,0,none⟩) i cap)).run Tryz.prog w.drew=.ok (xs.take (i)).toArray w.drew:=by
  rw[hzs]
  exact run_firstCells_some w.drew 1 i ⟨g,0,none⟩ i cap (xs.take (i)) (by rw[hAl,Nat.mul_one]) (fun j v hj=>by
   rw[Addr.add_lit,Nat.zero_add]
   rw[List.getElem?_take]at hj
   split at hj
   ·exact hxs j v hj
   ·cases hj)
 have hrz:∀ ty,(Builtin.append_ #[84,3] ty #[.slice (some ⟨g,0,none⟩) i cap,.int .i64 ((cap:Int)+1-(i:Int))]).run Tryz.prog w =
   .ok (.slice (some ⟨w.heap.size,0,none⟩) (cap+1) (grownCap w (cap+1) cap 2)) (w.drew.alloc (.cells ((xs.take (i)).toArray++Builtin.zeroCells (Value.cells (.int .i64 0)) (cap+1-i)++Builtin.zeroCells (Value.cells (.int .i64 0)) (grownCap w (cap+1) cap 2 - (cap+1))) 2)):=fun ty=>by
  have h:=Lib.run_append_grow_zeros (P:=Tryz.prog) w 84 3 ty 2 i0 _ .i64 .i64 Tryz.underlying84 Tryz.underlying3 hi0 hz0 (some ⟨g,0,none⟩) i cap (xs.take (i)) hold (cap+1-i) (by omega) (by omega) (by omega) (by omega) (by rw[hzb];omega) (by rw[hzb,hik];exact growslice_fits hroom (by omega))
  rw[hik]at h
  rw[hkk]
  exact h
 have hGn:=grownCap_ge w (cap+1) cap 2
 have hGm:=grownCap_le_maxLen w (cap+1) cap 2 (by unfold maxLen;omega)
 generalize grownCap w (cap+1) cap 2=G at hrz hGn hGm
 have hG63:G<=9223372036854775807:=by unfold maxLen at hGm;omega
 obtain⟨Zs,hZs,hZl⟩:∃ Zs:List Value,((xs.take (i)).toArray++Builtin.zeroCells (Value.cells (.int .i64 0)) (cap+1-i)++Builtin.zeroCells (Value.cells (.int .i64 0)) (G-(cap+1)))=(xs.take (i)++Zs).toArray/\i+Zs.length=G:=by
  refine⟨(Builtin.zeroCells (Value.cells (.int .i64 0)) (cap+1-i)).toList++(Builtin.zeroCells (Value.cells (.int .i64 0)) (G-(cap+1))).toList,?_,?_⟩
  ·rw[<-List.append_assoc]
   apply Array.ext'
   simp
  ·rw[List.length_append,Array.length_toList,Array.length_toList,size_zeroCells,size_zeroCells,show (Value.cells (.int .i64 0)).size=1 from rfl]
   omega
 simp only[hZs]at hrz
 have hGi:¬G=i:=by omega
 have hGi1:¬G=i+1:=by omega
 have hne1:vb≠w.heap.size:=by
  have:=(Array.getElem?_eq_some_iff.1 hv).1
  omega
 have hcpA:∀ (W:World),W.heap=(w.drew.alloc (.cells (xs.take (i)++Zs).toArray 2)).heap->∀ ty dc,(Builtin.copy_ #[84,84] ty #[.slice (some ⟨w.heap.size,i,none⟩) (cap+1-i) dc,.slice (some ⟨vb,0,none⟩) 1 1]).run Tryz.prog W=.ok (goInt (Nat.min 1 (cap+1-i))) (W.setRow w.heap.size (xs.take (i)++vs++Zs.drop 1).toArray):=fun W hW ty dc=>by
  have hq:W.heap[w.heap.size]? = some (.cells (xs.take (i)++Zs).toArray 2 (0,0)):=by rw[hW];exact heap_alloc_new w.drew _
  have hvW:W.heap[vb]? = some (.cells vs.toArray 2 (0,0)):=by rw[hW];exact(heap_alloc_old w.drew _ (Array.getElem?_eq_some_iff.1 hv).1).trans hv
  have h:=run_copyZ (P:=Tryz.prog) W 84 84 ty 2 1 w.heap.size (i) (cap+1-i) dc ⟨vb,0,none⟩ 1 1 _ 2 vs Tryz.underlying84 insI_size hq (by rw[hvl,show Nat.min 1 (cap+1-i)=1 by simp only[Nat.min_def];split<;>omega])
   (fun j u hj=>by
    rw[Addr.add_lit,Nat.zero_add]
    refine(cell_of_row _ vb _ _ _ _ hvW).trans ?_
    rw[<-Array.getElem?_toList]
    exact hj)
   (by rw[List.size_toArray,List.length_append,hAl,hvl];omega) h1v
  rw[hvl,put_atinsI _ _ _ _ _ hAl hvl]at h
  exact h
 have hcpB:∀ (W:World),W.heap=((w.drew.alloc (.cells (xs.take (i)++Zs).toArray 2)).setRow w.heap.size (xs.take (i)++vs++Zs.drop 1).toArray).heap->∀ ty dc sc,(Builtin.copy_ #[84,84] ty #[.slice (some ⟨w.heap.size,(i+1),none⟩) (cap-i) dc,.slice (some ⟨g,i,none⟩) (cap-i) sc]).run Tryz.prog W=.ok (goInt (Nat.min (cap-i) (cap-i))) (W.setRow w.heap.size (xs.take (i)++vs++xs.drop (i)++(Zs.drop 1).drop ((cap-i))).toArray):=fun W hW ty dc sc=>by
  have hq:W.heap[w.heap.size]? = some (.cells (xs.take (i)++vs++Zs.drop 1).toArray 2 (0,0)):=by rw[hW];exact setRow_heap _ _ _ _ 2 _ (heap_alloc_new w.drew _)
  have hgW:∀ j u,xs[j]? = some u->W.cell? ⟨g,j,none⟩=some u:=fun j u hj=>by
   refine Eq.trans ?_ (hxs j u hj)
   refine World.cell?_of_block (w:=w) (a:=⟨g,j,none⟩) ?_
   rw[hW]
   exact(setRow_other _ w.heap.size g _ (by omega)).trans (heap_alloc_old w.drew _ hgl)
  have hA2:(xs.take (i)++vs).length=(i+1):=by rw[List.length_append,hAl,hvl]
  have h:=run_copyZ (P:=Tryz.prog) W 84 84 ty 2 1 w.heap.size ((i+1)) (cap-i) dc ⟨g,i,none⟩ (cap-i) sc _ 2 (xs.drop (i)) Tryz.underlying84 insI_size hq (by rw[hBl,show Nat.min (cap-i) (cap-i)=cap-i by simp only[Nat.min_def];split<;>omega,Nat.mul_one])
   (fun j u hj=>by
    rw[Addr.add_lit]
    rw[List.getElem?_drop]at hj
    exact hgW _ u hj)
   (by rw[hBl,List.size_toArray,List.length_append,hA2,List.length_drop];omega) (fun u hu=>h1c u (List.mem_of_mem_drop hu))
  rw[hBl,put_atinsI _ _ _ _ _ hA2 hBl]at h
  exact h
 have HFIN:Hid (∀ W:World,W.heap=((w.drew.alloc (.cells (xs.take (i)++Zs).toArray 2)).setRow w.heap.size (xs.take (i)++vs++Zs.drop 1).toArray).heap->W.os=w.os->W.tape=w.tape->W.output=w.output->(W.setRow w.heap.size (xs.take (i)++vs++xs.drop (i)++(Zs.drop 1).drop ((cap-i))).toArray).ownsRow base 2 1 (.slice (some ⟨w.heap.size,0,none⟩) (cap+1) G) (cap+1) (xs.take (i)++vs++xs.drop (i))/\w.grownBy (W.setRow w.heap.size (xs.take (i)++vs++xs.drop (i)++(Zs.drop 1).drop ((cap-i))).toArray) row):=fun W hW h1 h2 h3=>by
  have hq:W.heap[w.heap.size]? = some (.cells (xs.take (i)++vs++Zs.drop 1).toArray 2 (0,0)):=by rw[hW];exact setRow_heap _ _ _ _ 2 _ (heap_alloc_new w.drew _)
  have hl:(xs.take (i)++vs++xs.drop (i)).length=(cap+1):=by rw[List.length_append,List.length_append,hAl,hBl,hvl];omega
  refine⟨⟨by rw[hl,Nat.mul_one],.inr ⟨w.heap.size,G,_,rfl,hb,setRow_heap _ _ _ _ 2 _ hq,hGn,hGm,?_,?_⟩⟩,⟨h1,h2,h3,?_,fun k hk _=>?_⟩⟩
  ·rw[List.size_toArray,List.length_append,hl,List.length_drop,List.length_drop];omega
  ·rw[<-hl,Nat.mul_one];exact List.take_left
  ·have:=(Array.getElem?_eq_some_iff.1 hq).1
   simp only[World.setRow,Array.size_modify]
   omega
  ·refine(setRow_other W w.heap.size k _ (by omega)).trans ?_
   rw[hW]
   exact(setRow_other _ w.heap.size k _ (by omega)).trans (heap_alloc_old w.drew _ hk)
 clear hkk hik hold hZs hi0 hz0 hzs hzb hAl hBl hZl
 have hcpA1:=hcpA ((w.alloc (.cells (xs.take (i)++Zs).toArray 2)).drew) rfl
 have hcpB1:=hcpB (((w.alloc (.cells (xs.take (i)++Zs).toArray 2)).drew.setRow w.heap.size (xs.take (i)++vs++Zs.drop 1).toArray).drew) rfl
 have HF:=hideK (HFIN.out (((w.alloc (.cells (xs.take (i)++Zs).toArray 2)).drew.setRow w.heap.size (xs.take (i)++vs++Zs.drop 1).toArray).drew) rfl rfl rfl rfl)
 clear hcpA hcpB HFIN
 generalize (xs.take (i)++Zs).toArray=R0 at hrz hcpA1 hcpB1 HF
 generalize (xs.take (i)++vs++Zs.drop 1).toArray=R1 at hcpA1 hcpB1 HF
 generalize (xs.take (i)++vs++xs.drop (i)++(Zs.drop 1).drop ((cap-i))).toArray=R2 at hcpB1 HF
 generalize (xs.take (i)++vs++xs.drop (i))=RX at HF ⊢
 go_enter Tryz.func156,Tryz.ntmps156
 go_wp2_with (first
  |(at_builtin;refine Lib.wpList_append_run _ rfl _ _ _ _ rfl _ _ rfl rfl _ _ (hrz _) ?_)
  |(at_builtin;refine wpList_copyZ _ rfl _ _ 84 84 rfl _ _ rfl rfl (hcpA1 _ _) ?_))
 go_region_law_o (refine step_copyZ rfl _ _ 84 84 rfl _ _ (by simp[Act.eval,Act.put]) (by simp[Act.eval,Act.put]) (hcpB1 _ _ _) ?_)
 go_wp2_with fail
 go_ret
 exact⟨_,rfl,HF.out.1,HF.out.2,fun k hk=>by cases hk;exact Nat.le_refl _⟩
theorem insI_any (base n i vb:Nat) (v:Value) (xs vs:List Value) (w:World) (hown:w.ownsRow base 2 1 v n xs) (hi:i<=n) (hn:n<=1048576) (hb:base<=w.heap.size)
  (hv:w.heap[vb]? = some (.cells vs.toArray 2 (0,0))) (hvl:vs.length=1) (hne:v.ownBlock≠some vb) (h1c:∀ u∈xs,u.oneCell'=true) (h1v:∀ u∈vs,u.oneCell'=true) :
  Calls Tryz.prog 156 #[v,.int .i64 i,.slice (some ⟨vb,0,none⟩) 1 1] w fun e w'=>∃ v',e=.returned v'/\w'.ownsRow base 2 1 v' (n+1) (xs.take (i)++vs++xs.drop (i))/\w.grownBy w' v.ownBlock/\(v'.ownBlock=v.ownBlock∨∀ k,v'.ownBlock=some k->w.heap.size<=k):=by
 have hxl:=hown.1
 by_cases hin:i=n
 ·subst hin
  have h:=insI_end base i vb v xs vs w hown hn hb (fun j u hj=>by
   rw[Addr.add_lit,Nat.zero_add]
   refine(cell_of_row _ vb _ _ _ _ hv).trans ?_
   rw[<-Array.getElem?_toList]
   exact hj) (by rw[hvl]) h1v
  rw[List.take_of_length_le (by omega),List.drop_of_length_le (by omega),List.append_nil]
  exact h
 ·rcases hown.2 with⟨_,h0⟩|⟨g,cap,cur,hvv,hbg,hg,hnc,hcm,hcs,htake⟩
  ·omega
  ·subst hvv
   have hgl:=(Array.getElem?_eq_some_iff.1 hg).1
   have hnv:vb≠g:=fun e=>hne (by rw[e];rfl)
   by_cases hroom:n+1<=cap
   ·rw[Nat.mul_one]at hcs htake hxl
    refine(insI_room g n cap i vb cur vs w hg hcs (by omega) hn hroom hcm hnv hv hvl (by rw[htake];exact h1c) h1v).mono ?_
    rintro e w' ⟨rfl,rfl⟩
    have hh:=ins_head cur.toList vs (i) (n) 1 hvl (by omega) (by rw[Array.length_toList];omega)
    have hg1:=setRow_heap w.drew g cur (cur.toList.take (i+1)++(cur.toList.take (n)).drop (i)++cur.toList.drop (n+1)).toArray 2 (0,0) hg
    refine⟨_,rfl,⟨?_,.inr ⟨g,cap,_,rfl,hbg,setRow_heap _ g _ _ 2 _ hg1,hroom,hcm,?_,?_⟩⟩,⟨rfl,rfl,rfl,by simp[World.setRow],fun k _ hk=>?_⟩,.inl rfl⟩
    ·rw[List.length_append,List.length_append,List.length_take,List.length_drop];omega
    ·rw[List.size_toArray,hh.2,Array.length_toList,hcs,Nat.mul_one]
    ·rw[Nat.mul_one]
     refine hh.1.trans ?_
     rw[htake]
    ·have hkg:k≠g:=fun e=>hk (by rw[e];rfl)
     exact(setRow_other _ g k _ hkg).trans (setRow_other _ g k _ hkg)
   ·rw[Nat.mul_one]at hxl
    refine(insI_grow base g n cap i vb (Value.slice (some ⟨g,0,none⟩) n cap).ownBlock xs vs w hxl (fun j u hj=>by
     have:=World.ownsRow.cells hown (g:=g) rfl j u hj
     rwa[Addr.add_lit,Nat.zero_add]at this) (by omega) hn (by omega) hnc hb hgl hv hvl h1c h1v).mono ?_
    rintro e w' ⟨v',he,h1,h2,h3⟩
    exact⟨v',he,h1,h2,.inr h3⟩
end Go.Proofs.YtpddanmnlkcdpaaGreatDoor.Pm

